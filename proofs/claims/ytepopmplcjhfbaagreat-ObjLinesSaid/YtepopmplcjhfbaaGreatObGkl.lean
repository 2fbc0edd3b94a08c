import Derived.Test.YtepopmplcjhfbaaGreatObGhj
import Derived.Test.YtepopmplcjhfbaaGreatObGmo
import Derived.Deep.RegionLaw
set_option linter.unusedSectionVars false
set_option linter.unusedVariables false
set_option linter.unusedSimpArgs false
set_option linter.unnecessarySimpa false
/-
  Stage 3: the program's machine of line programs: an instruction.
-/
namespace Go.Ev
open Go.RowKit Go.Proofs Go.Rw
/-- What the machine's world is, but for its block. -/
structure MEnv (W : World) (base M b o n c : Nat) (all : List Nat) (tv : Value) (tab : List LineT) : Prop where
  own : W.ownsRow base 48 4 tv tab.length (flat tab)
  ne : tv.ownBlock ≠ some M
  bytes : AllAt W b o n all
  hb : b < base
  hM : base ≤ M
  hs : base ≤ W.heap.size
  hnc : n ≤ c
  hn : n ≤ 140737488351232
  rng : ∀ x ∈ tab, RngOk x
  len : tab.length ≤ 4000
structure MSt (W : World) (base M b o n c : Nat) (all : List Nat) (p : Nat) (v : LineT) (tv : Value) (tab : List LineT) : Prop where
  mac : MacB W M (some ⟨b, o, none⟩) n c (p : Int) v tv
  env : MEnv W base M b o n c all tv tab
section
variable {W : World} {base M b o n c : Nat} {all : List Nat} {p : Nat} {v : LineT} {tv : Value} {tab : List LineT}
theorem MEnv.set (h : MEnv W base M b o n c all tv tab) (i : Nat) (u : Value) : MEnv (W.setCell ⟨M, i, none⟩ u) base M b o n c all tv tab := by
  have hne : b ≠ M := by have := h.hb; have := h.hM; omega
  refine ⟨?_, h.ne, ⟨h.bytes.1, h.bytes.2.1, fun j hj => ?_⟩, h.hb, h.hM, by rw [World.size_setCell]; exact h.hs, h.hnc, h.hn, h.rng, h.len⟩
  · exact h.own.kept (w' := W.setCell ⟨M, i, none⟩ u) (row := some M) ⟨rfl, rfl, rfl, by simp, fun k _ hk => heap_setCell_other W ⟨M, i, none⟩ k u (fun e => hk (by rw [e]))⟩ (.inr h.ne)
  · rw [World.cell?_of_block (w := W) (heap_setCell_other W ⟨M, i, none⟩ b u hne)]
    exact h.bytes.2.2 j hj
theorem MEnv.drewN (h : MEnv W base M b o n c all tv tab) (k : Nat) : MEnv (W.drewN k) base M b o n c all tv tab := ⟨h.own, h.ne, h.bytes, h.hb, h.hM, h.hs, h.hnc, h.hn, h.rng, h.len⟩
theorem MEnv.below {W' : World} (h : MEnv W base M b o n c all tv tab) (hb : Below W.heap.size W W') : MEnv W' base M b o n c all tv tab := by
  refine ⟨?_, h.ne, ⟨h.bytes.1, h.bytes.2.1, fun j hj => ?_⟩, h.hb, h.hM, Nat.le_trans h.hs hb.size, h.hnc, h.hn, h.rng, h.len⟩
  · exact h.own.kept (w' := W') (row := none) ⟨hb.os, hb.tape, hb.output, hb.size, fun k hk _ => hb.block k hk⟩ (by cases hv : tv.ownBlock <;> simp)
  · have := h.bytes.2.2 j hj
    exact (hb.cell (low_of_cell this)).trans this
theorem MSt.setAt (h : MSt W base M b o n c all p v tv tab) (p' : Nat) : MSt (W.setCell ⟨M, 1, none⟩ (.int .i64 (p' : Int))) base M b o n c all p' v tv tab := ⟨h.mac.setAt _, h.env.set _ _⟩
theorem MSt.setSec (h : MSt W base M b o n c all p v tv tab) (x : Int) : MSt (W.setCell ⟨M, 2, none⟩ (.int .i64 x)) base M b o n c all p ⟨x, v.off, v.file, v.line⟩ tv tab := ⟨h.mac.setSec _, h.env.set _ _⟩
theorem MSt.setOff (h : MSt W base M b o n c all p v tv tab) (x : Int) : MSt (W.setCell ⟨M, 3, none⟩ (.int .i64 x)) base M b o n c all p ⟨v.sec, x, v.file, v.line⟩ tv tab := ⟨h.mac.setOff _, h.env.set _ _⟩
theorem MSt.setFile (h : MSt W base M b o n c all p v tv tab) (x : Int) : MSt (W.setCell ⟨M, 4, none⟩ (.int .i64 x)) base M b o n c all p ⟨v.sec, v.off, x, v.line⟩ tv tab := ⟨h.mac.setFile _, h.env.set _ _⟩
theorem MSt.setLine (h : MSt W base M b o n c all p v tv tab) (x : Int) : MSt (W.setCell ⟨M, 5, none⟩ (.int .i64 x)) base M b o n c all p ⟨v.sec, v.off, v.file, x⟩ tv tab := ⟨h.mac.setLine _, h.env.set _ _⟩
theorem MSt.drewN (h : MSt W base M b o n c all p v tv tab) (k : Nat) : MSt (W.drewN k) base M b o n c all p v tv tab := ⟨h.mac, h.env.drewN k⟩
theorem MSt.below {W' : World} (h : MSt W base M b o n c all p v tv tab) (hb : Below W.heap.size W W') : MSt W' base M b o n c all p v tv tab := ⟨h.mac.below hb, h.env.below hb⟩
theorem MSt.ne (h : MSt W base M b o n c all p v tv tab) : b ≠ M := by have := h.env.hb; have := h.env.hM; omega
end
/-- What an instruction does. -/
def StR (base M b o n c : Nat) (all : List Nat) (p : Nat) (v : LineT) (tab : List LineT) (w : World) (e : Ending) (w' : World) : Prop :=
  Below base w w' ∧ ((stepF v tab (all.drop p) = none ∧ ∃ x y : Int, e = .panicked [fltV x y]) ∨
    (∃ v' tab' p' tv', stepF v tab (all.drop p) = some (v', tab', all.drop p') ∧ p < p' ∧ p' ≤ n ∧ e = .returned (.tuple #[]) ∧ MSt w' base M b o n c all p' v' tv' tab' ∧ RngOk v'))
theorem below_setM {base M : Nat} {w w' : World} (h : Below base w w') (hM : base ≤ M) (i : Nat) (u : Value) : Below base w (w'.setCell ⟨M, i, none⟩ u) := h.setCell (p := ⟨M, i, none⟩) hM u
theorem drop_op {all : List Nat} {p op : Nat} (h : all[p]? = some op) : all.drop p = op :: all.drop (p + 1) := by
  have hl := (List.getElem?_eq_some_iff.1 h).1
  rw [List.drop_eq_getElem_cons hl, (List.getElem?_eq_some_iff.1 h).2]
theorem numF_none {l : List Nat} (h : leadF l = none) : numF l = none := by unfold numF; rw [h]; rfl
theorem numF_at {all : List Nat} {p x s : Nat} (h : leadF (all.drop p) = some (x, s)) : numF (all.drop p) = some (x, all.drop (p + s)) := by
  unfold numF
  rw [h]
  simp [List.drop_drop]
set_option maxRecDepth 100000 in
set_option maxHeartbeats 1000000 in
theorem step_3 {w : World} {base M b o n c : Nat} {all : List Nat} {p : Nat} {v : LineT} {tv : Value} {tab : List LineT} (h : MSt w base M b o n c all p v tv tab) (hv : RngOk v) (hp : p < n) (hop : all[p]? = some 3) : Calls Tryz.prog 105 #[.pointer (some ⟨M, 0, none⟩)] w (StR base M b o n c all p v tab w) := by
  have hdrop := drop_op hop
  have htk := take1_c h.mac hp h.env.hnc h.env.hn
  have hbyte0 := h.env.bytes.2.2 p hp
  rw [show all.getD p 0 = 3 by simp [List.getD, hop]] at hbyte0
  have hbr := h.ne
  have hs0 := h.env.hs
  have hvr := hv
  unfold RngOk at hvr
  obtain ⟨i0, i1, i2, i3, i4, i5, i6⟩ := h.mac.cells
  go_enter Tryz.func105, Tryz.ntmps105
  go_wp2_with fail
  refine htk.mono ?_
  rintro e w1 ⟨rfl, k, hw1⟩
  have h1 : MSt w1 base M b o n c all (p + 1) v tv tab := by rw [hw1]; exact (h.setAt (p + 1)).drewN k
  have hb1 : Below base w w1 := by rw [hw1]; exact below_drewN (below_setM (Below.refl _ _) h.env.hM _ _) _
  have hbyte : w1.cell? ⟨b, o + p, none⟩ = some (.int .u8 ((3 : Nat) : Int)) := by
    rw [hw1]
    show (w.setCell ⟨M, 1, none⟩ _).cell? _ = _
    rw [World.cell?_of_block (w := w) (heap_setCell_other w ⟨M, 1, none⟩ b _ hbr)]
    exact hbyte0
  clear hw1 htk hbyte0 i0 i1 i2 i3 i4 i5 i6
  have hnum := rnumber_c h1.mac h1.env.bytes h1.ne (by omega) h1.env.hnc h1.env.hn
  have hst : stepF v tab (all.drop p) = (numF (all.drop (p + 1))).bind fun q => chkF ⟨v.sec, v.off, q.1, v.line⟩ tab q.2 := by
    rw [hdrop, stepF]
    rw [if_neg (by decide), if_neg (by decide), if_pos rfl]
  have hle := fun x s (e : leadF (all.drop (p + 1)) = some (x, s)) => leadF_le e
  rw [List.length_drop, h1.env.bytes.1] at hle
  have hst := Lib.hid hst
  obtain ⟨i0, i1, i2, i3, i4, i5, i6⟩ := h1.mac.cells
  go_wp2_with fail
  refine hnum.mono ?_
  rintro e w2 (⟨hR, x, y, rfl, k, hw2⟩ | ⟨x, s, hR, rfl, k, hw2⟩)
  · have hb2 : Below base w w2 := by rw [hw2]; exact below_drewN hb1 _
    have hfin := Lib.hid (show stepF v tab (all.drop p) = none by rw [hst.out, numF_none hR]; rfl)
    clear hw2 hR i0 i1 i2 i3 i4 i5 i6
    go_wp2
    exact ⟨rfl, hb2, .inl ⟨hfin.out, x, y, rfl⟩⟩
  · have h2 : MSt w2 base M b o n c all (p + 1 + s) v tv tab := by rw [hw2]; exact (h1.setAt (p + 1 + s)).drewN k
    have hb2 : Below base w w2 := by rw [hw2]; exact below_drewN (below_setM hb1 h.env.hM _ _) _
    have hle := hle x s hR
    have hst2 := hst.out
    rw [numF_at hR] at hst2
    dsimp only [Option.bind] at hst2
    have hst2 := Lib.hid hst2
    clear hw2 hR hnum hst i0 i1 i2 i3 i4 i5 i6 hbyte
    obtain ⟨vs, vo, vf, vl⟩ := v
    dsimp only at hvr
    obtain ⟨i0, i1, i2, i3, i4, i5, i6⟩ := h2.mac.cells
    dsimp only at i2 i3 i4 i5
    have f2 := h2.mac.frozen 4
    obtain ⟨z, hz⟩ : ∃ z : Int, z = (x : Int) := ⟨_, rfl⟩
    have hzw : wrap64 ((x : Int)) = z := by rw [hz]; exact wrap_in (by omega) (by omega)
    have hzp : (x : Int) = z := hz.symm
    have h3 := h2.setFile z
    have hb3 := below_setM hb2 h.env.hM 4 (.int .i64 z)
    have hir := fun W => inRange_c (w := W) vs vo z vl
    dsimp only at h3
    have h3 := Lib.hid h3
    have hb3 := Lib.hid hb3
    by_cases hrng : RngOk ⟨vs, vo, z, vl⟩
    · rw [decide_eq_true hrng] at hir
      have hfin := Lib.hid (show stepF ⟨vs, vo, vf, vl⟩ tab (all.drop p) = some (⟨vs, vo, z, vl⟩, tab, all.drop (p + 1 + s)) by rw [hst2.out]; rw [show ((x : Int)) = z from hz.symm]; exact chkF_ok hrng)
      have hrng := Lib.hid hrng
      clear hz hst2
      go_wp2_with fail
      refine (hir _).mono ?_
      rintro e w3 ⟨rfl, hb4⟩
      have h4 := h3.out.below hb4
      have hb5 := bel_then hb3.out hs0 hb4
      go_wp2_with (go_at_call 172; refine (must_yes _ _).mono ?_; rintro e w4 ⟨rfl, rfl⟩)
      exact ⟨rfl, _, results_none rfl _ _ _, hb5, .inr ⟨_, _, p + 1 + s, tv, hfin.out, by omega, by omega, rfl, h4, hrng.out⟩⟩
    · rw [decide_eq_false hrng] at hir
      have hfin := Lib.hid (show stepF ⟨vs, vo, vf, vl⟩ tab (all.drop p) = none by rw [hst2.out]; rw [show ((x : Int)) = z from hz.symm]; exact if_neg hrng)
      clear hz hst2 hrng
      go_wp2_with fail
      refine (hir _).mono ?_
      rintro e w3 ⟨rfl, hb4⟩
      have hb5 := bel_then hb3.out hs0 hb4
      go_wp2_with (go_at_call 172; refine (must_no _ _).mono ?_; rintro e w4 ⟨rfl, rfl⟩)
      exact ⟨rfl, hb5, .inl ⟨hfin.out, _, _, rfl⟩⟩
set_option maxRecDepth 100000 in
set_option maxHeartbeats 1000000 in
theorem step_2 {w : World} {base M b o n c : Nat} {all : List Nat} {p : Nat} {v : LineT} {tv : Value} {tab : List LineT} (h : MSt w base M b o n c all p v tv tab) (hv : RngOk v) (hp : p < n) (hop : all[p]? = some 2) : Calls Tryz.prog 105 #[.pointer (some ⟨M, 0, none⟩)] w (StR base M b o n c all p v tab w) := by
  have hdrop := drop_op hop
  have htk := take1_c h.mac hp h.env.hnc h.env.hn
  have hbyte0 := h.env.bytes.2.2 p hp
  rw [show all.getD p 0 = 2 by simp [List.getD, hop]] at hbyte0
  have hbr := h.ne
  have hs0 := h.env.hs
  have hvr := hv
  unfold RngOk at hvr
  obtain ⟨i0, i1, i2, i3, i4, i5, i6⟩ := h.mac.cells
  go_enter Tryz.func105, Tryz.ntmps105
  go_wp2_with fail
  refine htk.mono ?_
  rintro e w1 ⟨rfl, k, hw1⟩
  have h1 : MSt w1 base M b o n c all (p + 1) v tv tab := by rw [hw1]; exact (h.setAt (p + 1)).drewN k
  have hb1 : Below base w w1 := by rw [hw1]; exact below_drewN (below_setM (Below.refl _ _) h.env.hM _ _) _
  have hbyte : w1.cell? ⟨b, o + p, none⟩ = some (.int .u8 ((2 : Nat) : Int)) := by
    rw [hw1]
    show (w.setCell ⟨M, 1, none⟩ _).cell? _ = _
    rw [World.cell?_of_block (w := w) (heap_setCell_other w ⟨M, 1, none⟩ b _ hbr)]
    exact hbyte0
  clear hw1 htk hbyte0 i0 i1 i2 i3 i4 i5 i6
  have hnum := rsigned_c h1.mac h1.env.bytes h1.ne (by omega) h1.env.hnc h1.env.hn
  have hst : stepF v tab (all.drop p) = (numF (all.drop (p + 1))).bind fun q => chkF ⟨v.sec, v.off, v.file, v.line + unzig q.1⟩ tab q.2 := by
    rw [hdrop, stepF]
    rw [if_neg (by decide), if_pos rfl]
  have hle := fun x s (e : leadF (all.drop (p + 1)) = some (x, s)) => leadF_le e
  rw [List.length_drop, h1.env.bytes.1] at hle
  have hst := Lib.hid hst
  obtain ⟨i0, i1, i2, i3, i4, i5, i6⟩ := h1.mac.cells
  go_wp2_with fail
  refine hnum.mono ?_
  rintro e w2 (⟨hR, x, y, rfl, k, hw2⟩ | ⟨x, s, hR, he, k, hw2⟩)
  · have hb2 : Below base w w2 := by rw [hw2]; exact below_drewN hb1 _
    have hfin := Lib.hid (show stepF v tab (all.drop p) = none by rw [hst.out, numF_none hR]; rfl)
    clear hw2 hR i0 i1 i2 i3 i4 i5 i6
    go_wp2
    exact ⟨rfl, hb2, .inl ⟨hfin.out, x, y, rfl⟩⟩
  · have h2 : MSt w2 base M b o n c all (p + 1 + s) v tv tab := by rw [hw2]; exact (h1.setAt (p + 1 + s)).drewN k
    have hb2 : Below base w w2 := by rw [hw2]; exact below_drewN (below_setM hb1 h.env.hM _ _) _
    have hle := hle x s hR
    obtain ⟨u, hu⟩ : ∃ u : Int, u = unzig x := ⟨_, rfl⟩
    have hub : -2147483648 ≤ u ∧ u ≤ 2147483647 := by rw [hu]; unfold unzig; split <;> omega
    rw [← hu] at he
    subst he
    have hst2 := hst.out
    rw [numF_at hR] at hst2
    dsimp only [Option.bind] at hst2
    rw [← hu] at hst2
    clear hu
    have hst2 := Lib.hid hst2
    clear hw2 hR hnum hst i0 i1 i2 i3 i4 i5 i6 hbyte
    obtain ⟨vs, vo, vf, vl⟩ := v
    dsimp only at hvr
    obtain ⟨i0, i1, i2, i3, i4, i5, i6⟩ := h2.mac.cells
    dsimp only at i2 i3 i4 i5
    have f2 := h2.mac.frozen 5
    obtain ⟨z, hz⟩ : ∃ z : Int, z = vl + u := ⟨_, rfl⟩
    have hzw : wrap64 (vl + u) = z := by rw [hz]; exact wrap_in (by omega) (by omega)
    have hzp : vl + u = z := hz.symm
    have h3 := h2.setLine z
    have hb3 := below_setM hb2 h.env.hM 5 (.int .i64 z)
    have hir := fun W => inRange_c (w := W) vs vo vf z
    dsimp only at h3
    have h3 := Lib.hid h3
    have hb3 := Lib.hid hb3
    by_cases hrng : RngOk ⟨vs, vo, vf, z⟩
    · rw [decide_eq_true hrng] at hir
      have hfin := Lib.hid (show stepF ⟨vs, vo, vf, vl⟩ tab (all.drop p) = some (⟨vs, vo, vf, z⟩, tab, all.drop (p + 1 + s)) by rw [hst2.out]; rw [show (vl + u) = z from hz.symm]; exact chkF_ok hrng)
      have hrng := Lib.hid hrng
      clear hz hst2
      go_wp2_with fail
      refine (hir _).mono ?_
      rintro e w3 ⟨rfl, hb4⟩
      have h4 := h3.out.below hb4
      have hb5 := bel_then hb3.out hs0 hb4
      go_wp2_with (go_at_call 172; refine (must_yes _ _).mono ?_; rintro e w4 ⟨rfl, rfl⟩)
      exact ⟨rfl, _, results_none rfl _ _ _, hb5, .inr ⟨_, _, p + 1 + s, tv, hfin.out, by omega, by omega, rfl, h4, hrng.out⟩⟩
    · rw [decide_eq_false hrng] at hir
      have hfin := Lib.hid (show stepF ⟨vs, vo, vf, vl⟩ tab (all.drop p) = none by rw [hst2.out]; rw [show (vl + u) = z from hz.symm]; exact if_neg hrng)
      clear hz hst2 hrng
      go_wp2_with fail
      refine (hir _).mono ?_
      rintro e w3 ⟨rfl, hb4⟩
      have hb5 := bel_then hb3.out hs0 hb4
      go_wp2_with (go_at_call 172; refine (must_no _ _).mono ?_; rintro e w4 ⟨rfl, rfl⟩)
      exact ⟨rfl, hb5, .inl ⟨hfin.out, _, _, rfl⟩⟩
set_option maxRecDepth 100000 in
set_option maxHeartbeats 1000000 in
theorem step_1 {w : World} {base M b o n c : Nat} {all : List Nat} {p : Nat} {v : LineT} {tv : Value} {tab : List LineT} (h : MSt w base M b o n c all p v tv tab) (hv : RngOk v) (hp : p < n) (hop : all[p]? = some 1) : Calls Tryz.prog 105 #[.pointer (some ⟨M, 0, none⟩)] w (StR base M b o n c all p v tab w) := by
  have hdrop := drop_op hop
  have htk := take1_c h.mac hp h.env.hnc h.env.hn
  have hbyte0 := h.env.bytes.2.2 p hp
  rw [show all.getD p 0 = 1 by simp [List.getD, hop]] at hbyte0
  have hbr := h.ne
  have hs0 := h.env.hs
  have hvr := hv
  unfold RngOk at hvr
  obtain ⟨i0, i1, i2, i3, i4, i5, i6⟩ := h.mac.cells
  go_enter Tryz.func105, Tryz.ntmps105
  go_wp2_with fail
  refine htk.mono ?_
  rintro e w1 ⟨rfl, k, hw1⟩
  have h1 : MSt w1 base M b o n c all (p + 1) v tv tab := by rw [hw1]; exact (h.setAt (p + 1)).drewN k
  have hb1 : Below base w w1 := by rw [hw1]; exact below_drewN (below_setM (Below.refl _ _) h.env.hM _ _) _
  have hbyte : w1.cell? ⟨b, o + p, none⟩ = some (.int .u8 ((1 : Nat) : Int)) := by
    rw [hw1]
    show (w.setCell ⟨M, 1, none⟩ _).cell? _ = _
    rw [World.cell?_of_block (w := w) (heap_setCell_other w ⟨M, 1, none⟩ b _ hbr)]
    exact hbyte0
  clear hw1 htk hbyte0 i0 i1 i2 i3 i4 i5 i6
  have hnum := rnumber_c h1.mac h1.env.bytes h1.ne (by omega) h1.env.hnc h1.env.hn
  have hst : stepF v tab (all.drop p) = (numF (all.drop (p + 1))).bind fun q => chkF ⟨v.sec, v.off + q.1, v.file, v.line⟩ tab q.2 := by
    rw [hdrop, stepF]
    rw [if_pos rfl]
  have hle := fun x s (e : leadF (all.drop (p + 1)) = some (x, s)) => leadF_le e
  rw [List.length_drop, h1.env.bytes.1] at hle
  have hst := Lib.hid hst
  obtain ⟨i0, i1, i2, i3, i4, i5, i6⟩ := h1.mac.cells
  go_wp2_with fail
  refine hnum.mono ?_
  rintro e w2 (⟨hR, x, y, rfl, k, hw2⟩ | ⟨x, s, hR, rfl, k, hw2⟩)
  · have hb2 : Below base w w2 := by rw [hw2]; exact below_drewN hb1 _
    have hfin := Lib.hid (show stepF v tab (all.drop p) = none by rw [hst.out, numF_none hR]; rfl)
    clear hw2 hR i0 i1 i2 i3 i4 i5 i6
    go_wp2
    exact ⟨rfl, hb2, .inl ⟨hfin.out, x, y, rfl⟩⟩
  · have h2 : MSt w2 base M b o n c all (p + 1 + s) v tv tab := by rw [hw2]; exact (h1.setAt (p + 1 + s)).drewN k
    have hb2 : Below base w w2 := by rw [hw2]; exact below_drewN (below_setM hb1 h.env.hM _ _) _
    have hle := hle x s hR
    have hst2 := hst.out
    rw [numF_at hR] at hst2
    dsimp only [Option.bind] at hst2
    have hst2 := Lib.hid hst2
    clear hw2 hR hnum hst i0 i1 i2 i3 i4 i5 i6 hbyte
    obtain ⟨vs, vo, vf, vl⟩ := v
    dsimp only at hvr
    obtain ⟨i0, i1, i2, i3, i4, i5, i6⟩ := h2.mac.cells
    dsimp only at i2 i3 i4 i5
    have f2 := h2.mac.frozen 3
    obtain ⟨z, hz⟩ : ∃ z : Int, z = vo + (x : Int) := ⟨_, rfl⟩
    have hzw : wrap64 (vo + (x : Int)) = z := by rw [hz]; exact wrap_in (by omega) (by omega)
    have hzp : vo + (x : Int) = z := hz.symm
    have h3 := h2.setOff z
    have hb3 := below_setM hb2 h.env.hM 3 (.int .i64 z)
    have hir := fun W => inRange_c (w := W) vs z vf vl
    dsimp only at h3
    have h3 := Lib.hid h3
    have hb3 := Lib.hid hb3
    by_cases hrng : RngOk ⟨vs, z, vf, vl⟩
    · rw [decide_eq_true hrng] at hir
      have hfin := Lib.hid (show stepF ⟨vs, vo, vf, vl⟩ tab (all.drop p) = some (⟨vs, z, vf, vl⟩, tab, all.drop (p + 1 + s)) by rw [hst2.out]; rw [show (vo + (x : Int)) = z from hz.symm]; exact chkF_ok hrng)
      have hrng := Lib.hid hrng
      clear hz hst2
      go_wp2_with fail
      refine (hir _).mono ?_
      rintro e w3 ⟨rfl, hb4⟩
      have h4 := h3.out.below hb4
      have hb5 := bel_then hb3.out hs0 hb4
      go_wp2_with (go_at_call 172; refine (must_yes _ _).mono ?_; rintro e w4 ⟨rfl, rfl⟩)
      exact ⟨rfl, _, results_none rfl _ _ _, hb5, .inr ⟨_, _, p + 1 + s, tv, hfin.out, by omega, by omega, rfl, h4, hrng.out⟩⟩
    · rw [decide_eq_false hrng] at hir
      have hfin := Lib.hid (show stepF ⟨vs, vo, vf, vl⟩ tab (all.drop p) = none by rw [hst2.out]; rw [show (vo + (x : Int)) = z from hz.symm]; exact if_neg hrng)
      clear hz hst2 hrng
      go_wp2_with fail
      refine (hir _).mono ?_
      rintro e w3 ⟨rfl, hb4⟩
      have hb5 := bel_then hb3.out hs0 hb4
      go_wp2_with (go_at_call 172; refine (must_no _ _).mono ?_; rintro e w4 ⟨rfl, rfl⟩)
      exact ⟨rfl, hb5, .inl ⟨hfin.out, _, _, rfl⟩⟩
end Go.Ev

/-
  Stage 3: the program's machine of line programs: the other instructions.
-/
namespace Go.Ev
open Go.RowKit Go.Proofs Go.Rw
set_option maxRecDepth 100000 in
set_option maxHeartbeats 1000000 in
theorem step_4 {w : World} {base M b o n c : Nat} {all : List Nat} {p : Nat} {v : LineT} {tv : Value} {tab : List LineT} (h : MSt w base M b o n c all p v tv tab) (hv : RngOk v) (hp : p < n) (hop : all[p]? = some 4) : Calls Tryz.prog 105 #[.pointer (some ⟨M, 0, none⟩)] w (StR base M b o n c all p v tab w) := by
  have hdrop := drop_op hop
  have htk := take1_c h.mac hp h.env.hnc h.env.hn
  have hbyte0 := h.env.bytes.2.2 p hp
  rw [show all.getD p 0 = 4 by simp [List.getD, hop]] at hbyte0
  have hbr := h.ne
  have hs0 := h.env.hs
  have hvr := hv
  unfold RngOk at hvr
  obtain ⟨i0, i1, i2, i3, i4, i5, i6⟩ := h.mac.cells
  go_enter Tryz.func105, Tryz.ntmps105
  go_wp2_with fail
  refine htk.mono ?_
  rintro e w1 ⟨rfl, k, hw1⟩
  have h1 : MSt w1 base M b o n c all (p + 1) v tv tab := by rw [hw1]; exact (h.setAt (p + 1)).drewN k
  have hb1 : Below base w w1 := by rw [hw1]; exact below_drewN (below_setM (Below.refl _ _) h.env.hM _ _) _
  have hbyte : w1.cell? ⟨b, o + p, none⟩ = some (.int .u8 ((4 : Nat) : Int)) := by
    rw [hw1]
    show (w.setCell ⟨M, 1, none⟩ _).cell? _ = _
    rw [World.cell?_of_block (w := w) (heap_setCell_other w ⟨M, 1, none⟩ b _ hbr)]
    exact hbyte0
  clear hw1 htk hbyte0 i0 i1 i2 i3 i4 i5 i6
  have hnum := rnumber_c h1.mac h1.env.bytes h1.ne (by omega) h1.env.hnc h1.env.hn
  have hst : stepF v tab (all.drop p) = (numF (all.drop (p + 1))).bind fun q => if q.1 = 0 then none else chkF ⟨v.sec + q.1, 0, v.file, v.line⟩ tab q.2 := by
    rw [hdrop, stepF]
    rw [if_neg (by decide), if_neg (by decide), if_neg (by decide), if_pos rfl]
  have hle := fun x s (e : leadF (all.drop (p + 1)) = some (x, s)) => leadF_le e
  rw [List.length_drop, h1.env.bytes.1] at hle
  have hst := Lib.hid hst
  obtain ⟨i0, i1, i2, i3, i4, i5, i6⟩ := h1.mac.cells
  go_wp2_with fail
  refine hnum.mono ?_
  rintro e w2 (⟨hR, x, y, rfl, k, hw2⟩ | ⟨x, s, hR, rfl, k, hw2⟩)
  · have hb2 : Below base w w2 := by rw [hw2]; exact below_drewN hb1 _
    have hfin := Lib.hid (show stepF v tab (all.drop p) = none by rw [hst.out, numF_none hR]; rfl)
    clear hw2 hR i0 i1 i2 i3 i4 i5 i6
    go_wp2
    exact ⟨rfl, hb2, .inl ⟨hfin.out, x, y, rfl⟩⟩
  · have h2 : MSt w2 base M b o n c all (p + 1 + s) v tv tab := by rw [hw2]; exact (h1.setAt (p + 1 + s)).drewN k
    have hb2 : Below base w w2 := by rw [hw2]; exact below_drewN (below_setM hb1 h.env.hM _ _) _
    have hle := hle x s hR
    have hst2 := hst.out
    rw [numF_at hR] at hst2
    dsimp only [Option.bind] at hst2
    clear hw2 hR hnum hst i0 i1 i2 i3 i4 i5 i6 hbyte
    by_cases hx0 : x = 0
    · rw [if_pos hx0] at hst2
      have hst2 := Lib.hid hst2
      have hxd : decide ((1 : Int) ≤ (x : Int)) = false := decide_eq_false (by omega)
      have hxd2 : decide (1 ≤ x) = false := decide_eq_false (by omega)
      clear hx0
      go_wp2_with (go_at_call 172; refine (must_no _ _).mono ?_; rintro e w4 ⟨rfl, rfl⟩)
      exact ⟨rfl, hb2, .inl ⟨hst2.out, _, _, rfl⟩⟩
    · rw [if_neg hx0] at hst2
      have hst2 := Lib.hid hst2
      have hxd : decide ((1 : Int) ≤ (x : Int)) = true := decide_eq_true (by omega)
      have hxd2 : decide (1 ≤ x) = true := decide_eq_true (by omega)
      obtain ⟨vs, vo, vf, vl⟩ := v
      dsimp only at hvr
      obtain ⟨i0, i1, i2, i3, i4, i5, i6⟩ := h2.mac.cells
      dsimp only at i2 i3 i4 i5
      have f2 := h2.mac.frozen 2
      have f3 := h2.mac.frozen 3
      obtain ⟨z, hz⟩ : ∃ z : Int, z = vs + (x : Int) := ⟨_, rfl⟩
      have hzw : wrap64 (vs + (x : Int)) = z := by rw [hz]; exact wrap_in (by omega) (by omega)
      have hzp : vs + (x : Int) = z := hz.symm
      have h3 := (h2.setSec z).setOff 0
      have hb3 := below_setM (below_setM hb2 h.env.hM 2 (.int .i64 z)) h.env.hM 3 (.int .i64 0)
      have hir := fun W => inRange_c (w := W) z 0 vf vl
      dsimp only at h3
      have h3 := Lib.hid h3
      have hb3 := Lib.hid hb3
      by_cases hrng : RngOk ⟨z, 0, vf, vl⟩
      · rw [decide_eq_true hrng] at hir
        have hfin := Lib.hid (show stepF ⟨vs, vo, vf, vl⟩ tab (all.drop p) = some (⟨z, 0, vf, vl⟩, tab, all.drop (p + 1 + s)) by rw [hst2.out]; rw [show (vs + (x : Int)) = z from hz.symm]; exact chkF_ok hrng)
        have hrng := Lib.hid hrng
        clear hz hst2
        go_wp2_with (first
          | (go_at_call 172; refine (must_yes _ _).mono ?_; rintro e w4 ⟨rfl, rfl⟩)
          | fail)
        refine (hir _).mono ?_
        rintro e w3 ⟨rfl, hb4⟩
        have h4 := h3.out.below hb4
        have hb5 := bel_then hb3.out hs0 hb4
        go_wp2_with (go_at_call 172; refine (must_yes _ _).mono ?_; rintro e w4 ⟨rfl, rfl⟩)
        exact ⟨rfl, _, results_none rfl _ _ _, hb5, .inr ⟨_, _, p + 1 + s, tv, hfin.out, by omega, by omega, rfl, h4, hrng.out⟩⟩
      · rw [decide_eq_false hrng] at hir
        have hfin := Lib.hid (show stepF ⟨vs, vo, vf, vl⟩ tab (all.drop p) = none by rw [hst2.out]; rw [show (vs + (x : Int)) = z from hz.symm]; exact if_neg hrng)
        clear hz hst2 hrng
        go_wp2_with (first
          | (go_at_call 172; refine (must_yes _ _).mono ?_; rintro e w4 ⟨rfl, rfl⟩)
          | fail)
        refine (hir _).mono ?_
        rintro e w3 ⟨rfl, hb4⟩
        have hb5 := bel_then hb3.out hs0 hb4
        go_wp2_with (go_at_call 172; refine (must_no _ _).mono ?_; rintro e w4 ⟨rfl, rfl⟩)
        exact ⟨rfl, hb5, .inl ⟨hfin.out, _, _, rfl⟩⟩
set_option maxRecDepth 100000 in
set_option maxHeartbeats 1000000 in
theorem step_x {w : World} {base M b o n c : Nat} {all : List Nat} {p : Nat} {v : LineT} {tv : Value} {tab : List LineT} (h : MSt w base M b o n c all p v tv tab) (hv : RngOk v) (hp : p < n) {op : Nat} (hop : all[p]? = some op) (o1 : op ≠ 1) (o2 : op ≠ 2) (o3 : op ≠ 3) (o4 : op ≠ 4) (o5 : op ≠ 5) (o6 : op < 64) : Calls Tryz.prog 105 #[.pointer (some ⟨M, 0, none⟩)] w (StR base M b o n c all p v tab w) := by
  have hdrop := drop_op hop
  have htk := take1_c h.mac hp h.env.hnc h.env.hn
  have hbyte0 := h.env.bytes.2.2 p hp
  rw [show all.getD p 0 = op by simp [List.getD, hop]] at hbyte0
  have hbr := h.ne
  have hs0 := h.env.hs
  have hvr := hv
  unfold RngOk at hvr
  obtain ⟨i0, i1, i2, i3, i4, i5, i6⟩ := h.mac.cells
  go_enter Tryz.func105, Tryz.ntmps105
  go_wp2_with fail
  refine htk.mono ?_
  rintro e w1 ⟨rfl, k, hw1⟩
  have h1 : MSt w1 base M b o n c all (p + 1) v tv tab := by rw [hw1]; exact (h.setAt (p + 1)).drewN k
  have hb1 : Below base w w1 := by rw [hw1]; exact below_drewN (below_setM (Below.refl _ _) h.env.hM _ _) _
  have hbyte : w1.cell? ⟨b, o + p, none⟩ = some (.int .u8 (op : Int)) := by
    rw [hw1]
    show (w.setCell ⟨M, 1, none⟩ _).cell? _ = _
    rw [World.cell?_of_block (w := w) (heap_setCell_other w ⟨M, 1, none⟩ b _ hbr)]
    exact hbyte0
  clear hw1 htk hbyte0 i0 i1 i2 i3 i4 i5 i6
  have hfin := Lib.hid (show stepF v tab (all.drop p) = none by
    rw [hdrop, stepF, if_neg o1, if_neg o2, if_neg o3, if_neg o4, if_neg (by omega), if_neg o5])
  have b1 : ((op : Int) == 1) = false := beq_eq_false_iff_ne.2 (by omega)
  have b2 : ((op : Int) == 2) = false := beq_eq_false_iff_ne.2 (by omega)
  have b3 : ((op : Int) == 3) = false := beq_eq_false_iff_ne.2 (by omega)
  have b4 : ((op : Int) == 4) = false := beq_eq_false_iff_ne.2 (by omega)
  have b5 : ((op : Int) == 5) = false := beq_eq_false_iff_ne.2 (by omega)
  have b6 : ¬ (64 : Int) ≤ (op : Int) := by omega
  have b7 : (op : Int) < 64 := by omega
  clear o1 o2 o3 o4 o5 hop hdrop
  obtain ⟨i0, i1, i2, i3, i4, i5, i6⟩ := h1.mac.cells
  go_wp2
  exact ⟨rfl, hb1, .inl ⟨hfin.out, _, _, rfl⟩⟩
end Go.Ev

