import Derived.Test.YtepopmplcjhfbaaGreatObG04
import Derived.Deep.RegionLaw
set_option linter.unusedSectionVars false
set_option linter.unusedVariables false
set_option linter.unusedSimpArgs false
set_option linter.unnecessarySimpa false
namespace Go.Ev
open Go.RowKit Go.Proofs Go.Rw
structure MEnv (W : World) (base M b o n c : Nat) (all : List Nat) (tv : Value) (tab : List LineT) : Prop where
  own : W.ownsRow base 48 4 tv tab.length (flat tab)
  ne : tv.ownBlock ≠ some M
  bytes : AllAt W b o n all
  hb : b < base
  hM : base ≤ M
  hs : base ≤ W.heap.size
  hnc : n ≤ c
  hn : n ≤ 140737488351232
  rng : ∀ x ∈ tab, RngOk x
  len : tab.length ≤ 4000
structure MSt (W : World) (base M b o n c : Nat) (all : List Nat) (p : Nat) (v : LineT) (tv : Value) (tab : List LineT) : Prop where
  mac : MacB W M (some ⟨b, o, none⟩) n c (p : Int) v tv
  env : MEnv W base M b o n c all tv tab
section
variable {W : World} {base M b o n c : Nat} {all : List Nat} {p : Nat} {v : LineT} {tv : Value} {tab : List LineT}
theorem MEnv.set (h : MEnv W base M b o n c all tv tab) (i : Nat) (u : Value) : MEnv (W.setCell ⟨M, i, none⟩ u) base M b o n c all tv tab := by
  have hne : b ≠ M := by have := h.hb; have := h.hM; omega
  refine ⟨?_, h.ne, ⟨h.bytes.1, h.bytes.2.1, fun j hj => ?_⟩, h.hb, h.hM, by rw [World.size_setCell]; exact h.hs, h.hnc, h.hn, h.rng, h.len⟩
  · exact h.own.kept (w' := W.setCell ⟨M, i, none⟩ u) (row := some M) ⟨rfl, rfl, rfl, by simp, fun k _ hk => heap_setCell_other W ⟨M, i, none⟩ k u (fun e => hk (by rw [e]))⟩ (.inr h.ne)
  · rw [World.cell?_of_block (w := W) (heap_setCell_other W ⟨M, i, none⟩ b u hne)]
    exact h.bytes.2.2 j hj
theorem MEnv.drewN (h : MEnv W base M b o n c all tv tab) (k : Nat) : MEnv (W.drewN k) base M b o n c all tv tab := ⟨h.own, h.ne, h.bytes, h.hb, h.hM, h.hs, h.hnc, h.hn, h.rng, h.len⟩
theorem MEnv.below {W' : World} (h : MEnv W base M b o n c all tv tab) (hb : Below W.heap.size W W') : MEnv W' base M b o n c all tv tab := by
  refine ⟨?_, h.ne, ⟨h.bytes.1, h.bytes.2.1, fun j hj => ?_⟩, h.hb, h.hM, Nat.le_trans h.hs hb.size, h.hnc, h.hn, h.rng, h.len⟩
  · exact h.own.kept (w' := W') (row := none) ⟨hb.os, hb.tape, hb.output, hb.size, fun k hk _ => hb.block k hk⟩ (by cases hv : tv.ownBlock <;> simp)
  · have := h.bytes.2.2 j hj
    exact (hb.cell (low_of_cell this)).trans this
theorem MSt.setAt (h : MSt W base M b o n c all p v tv tab) (p' : Nat) : MSt (W.setCell ⟨M, 1, none⟩ (.int .i64 (p' : Int))) base M b o n c all p' v tv tab := ⟨h.mac.setAt _, h.env.set _ _⟩
theorem MSt.setSec (h : MSt W base M b o n c all p v tv tab) (x : Int) : MSt (W.setCell ⟨M, 2, none⟩ (.int .i64 x)) base M b o n c all p ⟨x, v.off, v.file, v.line⟩ tv tab := ⟨h.mac.setSec _, h.env.set _ _⟩
theorem MSt.setOff (h : MSt W base M b o n c all p v tv tab) (x : Int) : MSt (W.setCell ⟨M, 3, none⟩ (.int .i64 x)) base M b o n c all p ⟨v.sec, x, v.file, v.line⟩ tv tab := ⟨h.mac.setOff _, h.env.set _ _⟩
theorem MSt.setFile (h : MSt W base M b o n c all p v tv tab) (x : Int) : MSt (W.setCell ⟨M, 4, none⟩ (.int .i64 x)) base M b o n c all p ⟨v.sec, v.off, x, v.line⟩ tv tab := ⟨h.mac.setFile _, h.env.set _ _⟩
theorem MSt.setLine (h : MSt W base M b o n c all p v tv tab) (x : Int) : MSt (W.setCell ⟨M, 5, none⟩ (.int .i64 x)) base M b o n c all p ⟨v.sec, v.off, v.file, x⟩ tv tab := ⟨h.mac.setLine _, h.env.set _ _⟩
theorem MSt.drewN (h : MSt W base M b o n c all p v tv tab) (k : Nat) : MSt (W.drewN k) base M b o n c all p v tv tab := ⟨h.mac, h.env.drewN k⟩
theorem MSt.below {W' : World} (h : MSt W base M b o n c all p v tv tab) (hb : Below W.heap.size W W') : MSt W' base M b o n c all p v tv tab := ⟨h.mac.below hb, h.env.below hb⟩
theorem MSt.ne (h : MSt W base M b o n c all p v tv tab) : b ≠ M := by have := h.env.hb; have := h.env.hM; omega
end
def StR (base M b o n c : Nat) (all : List Nat) (p : Nat) (v : LineT) (tab : List LineT) (w : World) (e : Ending) (w' : World) : Prop :=
  Below base w w' ∧ ((stepF v tab (all.drop p) = none ∧ ∃ x y : Int, e = .panicked [fltV x y]) ∨
    (∃ v' tab' p' tv', stepF v tab (all.drop p) = some (v', tab', all.drop p') ∧ p < p' ∧ p' ≤ n ∧ e = .returned (.tuple #[]) ∧ MSt w' base M b o n c all p' v' tv' tab' ∧ RngOk v'))
theorem below_setM {base M : Nat} {w w' : World} (h : Below base w w') (hM : base ≤ M) (i : Nat) (u : Value) : Below base w (w'.setCell ⟨M, i, none⟩ u) := h.setCell (p := ⟨M, i, none⟩) hM u
theorem drop_op {all : List Nat} {p op : Nat} (h : all[p]? = some op) : all.drop p = op :: all.drop (p + 1) := by
  have hl := (List.getElem?_eq_some_iff.1 h).1
  rw [List.drop_eq_getElem_cons hl, (List.getElem?_eq_some_iff.1 h).2]
theorem numF_none {l : List Nat} (h : leadF l = none) : numF l = none := by unfold numF; rw [h]; rfl
theorem numF_at {all : List Nat} {p x s : Nat} (h : leadF (all.drop p) = some (x, s)) : numF (all.drop p) = some (x, all.drop (p + s)) := by
  unfold numF
  rw [h]
  simp [List.drop_drop]
set_option maxRecDepth 100000 in
set_option maxHeartbeats 1000000 in
theorem step_3 {w : World} {base M b o n c : Nat} {all : List Nat} {p : Nat} {v : LineT} {tv : Value} {tab : List LineT} (h : MSt w base M b o n c all p v tv tab) (hv : RngOk v) (hp : p < n) (hop : all[p]? = some 3) : Calls Tryz.prog 105 #[.pointer (some ⟨M, 0, none⟩)] w (StR base M b o n c all p v tab w) := by
  have hdrop := drop_op hop
  have htk := take1_c h.mac hp h.env.hnc h.env.hn
  have hbyte0 := h.env.bytes.2.2 p hp
  rw [show all.getD p 0 = 3 by simp [List.getD, hop]] at hbyte0
  have hbr := h.ne
  have hs0 := h.env.hs
  have hvr := hv
  unfold RngOk at hvr
  obtain ⟨i0, i1, i2, i3, i4, i5, i6⟩ := h.mac.cells
  go_enter Tryz.func105, Tryz.ntmps105
  go_wp2_with fail
  refine htk.mono ?_
  rintro e w1 ⟨rfl, k, hw1⟩
  have h1 : MSt w1 base M b o n c all (p + 1) v tv tab := by rw [hw1]; exact (h.setAt (p + 1)).drewN k
  have hb1 : Below base w w1 := by rw [hw1]; exact below_drewN (below_setM (Below.refl _ _) h.env.hM _ _) _
  have hbyte : w1.cell? ⟨b, o + p, none⟩ = some (.int .u8 ((3 : Nat) : Int)) := by
    rw [hw1]
    show (w.setCell ⟨M, 1, none⟩ _).cell? _ = _
    rw [World.cell?_of_block (w := w) (heap_setCell_other w ⟨M, 1, none⟩ b _ hbr)]
    exact hbyte0
  clear hw1 htk hbyte0 i0 i1 i2 i3 i4 i5 i6
  have hnum := rnumber_c h1.mac h1.env.bytes h1.ne (by omega) h1.env.hnc h1.env.hn
  have hst : stepF v tab (all.drop p) = (numF (all.drop (p + 1))).bind fun q => chkF ⟨v.sec, v.off, q.1, v.line⟩ tab q.2 := by
    rw [hdrop, stepF]
    rw [if_neg (by decide), if_neg (by decide), if_pos rfl]
  have hle := fun x s (e : leadF (all.drop (p + 1)) = some (x, s)) => leadF_le e
  rw [List.length_drop, h1.env.bytes.1] at hle
  have hst := Lib.hid hst
  obtain ⟨i0, i1, i2, i3, i4, i5, i6⟩ := h1.mac.cells
  go_wp2_with fail
  refine hnum.mono ?_
  rintro e w2 (⟨hR, x, y, rfl, k, hw2⟩ | ⟨x, s, hR, rfl, k, hw2⟩)
  · have hb2 : Below base w w2 := by rw [hw2]; exact below_drewN hb1 _
    have hfin := Lib.hid (show stepF v tab (all.drop p) = none by rw [hst.out, numF_none hR]; rfl)
    clear hw2 hR i0 i1 i2 i3 i4 i5 i6
    go_wp2
    exact ⟨rfl, hb2, .inl ⟨hfin.out, x, y, rfl⟩⟩
  · have h2 : MSt w2 base M b o n c all (p + 1 + s) v tv tab := by rw [hw2]; exact (h1.setAt (p + 1 + s)).drewN k
    have hb2 : Below base w w2 := by rw [hw2]; exact below_drewN (below_setM hb1 h.env.hM _ _) _
    have hle := hle x s hR
    have hst2 := hst.out
    rw [numF_at hR] at hst2
    dsimp only [Option.bind] at hst2
    have hst2 := Lib.hid hst2
    clear hw2 hR hnum hst i0 i1 i2 i3 i4 i5 i6 hbyte
    obtain ⟨vs, vo, vf, vl⟩ := v
    dsimp only at hvr
    obtain ⟨i0, i1, i2, i3, i4, i5, i6⟩ := h2.mac.cells
    dsimp only at i2 i3 i4 i5
    have f2 := h2.mac.frozen 4
    obtain ⟨z, hz⟩ : ∃ z : Int, z = (x : Int) := ⟨_, rfl⟩
    have hzw : wrap64 ((x : Int)) = z := by rw [hz]; exact wrap_in (by omega) (by omega)
    have hzp : (x : Int) = z := hz.symm
    have h3 := h2.setFile z
    have hb3 := below_setM hb2 h.env.hM 4 (.int .i64 z)
    have hir := fun W => inRange_c (w := W) vs vo z vl
    dsimp only at h3
    have h3 := Lib.hid h3
    have hb3 := Lib.hid hb3
    by_cases hrng : RngOk ⟨vs, vo, z, vl⟩
    · rw [decide_eq_true hrng] at hir
      have hfin := Lib.hid (show stepF ⟨vs, vo, vf, vl⟩ tab (all.drop p) = some (⟨vs, vo, z, vl⟩, tab, all.drop (p + 1 + s)) by rw [hst2.out]; rw [show ((x : Int)) = z from hz.symm]; exact chkF_ok hrng)
      have hrng := Lib.hid hrng
      clear hz hst2
      go_wp2_with fail
      refine (hir _).mono ?_
      rintro e w3 ⟨rfl, hb4⟩
      have h4 := h3.out.below hb4
      have hb5 := bel_then hb3.out hs0 hb4
      go_wp2_with (go_at_call 172; refine (must_yes _ _).mono ?_; rintro e w4 ⟨rfl, rfl⟩)
      exact ⟨rfl, _, results_none rfl _ _ _, hb5, .inr ⟨_, _, p + 1 + s, tv, hfin.out, by omega, by omega, rfl, h4, hrng.out⟩⟩
    · rw [decide_eq_false hrng] at hir
      have hfin := Lib.hid (show stepF ⟨vs, vo, vf, vl⟩ tab (all.drop p) = none by rw [hst2.out]; rw [show ((x : Int)) = z from hz.symm]; exact if_neg hrng)
      clear hz hst2 hrng
      go_wp2_with fail
      refine (hir _).mono ?_
      rintro e w3 ⟨rfl, hb4⟩
      have hb5 := bel_then hb3.out hs0 hb4
      go_wp2_with (go_at_call 172; refine (must_no _ _).mono ?_; rintro e w4 ⟨rfl, rfl⟩)
      exact ⟨rfl, hb5, .inl ⟨hfin.out, _, _, rfl⟩⟩
set_option maxRecDepth 100000 in
set_option maxHeartbeats 1000000 in
theorem step_2 {w : World} {base M b o n c : Nat} {all : List Nat} {p : Nat} {v : LineT} {tv : Value} {tab : List LineT} (h : MSt w base M b o n c all p v tv tab) (hv : RngOk v) (hp : p < n) (hop : all[p]? = some 2) : Calls Tryz.prog 105 #[.pointer (some ⟨M, 0, none⟩)] w (StR base M b o n c all p v tab w) := by
  have hdrop := drop_op hop
  have htk := take1_c h.mac hp h.env.hnc h.env.hn
  have hbyte0 := h.env.bytes.2.2 p hp
  rw [show all.getD p 0 = 2 by simp [List.getD, hop]] at hbyte0
  have hbr := h.ne
  have hs0 := h.env.hs
  have hvr := hv
  unfold RngOk at hvr
  obtain ⟨i0, i1, i2, i3, i4, i5, i6⟩ := h.mac.cells
  go_enter Tryz.func105, Tryz.ntmps105
  go_wp2_with fail
  refine htk.mono ?_
  rintro e w1 ⟨rfl, k, hw1⟩
  have h1 : MSt w1 base M b o n c all (p + 1) v tv tab := by rw [hw1]; exact (h.setAt (p + 1)).drewN k
  have hb1 : Below base w w1 := by rw [hw1]; exact below_drewN (below_setM (Below.refl _ _) h.env.hM _ _) _
  have hbyte : w1.cell? ⟨b, o + p, none⟩ = some (.int .u8 ((2 : Nat) : Int)) := by
    rw [hw1]
    show (w.setCell ⟨M, 1, none⟩ _).cell? _ = _
    rw [World.cell?_of_block (w := w) (heap_setCell_other w ⟨M, 1, none⟩ b _ hbr)]
    exact hbyte0
  clear hw1 htk hbyte0 i0 i1 i2 i3 i4 i5 i6
  have hnum := rsigned_c h1.mac h1.env.bytes h1.ne (by omega) h1.env.hnc h1.env.hn
  have hst : stepF v tab (all.drop p) = (numF (all.drop (p + 1))).bind fun q => chkF ⟨v.sec, v.off, v.file, v.line + unzig q.1⟩ tab q.2 := by
    rw [hdrop, stepF]
    rw [if_neg (by decide), if_pos rfl]
  have hle := fun x s (e : leadF (all.drop (p + 1)) = some (x, s)) => leadF_le e
  rw [List.length_drop, h1.env.bytes.1] at hle
  have hst := Lib.hid hst
  obtain ⟨i0, i1, i2, i3, i4, i5, i6⟩ := h1.mac.cells
  go_wp2_with fail
  refine hnum.mono ?_
  rintro e w2 (⟨hR, x, y, rfl, k, hw2⟩ | ⟨x, s, hR, he, k, hw2⟩)
  · have hb2 : Below base w w2 := by rw [hw2]; exact below_drewN hb1 _
    have hfin := Lib.hid (show stepF v tab (all.drop p) = none by rw [hst.out, numF_none hR]; rfl)
    clear hw2 hR i0 i1 i2 i3 i4 i5 i6
    go_wp2
    exact ⟨rfl, hb2, .inl ⟨hfin.out, x, y, rfl⟩⟩
  · have h2 : MSt w2 base M b o n c all (p + 1 + s) v tv tab := by rw [hw2]; exact (h1.setAt (p + 1 + s)).drewN k
    have hb2 : Below base w w2 := by rw [hw2]; exact below_drewN (below_setM hb1 h.env.hM _ _) _
    have hle := hle x s hR
    obtain ⟨u, hu⟩ : ∃ u : Int, u = unzig x := ⟨_, rfl⟩
    have hub : -2147483648 ≤ u ∧ u ≤ 2147483647 := by rw [hu]; unfold unzig; split <;> omega
    rw [← hu] at he
    subst he
    have hst2 := hst.out
    rw [numF_at hR] at hst2
    dsimp only [Option.bind] at hst2
    rw [← hu] at hst2
    clear hu
    have hst2 := Lib.hid hst2
    clear hw2 hR hnum hst i0 i1 i2 i3 i4 i5 i6 hbyte
    obtain ⟨vs, vo, vf, vl⟩ := v
    dsimp only at hvr
    obtain ⟨i0, i1, i2, i3, i4, i5, i6⟩ := h2.mac.cells
    dsimp only at i2 i3 i4 i5
    have f2 := h2.mac.frozen 5
    obtain ⟨z, hz⟩ : ∃ z : Int, z = vl + u := ⟨_, rfl⟩
    have hzw : wrap64 (vl + u) = z := by rw [hz]; exact wrap_in (by omega) (by omega)
    have hzp : vl + u = z := hz.symm
    have h3 := h2.setLine z
    have hb3 := below_setM hb2 h.env.hM 5 (.int .i64 z)
    have hir := fun W => inRange_c (w := W) vs vo vf z
    dsimp only at h3
    have h3 := Lib.hid h3
    have hb3 := Lib.hid hb3
    by_cases hrng : RngOk ⟨vs, vo, vf, z⟩
    · rw [decide_eq_true hrng] at hir
      have hfin := Lib.hid (show stepF ⟨vs, vo, vf, vl⟩ tab (all.drop p) = some (⟨vs, vo, vf, z⟩, tab, all.drop (p + 1 + s)) by rw [hst2.out]; rw [show (vl + u) = z from hz.symm]; exact chkF_ok hrng)
      have hrng := Lib.hid hrng
      clear hz hst2
      go_wp2_with fail
      refine (hir _).mono ?_
      rintro e w3 ⟨rfl, hb4⟩
      have h4 := h3.out.below hb4
      have hb5 := bel_then hb3.out hs0 hb4
      go_wp2_with (go_at_call 172; refine (must_yes _ _).mono ?_; rintro e w4 ⟨rfl, rfl⟩)
      exact ⟨rfl, _, results_none rfl _ _ _, hb5, .inr ⟨_, _, p + 1 + s, tv, hfin.out, by omega, by omega, rfl, h4, hrng.out⟩⟩
    · rw [decide_eq_false hrng] at hir
      have hfin := Lib.hid (show stepF ⟨vs, vo, vf, vl⟩ tab (all.drop p) = none by rw [hst2.out]; rw [show (vl + u) = z from hz.symm]; exact if_neg hrng)
      clear hz hst2 hrng
      go_wp2_with fail
      refine (hir _).mono ?_
      rintro e w3 ⟨rfl, hb4⟩
      have hb5 := bel_then hb3.out hs0 hb4
      go_wp2_with (go_at_call 172; refine (must_no _ _).mono ?_; rintro e w4 ⟨rfl, rfl⟩)
      exact ⟨rfl, hb5, .inl ⟨hfin.out, _, _, rfl⟩⟩
set_option maxRecDepth 100000 in
set_option maxHeartbeats 1000000 in
theorem step_1 {w : World} {base M b o n c : Nat} {all : List Nat} {p : Nat} {v : LineT} {tv : Value} {tab : List LineT} (h : MSt w base M b o n c all p v tv tab) (hv : RngOk v) (hp : p < n) (hop : all[p]? = some 1) : Calls Tryz.prog 105 #[.pointer (some ⟨M, 0, none⟩)] w (StR base M b o n c all p v tab w) := by
  have hdrop := drop_op hop
  have htk := take1_c h.mac hp h.env.hnc h.env.hn
  have hbyte0 := h.env.bytes.2.2 p hp
  rw [show all.getD p 0 = 1 by simp [List.getD, hop]] at hbyte0
  have hbr := h.ne
  have hs0 := h.env.hs
  have hvr := hv
  unfold RngOk at hvr
  obtain ⟨i0, i1, i2, i3, i4, i5, i6⟩ := h.mac.cells
  go_enter Tryz.func105, Tryz.ntmps105
  go_wp2_with fail
  refine htk.mono ?_
  rintro e w1 ⟨rfl, k, hw1⟩
  have h1 : MSt w1 base M b o n c all (p + 1) v tv tab := by rw [hw1]; exact (h.setAt (p + 1)).drewN k
  have hb1 : Below base w w1 := by rw [hw1]; exact below_drewN (below_setM (Below.refl _ _) h.env.hM _ _) _
  have hbyte : w1.cell? ⟨b, o + p, none⟩ = some (.int .u8 ((1 : Nat) : Int)) := by
    rw [hw1]
    show (w.setCell ⟨M, 1, none⟩ _).cell? _ = _
    rw [World.cell?_of_block (w := w) (heap_setCell_other w ⟨M, 1, none⟩ b _ hbr)]
    exact hbyte0
  clear hw1 htk hbyte0 i0 i1 i2 i3 i4 i5 i6
  have hnum := rnumber_c h1.mac h1.env.bytes h1.ne (by omega) h1.env.hnc h1.env.hn
  have hst : stepF v tab (all.drop p) = (numF (all.drop (p + 1))).bind fun q => chkF ⟨v.sec, v.off + q.1, v.file, v.line⟩ tab q.2 := by
    rw [hdrop, stepF]
    rw [if_pos rfl]
  have hle := fun x s (e : leadF (all.drop (p + 1)) = some (x, s)) => leadF_le e
  rw [List.length_drop, h1.env.bytes.1] at hle
  have hst := Lib.hid hst
  obtain ⟨i0, i1, i2, i3, i4, i5, i6⟩ := h1.mac.cells
  go_wp2_with fail
  refine hnum.mono ?_
  rintro e w2 (⟨hR, x, y, rfl, k, hw2⟩ | ⟨x, s, hR, rfl, k, hw2⟩)
  · have hb2 : Below base w w2 := by rw [hw2]; exact below_drewN hb1 _
    have hfin := Lib.hid (show stepF v tab (all.drop p) = none by rw [hst.out, numF_none hR]; rfl)
    clear hw2 hR i0 i1 i2 i3 i4 i5 i6
    go_wp2
    exact ⟨rfl, hb2, .inl ⟨hfin.out, x, y, rfl⟩⟩
  · have h2 : MSt w2 base M b o n c all (p + 1 + s) v tv tab := by rw [hw2]; exact (h1.setAt (p + 1 + s)).drewN k
    have hb2 : Below base w w2 := by rw [hw2]; exact below_drewN (below_setM hb1 h.env.hM _ _) _
    have hle := hle x s hR
    have hst2 := hst.out
    rw [numF_at hR] at hst2
    dsimp only [Option.bind] at hst2
    have hst2 := Lib.hid hst2
    clear hw2 hR hnum hst i0 i1 i2 i3 i4 i5 i6 hbyte
    obtain ⟨vs, vo, vf, vl⟩ := v
    dsimp only at hvr
    obtain ⟨i0, i1, i2, i3, i4, i5, i6⟩ := h2.mac.cells
    dsimp only at i2 i3 i4 i5
    have f2 := h2.mac.frozen 3
    obtain ⟨z, hz⟩ : ∃ z : Int, z = vo + (x : Int) := ⟨_, rfl⟩
    have hzw : wrap64 (vo + (x : Int)) = z := by rw [hz]; exact wrap_in (by omega) (by omega)
    have hzp : vo + (x : Int) = z := hz.symm
    have h3 := h2.setOff z
    have hb3 := below_setM hb2 h.env.hM 3 (.int .i64 z)
    have hir := fun W => inRange_c (w := W) vs z vf vl
    dsimp only at h3
    have h3 := Lib.hid h3
    have hb3 := Lib.hid hb3
    by_cases hrng : RngOk ⟨vs, z, vf, vl⟩
    · rw [decide_eq_true hrng] at hir
      have hfin := Lib.hid (show stepF ⟨vs, vo, vf, vl⟩ tab (all.drop p) = some (⟨vs, z, vf, vl⟩, tab, all.drop (p + 1 + s)) by rw [hst2.out]; rw [show (vo + (x : Int)) = z from hz.symm]; exact chkF_ok hrng)
      have hrng := Lib.hid hrng
      clear hz hst2
      go_wp2_with fail
      refine (hir _).mono ?_
      rintro e w3 ⟨rfl, hb4⟩
      have h4 := h3.out.below hb4
      have hb5 := bel_then hb3.out hs0 hb4
      go_wp2_with (go_at_call 172; refine (must_yes _ _).mono ?_; rintro e w4 ⟨rfl, rfl⟩)
      exact ⟨rfl, _, results_none rfl _ _ _, hb5, .inr ⟨_, _, p + 1 + s, tv, hfin.out, by omega, by omega, rfl, h4, hrng.out⟩⟩
    · rw [decide_eq_false hrng] at hir
      have hfin := Lib.hid (show stepF ⟨vs, vo, vf, vl⟩ tab (all.drop p) = none by rw [hst2.out]; rw [show (vo + (x : Int)) = z from hz.symm]; exact if_neg hrng)
      clear hz hst2 hrng
      go_wp2_with fail
      refine (hir _).mono ?_
      rintro e w3 ⟨rfl, hb4⟩
      have hb5 := bel_then hb3.out hs0 hb4
      go_wp2_with (go_at_call 172; refine (must_no _ _).mono ?_; rintro e w4 ⟨rfl, rfl⟩)
      exact ⟨rfl, hb5, .inl ⟨hfin.out, _, _, rfl⟩⟩
end Go.Ev

namespace Go.Ev
open Go.RowKit Go.Proofs Go.Rw
set_option maxRecDepth 100000 in
set_option maxHeartbeats 1000000 in
theorem step_4 {w : World} {base M b o n c : Nat} {all : List Nat} {p : Nat} {v : LineT} {tv : Value} {tab : List LineT} (h : MSt w base M b o n c all p v tv tab) (hv : RngOk v) (hp : p < n) (hop : all[p]? = some 4) : Calls Tryz.prog 105 #[.pointer (some ⟨M, 0, none⟩)] w (StR base M b o n c all p v tab w) := by
  have hdrop := drop_op hop
  have htk := take1_c h.mac hp h.env.hnc h.env.hn
  have hbyte0 := h.env.bytes.2.2 p hp
  rw [show all.getD p 0 = 4 by simp [List.getD, hop]] at hbyte0
  have hbr := h.ne
  have hs0 := h.env.hs
  have hvr := hv
  unfold RngOk at hvr
  obtain ⟨i0, i1, i2, i3, i4, i5, i6⟩ := h.mac.cells
  go_enter Tryz.func105, Tryz.ntmps105
  go_wp2_with fail
  refine htk.mono ?_
  rintro e w1 ⟨rfl, k, hw1⟩
  have h1 : MSt w1 base M b o n c all (p + 1) v tv tab := by rw [hw1]; exact (h.setAt (p + 1)).drewN k
  have hb1 : Below base w w1 := by rw [hw1]; exact below_drewN (below_setM (Below.refl _ _) h.env.hM _ _) _
  have hbyte : w1.cell? ⟨b, o + p, none⟩ = some (.int .u8 ((4 : Nat) : Int)) := by
    rw [hw1]
    show (w.setCell ⟨M, 1, none⟩ _).cell? _ = _
    rw [World.cell?_of_block (w := w) (heap_setCell_other w ⟨M, 1, none⟩ b _ hbr)]
    exact hbyte0
  clear hw1 htk hbyte0 i0 i1 i2 i3 i4 i5 i6
  have hnum := rnumber_c h1.mac h1.env.bytes h1.ne (by omega) h1.env.hnc h1.env.hn
  have hst : stepF v tab (all.drop p) = (numF (all.drop (p + 1))).bind fun q => if q.1 = 0 then none else chkF ⟨v.sec + q.1, 0, v.file, v.line⟩ tab q.2 := by
    rw [hdrop, stepF]
    rw [if_neg (by decide), if_neg (by decide), if_neg (by decide), if_pos rfl]
  have hle := fun x s (e : leadF (all.drop (p + 1)) = some (x, s)) => leadF_le e
  rw [List.length_drop, h1.env.bytes.1] at hle
  have hst := Lib.hid hst
  obtain ⟨i0, i1, i2, i3, i4, i5, i6⟩ := h1.mac.cells
  go_wp2_with fail
  refine hnum.mono ?_
  rintro e w2 (⟨hR, x, y, rfl, k, hw2⟩ | ⟨x, s, hR, rfl, k, hw2⟩)
  · have hb2 : Below base w w2 := by rw [hw2]; exact below_drewN hb1 _
    have hfin := Lib.hid (show stepF v tab (all.drop p) = none by rw [hst.out, numF_none hR]; rfl)
    clear hw2 hR i0 i1 i2 i3 i4 i5 i6
    go_wp2
    exact ⟨rfl, hb2, .inl ⟨hfin.out, x, y, rfl⟩⟩
  · have h2 : MSt w2 base M b o n c all (p + 1 + s) v tv tab := by rw [hw2]; exact (h1.setAt (p + 1 + s)).drewN k
    have hb2 : Below base w w2 := by rw [hw2]; exact below_drewN (below_setM hb1 h.env.hM _ _) _
    have hle := hle x s hR
    have hst2 := hst.out
    rw [numF_at hR] at hst2
    dsimp only [Option.bind] at hst2
    clear hw2 hR hnum hst i0 i1 i2 i3 i4 i5 i6 hbyte
    by_cases hx0 : x = 0
    · rw [if_pos hx0] at hst2
      have hst2 := Lib.hid hst2
      have hxd : decide ((1 : Int) ≤ (x : Int)) = false := decide_eq_false (by omega)
      have hxd2 : decide (1 ≤ x) = false := decide_eq_false (by omega)
      clear hx0
      go_wp2_with (go_at_call 172; refine (must_no _ _).mono ?_; rintro e w4 ⟨rfl, rfl⟩)
      exact ⟨rfl, hb2, .inl ⟨hst2.out, _, _, rfl⟩⟩
    · rw [if_neg hx0] at hst2
      have hst2 := Lib.hid hst2
      have hxd : decide ((1 : Int) ≤ (x : Int)) = true := decide_eq_true (by omega)
      have hxd2 : decide (1 ≤ x) = true := decide_eq_true (by omega)
      obtain ⟨vs, vo, vf, vl⟩ := v
      dsimp only at hvr
      obtain ⟨i0, i1, i2, i3, i4, i5, i6⟩ := h2.mac.cells
      dsimp only at i2 i3 i4 i5
      have f2 := h2.mac.frozen 2
      have f3 := h2.mac.frozen 3
      obtain ⟨z, hz⟩ : ∃ z : Int, z = vs + (x : Int) := ⟨_, rfl⟩
      have hzw : wrap64 (vs + (x : Int)) = z := by rw [hz]; exact wrap_in (by omega) (by omega)
      have hzp : vs + (x : Int) = z := hz.symm
      have h3 := (h2.setSec z).setOff 0
      have hb3 := below_setM (below_setM hb2 h.env.hM 2 (.int .i64 z)) h.env.hM 3 (.int .i64 0)
      have hir := fun W => inRange_c (w := W) z 0 vf vl
      dsimp only at h3
      have h3 := Lib.hid h3
      have hb3 := Lib.hid hb3
      by_cases hrng : RngOk ⟨z, 0, vf, vl⟩
      · rw [decide_eq_true hrng] at hir
        have hfin := Lib.hid (show stepF ⟨vs, vo, vf, vl⟩ tab (all.drop p) = some (⟨z, 0, vf, vl⟩, tab, all.drop (p + 1 + s)) by rw [hst2.out]; rw [show (vs + (x : Int)) = z from hz.symm]; exact chkF_ok hrng)
        have hrng := Lib.hid hrng
        clear hz hst2
        go_wp2_with (first
          | (go_at_call 172; refine (must_yes _ _).mono ?_; rintro e w4 ⟨rfl, rfl⟩)
          | fail)
        refine (hir _).mono ?_
        rintro e w3 ⟨rfl, hb4⟩
        have h4 := h3.out.below hb4
        have hb5 := bel_then hb3.out hs0 hb4
        go_wp2_with (go_at_call 172; refine (must_yes _ _).mono ?_; rintro e w4 ⟨rfl, rfl⟩)
        exact ⟨rfl, _, results_none rfl _ _ _, hb5, .inr ⟨_, _, p + 1 + s, tv, hfin.out, by omega, by omega, rfl, h4, hrng.out⟩⟩
      · rw [decide_eq_false hrng] at hir
        have hfin := Lib.hid (show stepF ⟨vs, vo, vf, vl⟩ tab (all.drop p) = none by rw [hst2.out]; rw [show (vs + (x : Int)) = z from hz.symm]; exact if_neg hrng)
        clear hz hst2 hrng
        go_wp2_with (first
          | (go_at_call 172; refine (must_yes _ _).mono ?_; rintro e w4 ⟨rfl, rfl⟩)
          | fail)
        refine (hir _).mono ?_
        rintro e w3 ⟨rfl, hb4⟩
        have hb5 := bel_then hb3.out hs0 hb4
        go_wp2_with (go_at_call 172; refine (must_no _ _).mono ?_; rintro e w4 ⟨rfl, rfl⟩)
        exact ⟨rfl, hb5, .inl ⟨hfin.out, _, _, rfl⟩⟩
set_option maxRecDepth 100000 in
set_option maxHeartbeats 1000000 in
theorem step_x {w : World} {base M b o n c : Nat} {all : List Nat} {p : Nat} {v : LineT} {tv : Value} {tab : List LineT} (h : MSt w base M b o n c all p v tv tab) (hv : RngOk v) (hp : p < n) {op : Nat} (hop : all[p]? = some op) (o1 : op ≠ 1) (o2 : op ≠ 2) (o3 : op ≠ 3) (o4 : op ≠ 4) (o5 : op ≠ 5) (o6 : op < 64) : Calls Tryz.prog 105 #[.pointer (some ⟨M, 0, none⟩)] w (StR base M b o n c all p v tab w) := by
  have hdrop := drop_op hop
  have htk := take1_c h.mac hp h.env.hnc h.env.hn
  have hbyte0 := h.env.bytes.2.2 p hp
  rw [show all.getD p 0 = op by simp [List.getD, hop]] at hbyte0
  have hbr := h.ne
  have hs0 := h.env.hs
  have hvr := hv
  unfold RngOk at hvr
  obtain ⟨i0, i1, i2, i3, i4, i5, i6⟩ := h.mac.cells
  go_enter Tryz.func105, Tryz.ntmps105
  go_wp2_with fail
  refine htk.mono ?_
  rintro e w1 ⟨rfl, k, hw1⟩
  have h1 : MSt w1 base M b o n c all (p + 1) v tv tab := by rw [hw1]; exact (h.setAt (p + 1)).drewN k
  have hb1 : Below base w w1 := by rw [hw1]; exact below_drewN (below_setM (Below.refl _ _) h.env.hM _ _) _
  have hbyte : w1.cell? ⟨b, o + p, none⟩ = some (.int .u8 (op : Int)) := by
    rw [hw1]
    show (w.setCell ⟨M, 1, none⟩ _).cell? _ = _
    rw [World.cell?_of_block (w := w) (heap_setCell_other w ⟨M, 1, none⟩ b _ hbr)]
    exact hbyte0
  clear hw1 htk hbyte0 i0 i1 i2 i3 i4 i5 i6
  have hfin := Lib.hid (show stepF v tab (all.drop p) = none by
    rw [hdrop, stepF, if_neg o1, if_neg o2, if_neg o3, if_neg o4, if_neg (by omega), if_neg o5])
  have b1 : ((op : Int) == 1) = false := beq_eq_false_iff_ne.2 (by omega)
  have b2 : ((op : Int) == 2) = false := beq_eq_false_iff_ne.2 (by omega)
  have b3 : ((op : Int) == 3) = false := beq_eq_false_iff_ne.2 (by omega)
  have b4 : ((op : Int) == 4) = false := beq_eq_false_iff_ne.2 (by omega)
  have b5 : ((op : Int) == 5) = false := beq_eq_false_iff_ne.2 (by omega)
  have b6 : ¬ (64 : Int) ≤ (op : Int) := by omega
  have b7 : (op : Int) < 64 := by omega
  clear o1 o2 o3 o4 o5 hop hdrop
  obtain ⟨i0, i1, i2, i3, i4, i5, i6⟩ := h1.mac.cells
  go_wp2
  exact ⟨rfl, hb1, .inl ⟨hfin.out, _, _, rfl⟩⟩
end Go.Ev

namespace Go.Ev
open Go.RowKit Go.Proofs Go.Rw
theorem step_append_fresh {P : Program} {ops : Array Oper} {o : Oper} {a : Act} {w : World} {K : Act → World → Prop} {Q : Exit → Act → World → Prop} {E : Prop}
    (hg : o.guard = none) (s x : Operand) (t : TypeId) (ho : o.op = Op.call { callee := Callee.builtin Builtin.append, args := #[s, x], argTypes := #[t, t] })
    (base : Nat) (e : TypeId) (i : TypeInfo) (z : Value) (size bytes : Nat) (ht : P.underlying t = some (.slice e)) (hi : P.info? e = some i) (hz : i.zero = some z) (hsize : i.size = size) (hby : i.bytes = bytes) (hzs : z.cells.size = size) (hsz : 0 < size)
    (v : Value) (n : Nat) (xs : List Value) (hs : a.eval s = v) (hown : w.ownsRow base e size v n xs)
    (ad : Addr) (m c : Nat) (news : List Value) (hx : a.eval x = .slice (some ad) m c) (hl : news.length = m * size) (hnews : ∀ j u, news[j]? = some u → w.cell? (ad.add j) = some u) (h1 : ∀ u ∈ news, u.oneCell' = true)
    (h63 : n + m ≤ maxLen) (hbytes : (n + m) * bytes ≤ 140737488355328) (hbase : base ≤ w.heap.size)
    (h : ∀ v' w', w'.ownsRow base e size v' (n + m) (xs ++ news) → w.grownBy w' v.ownBlock → (v'.ownBlock = v.ownBlock ∨ ∃ k, v'.ownBlock = some k ∧ w.heap.size ≤ k) → K (a.put o.dst v') w') :
    if Region.wanted o (yielded ops a.tmps) = true then Oper.wp P o a w K Q else E := by
  have hw : Region.wanted o (yielded ops a.tmps) = true := by simp [Region.wanted, hg]
  rw [if_pos hw]
  obtain ⟨v', w', hr, h2, h3, h4⟩ := run_append_fresh (P := P) w base t o.type e i z size bytes ht hi hz hsize hby hzs hsz v n xs hown ad m c news hl hnews h1 h63 hbytes hbase
  unfold Oper.wp execOp
  simp only [ho, resolve, invoke, builtin, Sem.run_bind, Sem.run_pure, Result.andThen_ok, List.map_toArray, List.map_cons, List.map_nil, hs, hx, hr]
  exact h v' w' h2 h3 h4
theorem infoL : (Tryz.prog.info? 48).map (fun i => (i.zero, i.size, i.bytes)) = some (some (Value.agg #[.int .i64 0, .int .i64 0, .int .i64 0, .int .i64 0]), 4, 32) := by kernel_rfl
theorem MSt.grown {W W2 w' : World} {base M b o n c : Nat} {all : List Nat} {p : Nat} {v : LineT} {tv : Value} {tab : List LineT} (h : MSt W base M b o n c all p v tv tab) (hb : Below W.heap.size W W2)
    (hg : W2.grownBy w' tv.ownBlock) : w'.cell? ⟨M, 6, none⟩ = some tv ∧ w'.frozen? ⟨M, 6, none⟩ = false := by
  have hm := h.mac.below hb
  have hm' : MacB w' M (some ⟨b, o, none⟩) n c (p : Int) v tv := (hg.block M hm.low (fun e => h.env.ne e.symm)).trans hm
  exact ⟨hm'.cells.2.2.2.2.2.2, hm'.frozen 6⟩
theorem MSt.mac_grown {W W2 w' : World} {base M b o n c : Nat} {all : List Nat} {p : Nat} {v : LineT} {tv : Value} {tab : List LineT} (h : MSt W base M b o n c all p v tv tab) (hb : Below W.heap.size W W2)
    (hg : W2.grownBy w' tv.ownBlock) : MacB w' M (some ⟨b, o, none⟩) n c (p : Int) v tv := (hg.block M (h.mac.below hb).low (fun e => h.env.ne e.symm)).trans (h.mac.below hb)
theorem MSt.append {W W2 w' : World} {base M b o n c : Nat} {all : List Nat} {p : Nat} {v : LineT} {tv v' : Value} {tab : List LineT} (h : MSt W base M b o n c all p v tv tab) (hb : Below W.heap.size W W2)
    (hown : w'.ownsRow base 48 4 v' (tab.length + 1) (flat tab ++ v.cells)) (hg : W2.grownBy w' tv.ownBlock) (hf : v'.ownBlock = tv.ownBlock ∨ ∃ k, v'.ownBlock = some k ∧ W2.heap.size ≤ k) (hv : RngOk v) (hl : tab.length < 4000) :
    MSt (w'.setCell ⟨M, 6, none⟩ v') base M b o n c all p v v' (tab ++ [v]) ∧ Below base W (w'.setCell ⟨M, 6, none⟩ v') := by
  have hm := h.mac.below hb
  have he := h.env.below hb
  have hm' : MacB w' M (some ⟨b, o, none⟩) n c (p : Int) v tv := (hg.block M hm.low (fun e => h.env.ne e.symm)).trans hm
  have hne : v'.ownBlock ≠ some M := by
    rcases hf with e | ⟨k, e, hk⟩
    · rw [e]; exact h.env.ne
    · rw [e]; intro e'; cases e'; have := hm.low; omega
  have hown' : w'.ownsRow base 48 4 v' (tab ++ [v]).length (flat (tab ++ [v])) := by
    rw [flat_snoc, List.length_append, List.length_singleton]
    exact hown
  have hlow : ∀ k, k < base → w'.heap[k]? = W2.heap[k]? := fun k hk => hg.block k (Nat.lt_of_lt_of_le hk he.hs) (fun e => by have := (he.own.lt k e.symm).1; omega)
  have hE : MEnv w' base M b o n c all v' (tab ++ [v]) := by
    refine ⟨hown', hne, ⟨h.env.bytes.1, h.env.bytes.2.1, fun j hj => ?_⟩, h.env.hb, h.env.hM, Nat.le_trans he.hs hg.size, h.env.hnc, h.env.hn, fun x hx => ?_, by simp; omega⟩
    · rw [World.cell?_of_block (w := W2) (hlow b h.env.hb)]
      exact he.bytes.2.2 j hj
    · rcases List.mem_append.1 hx with hx | hx
      · exact h.env.rng x hx
      · rw [List.mem_singleton.1 hx]; exact hv
  refine ⟨⟨hm'.setTab v', hE.set 6 v'⟩, below_setM ⟨hg.os.trans hb.os, hg.tape.trans hb.tape, hg.output.trans hb.output, Nat.le_trans hb.size hg.size, fun k hk => (hlow k hk).trans (hb.block k (Nat.lt_of_lt_of_le hk h.env.hs))⟩ h.env.hM 6 v'⟩
theorem own_form {w : World} {base e size n : Nat} {v : Value} {xs : List Value} (h : w.ownsRow base e size v (n + 1) xs) : ∃ a c, v = .slice a (n + 1) c := by
  rcases h.2 with ⟨_, h0⟩ | ⟨g, cap, cur, rfl, _⟩
  · omega
  · exact ⟨_, _, rfl⟩
set_option maxRecDepth 100000 in
set_option maxHeartbeats 400000 in
theorem step_5 {w : World} {base M b o n c : Nat} {all : List Nat} {p : Nat} {v : LineT} {tv : Value} {tab : List LineT} (h : MSt w base M b o n c all p v tv tab) (hv : RngOk v) (hp : p < n) (hop : all[p]? = some 5) : Calls Tryz.prog 105 #[.pointer (some ⟨M, 0, none⟩)] w (StR base M b o n c all p v tab w) := by
  have hdrop := drop_op hop
  have htk := take1_c h.mac hp h.env.hnc h.env.hn
  have hbyte0 := h.env.bytes.2.2 p hp
  rw [show all.getD p 0 = 5 by simp [List.getD, hop]] at hbyte0
  have hbr := h.ne
  have hs0 := h.env.hs
  have hvr := hv
  unfold RngOk at hvr
  obtain ⟨i0, i1, i2, i3, i4, i5, i6⟩ := h.mac.cells
  go_enter Tryz.func105, Tryz.ntmps105
  go_wp2_with fail
  refine htk.mono ?_
  rintro e w1 ⟨rfl, k, hw1⟩
  have h1 : MSt w1 base M b o n c all (p + 1) v tv tab := by rw [hw1]; exact (h.setAt (p + 1)).drewN k
  have hb1 : Below base w w1 := by rw [hw1]; exact below_drewN (below_setM (Below.refl _ _) h.env.hM _ _) _
  have hbyte : w1.cell? ⟨b, o + p, none⟩ = some (.int .u8 ((5 : Nat) : Int)) := by
    rw [hw1]
    show (w.setCell ⟨M, 1, none⟩ _).cell? _ = _
    rw [World.cell?_of_block (w := w) (heap_setCell_other w ⟨M, 1, none⟩ b _ hbr)]
    exact hbyte0
  clear hw1 htk hbyte0 i0 i1 i2 i3 i4 i5 i6
  have hstE := Lib.hid (show stepF v tab (all.drop p) = emitF v tab (all.drop (p + 1)) by
    rw [hdrop, stepF]
    rw [if_neg (by decide), if_neg (by decide), if_neg (by decide), if_neg (by decide), if_neg (by decide), if_pos rfl])
  clear hdrop hop
  obtain ⟨vs, vo, vf, vl⟩ := v
  have hm := h1
  have hbm := hb1
  clear h1 hb1
  have hca := canApp_c hm.mac (rows_of_own hm.env.own) hm.env.rng hm.env.len
  obtain ⟨ca, hcaE0⟩ : ∃ ca, ca = canAppB tab ⟨vs, vo, vf, vl⟩ := ⟨_, rfl⟩
  rw [← hcaE0] at hca
  have hcaE := Lib.hid hcaE0
  clear hcaE0
  obtain ⟨i0, i1, i2, i3, i4, i5, i6⟩ := hm.mac.cells
  dsimp only at i2 i3 i4 i5
  go_wp2_with fail
  refine hca.mono ?_
  rintro e w3 ⟨rfl, hb3⟩
  have hm3 := hm.below hb3
  have hbm3 := bel_then hbm hs0 hb3
  clear i0 i1 i2 i3 i4 i5 i6
  cases ca
  · have hfin := Lib.hid (show stepF ⟨vs, vo, vf, vl⟩ tab (all.drop p) = none by rw [hstE.out]; unfold emitF; rw [if_neg (by rw [← hcaE.out]; decide)])
    go_wp2_with (go_at_call 172; refine (must_no _ _).mono ?_; rintro e w4 ⟨rfl, rfl⟩)
    exact ⟨rfl, hbm3, .inl ⟨hfin.out, _, _, rfl⟩⟩
  · have hcaT : canAppB tab ⟨vs, vo, vf, vl⟩ = true := hcaE.out.symm
    have hcaU := hcaT
    unfold canAppB at hcaU
    simp only [Bool.and_eq_true, decide_eq_true_eq] at hcaU
    have hrng : RngOk ⟨vs, vo, vf, vl⟩ := hcaU.2.1.1
    have hlen : tab.length < 4000 := hcaU.1
    have hfin := Lib.hid (show stepF ⟨vs, vo, vf, vl⟩ tab (all.drop p) = some (⟨vs, vo, vf, vl⟩, tab ++ [⟨vs, vo, vf, vl⟩], all.drop (p + 1)) by rw [hstE.out]; unfold emitF; rw [if_pos hcaT]; exact chkF_ok hrng)
    have hir := fun W => inRange_c (w := W) vs vo vf vl
    rw [decide_eq_true hrng] at hir
    have hrngH := Lib.hid hrng
    clear hcaU hcaT hca hrng
    obtain ⟨i0, i1, i2, i3, i4, i5, i6⟩ := hm3.mac.cells
    dsimp only at i2 i3 i4 i5
    have hnew := Lib.hid (show ∀ j u, ([.int .i64 vs, .int .i64 vo, .int .i64 vf, .int .i64 vl] : List Value)[j]? = some u → (w3.drew.alloc (.cells #[.int .i64 vs, .int .i64 vo, .int .i64 vf, .int .i64 vl] 48)).cell? ((⟨w3.heap.size, 0, none⟩ : Addr).add j) = some u from fun j u hj => by
      rw [cell_add, Nat.zero_add]
      exact new_cell w3.drew #[.int .i64 vs, .int .i64 vo, .int .i64 vf, .int .i64 vl] 48 j u (by simpa using hj))
    have hone : ∀ u ∈ ([.int .i64 vs, .int .i64 vo, .int .i64 vf, .int .i64 vl] : List Value), u.oneCell' = true := fun u hu => by
      simp only [List.mem_cons, List.not_mem_nil, or_false] at hu
      rcases hu with rfl | rfl | rfl | rfl <;> rfl
    have honeH := Lib.hid hone
    clear hone
    have hbA : Below w3.heap.size w3 (w3.drew.alloc (.cells #[.int .i64 vs, .int .i64 vo, .int .i64 vf, .int .i64 vl] 48)) := ((Below.refl w3.heap.size w3).drew).alloc (Nat.le_refl _) _
    have hownA := Lib.hid (hm3.below hbA).env.own
    have hm3H := Lib.hid hm3
    have hbAH := Lib.hid hbA
    clear hm3 hbA
    obtain ⟨iL, hiL, hzL0, hzL1, hzL2⟩ := info_parts infoL
    go_wp2_with (go_at_call 172; refine (must_yes _ _).mono ?_; rintro e w4 ⟨rfl, rfl⟩)
    have j6 := (World.cell?_alloc_lt w4 (.cells #[.int .i64 vs, .int .i64 vo, .int .i64 vf, .int .i64 vl] 48) _ (low_of_cell i6)).trans i6
    have hs4 : base ≤ (w4.drew.alloc (.cells #[.int .i64 vs, .int .i64 vo, .int .i64 vf, .int .i64 vl] 48)).heap.size := by rw [World.size_alloc]; exact Nat.le_succ_of_le hm3H.out.env.hs
    have hmx : tab.length + 1 ≤ maxLen := by unfold maxLen; omega
    have hmy : (tab.length + 1) * 32 ≤ 140737488355328 := by omega
    go_region_law (refine step_append_fresh rfl (.tmp 122) (.tmp 126) 26 rfl base 48 iL _ 4 32 Tryz.underlying26 hiL hzL0 hzL1 hzL2 rfl (by decide) tv tab.length (flat tab) (by simp [Act.eval, Act.put]) hownA.out ⟨w4.heap.size, 0, none⟩ 1 1 [.int .i64 vs, .int .i64 vo, .int .i64 vf, .int .i64 vl] (by simp [Act.eval, Act.put]) rfl hnew.out honeH.out hmx hmy hs4 ?_; intro v' w' hown' hgr hfr; obtain ⟨a', c', rfl⟩ := own_form hown'; obtain ⟨hc6, hf6⟩ := hm3H.out.grown hbAH.out hgr)
    all_goals (
      obtain ⟨hm5, hb5⟩ := hm3H.out.append hbAH.out hown' hgr hfr hrngH.out hlen
      have hbm5 := hbm3.trans hb5
      obtain ⟨-, -, g2, g3, g4, g5, -⟩ := (hm3H.out.mac_grown hbAH.out hgr).cells
      dsimp only at g2 g3 g4 g5
      clear i0 i1 i2 i3 i4 i5 i6 j6 hc6 hf6 hown' hgr hfr hownA
      have hm5 := Lib.hid hm5
      go_wp2_with fail
      refine (hir _).mono ?_
      rintro e w5 ⟨rfl, hb6⟩
      have h6 := hm5.out.below hb6
      have hb7 := bel_then hbm5 hs0 hb6
      go_wp2_with (go_at_call 172; refine (must_yes _ _).mono ?_; rintro e w7 ⟨rfl, rfl⟩)
      exact ⟨rfl, _, results_none rfl _ _ _, hb7, .inr ⟨_, _, p + 1, _, hfin.out, by omega, by omega, rfl, h6, hrngH.out⟩⟩)
end Go.Ev

