import Derived.Test.YtepopmplcjhfbaaGreatObGsu
import Derived.Test.YtepopmplcjhfbaaGreatObGhj
import Derived.Deep.CutRange
import Derived.Test.YtepopmplcjhfbaaGreatObGvw
import Derived.Test.YtepopmplcjhfbaaGreatObGqr
import Derived.Deep.CutBlock
set_option linter.unusedSectionVars false
set_option linter.unusedVariables false
set_option linter.unusedSimpArgs false
set_option linter.unnecessarySimpa false
/-
  Stage 3: line programs as the specification's Unpack reads them: the table is looked at in the end.
-/
namespace Go.Ev
open Go.RowKit Go.Proofs Go.Rw
theorem tab_pre {tab : List LineT} {x : LineT} (h : TabOk (tab ++ [x])) : TabOk tab ∧ canAppB tab x = true := by
  obtain ⟨h1, h2, h3⟩ := h
  rw [List.length_append, List.length_singleton] at h1
  refine ⟨⟨by omega, fun y hy => h2 y (List.mem_append_left _ hy), fun j a b ha hb => ?_⟩, ?_⟩
  · have hb' := (List.getElem?_eq_some_iff.1 hb).1
    exact h3 j a b (by rw [List.getElem?_append_left (by omega)]; exact ha) (by rw [List.getElem?_append_left hb']; exact hb)
  · unfold canAppB aheadB
    simp only [Bool.and_eq_true, decide_eq_true_eq]
    refine ⟨by omega, h2 x (by simp), ?_⟩
    cases hl : tab.getLast? with
    | none => rfl
    | some y =>
      rw [List.getLast?_eq_getElem?] at hl
      have hy := (List.getElem?_eq_some_iff.1 hl).1
      refine decide_eq_true (h3 (tab.length - 1) y x (by rw [List.getElem?_append_left hy]; exact hl) ?_)
      rw [show tab.length - 1 + 1 = tab.length by omega, List.getElem?_append_right (Nat.le_refl _), Nat.sub_self]
      rfl
/-- What is still to come, where the table so far is one. -/
noncomputable def gF (v : LineT) (tab : List LineT) (bs : List Nat) : Option (List LineT) := if dec (TabOk tab) = true then runF bs.length v tab bs else none
theorem gF_nil (v : LineT) (tab : List LineT) : gF v tab [] = if dec (TabOk tab) = true then some tab else none := rfl
theorem gF_start (all : List Nat) : gF default [] all = unpackF all := by
  unfold gF unpackF
  rw [if_pos (dec_yes tab_nil)]
theorem gF_not {v : LineT} {tab : List LineT} {bs : List Nat} (h : ¬ TabOk tab) : gF v tab bs = none := by
  unfold gF
  rw [dec_no h]
  rfl
theorem gF_fail {v : LineT} {tab : List LineT} {b : Nat} {bs : List Nat} (h : stepF v tab (b :: bs) = none) : gF v tab (b :: bs) = none := by
  unfold gF
  split
  · rw [List.length_cons, runF, h]; rfl
  · rfl
theorem gF_step {v v' : LineT} {tab tab' : List LineT} {b : Nat} {bs bs' : List Nat} (h : stepF v tab (b :: bs) = some (v', tab', bs')) (ht : TabOk tab ↔ TabOk tab') : gF v tab (b :: bs) = gF v' tab' bs' := by
  unfold gF
  by_cases hc : TabOk tab
  · rw [dec_yes hc, dec_yes (ht.1 hc), if_pos rfl, if_pos rfl, List.length_cons, runF, h]
    have := stepF_len h
    exact runF_fuel _ _ _ _ _ this (Nat.le_refl _)
  · rw [dec_no hc, dec_no (fun h => hc (ht.2 h))]
    rfl
theorem gF_chk {v v' : LineT} {tab : List LineT} {b : Nat} {bs bs' : List Nat} (h : stepF v tab (b :: bs) = chkF v' tab bs') (hr : RngOk v') : gF v tab (b :: bs) = gF v' tab bs' := by
  unfold chkF at h
  rw [if_pos hr] at h
  exact gF_step h Iff.rfl
theorem gF_emit {v v' : LineT} {tab : List LineT} {b : Nat} {bs bs' : List Nat} (h : stepF v tab (b :: bs) = emitF v' tab bs') (hr : RngOk v') : gF v tab (b :: bs) = gF v' (tab ++ [v']) bs' := by
  by_cases hc : canAppB tab v' = true
  · unfold emitF chkF at h
    rw [if_pos hc, if_pos hr] at h
    exact gF_step h ⟨fun ht => tab_snoc ht hc, fun ht => (tab_pre ht).1⟩
  · unfold emitF at h
    rw [if_neg hc] at h
    rw [gF_fail h, gF_not fun ht => hc (tab_pre ht).2]
theorem gF_out {v v' : LineT} {tab : List LineT} {b : Nat} {bs bs' : List Nat} (h : stepF v tab (b :: bs) = chkF v' tab bs' ∨ stepF v tab (b :: bs) = emitF v' tab bs') (hr : ¬ RngOk v') : gF v tab (b :: bs) = none := by
  refine gF_fail ?_
  rcases h with h | h
  · rw [h]; unfold chkF; rw [if_neg hr]
  · rw [h]; unfold emitF chkF; rw [if_neg hr]; split <;> rfl
theorem gF_long {v : LineT} {tab : List LineT} {bs : List Nat} (h : 4000 < tab.length) : gF v tab bs = none := gF_not fun ht => by have := ht.1; omega
end Go.Ev

/-
  Stage 3: the specification's reader of line programs: fail, number, signed.
-/
namespace Go.Ev
open Go.RowKit Go.Proofs Go.Rw
/-- The reader's block. -/
def RdB (W : World) (R : Nat) (ba : Option Addr) (n c : Nat) (p bad : Int) : Prop :=
  W.heap[R]? = some (.cells #[.slice ba n c, .int .i64 p, .int .i64 bad] 129 (0, 0))
section
variable {W : World} {R : Nat} {ba : Option Addr} {n c : Nat} {p bad : Int}
theorem RdB.cells (h : RdB W R ba n c p bad) : W.cell? ⟨R, 0, none⟩ = some (.slice ba n c) ∧ W.cell? ⟨R, 1, none⟩ = some (.int .i64 p) ∧ W.cell? ⟨R, 2, none⟩ = some (.int .i64 bad) := by
  unfold RdB at h
  refine ⟨?_, ?_, ?_⟩ <;> simp [World.cell?, h]
theorem RdB.frozen (h : RdB W R ba n c p bad) (i : Nat) : W.frozen? ⟨R, i, none⟩ = false := by
  unfold RdB at h
  simp [World.frozen?, h]
theorem RdB.low (h : RdB W R ba n c p bad) : R < W.heap.size := (Array.getElem?_eq_some_iff.1 h).1
theorem RdB.setAt (h : RdB W R ba n c p bad) (p' : Int) : RdB (W.setCell ⟨R, 1, none⟩ (.int .i64 p')) R ba n c p' bad := heap_setCell_same _ _ 1 _ _ _ h
theorem RdB.setBad (h : RdB W R ba n c p bad) (q : Int) : RdB (W.setCell ⟨R, 2, none⟩ (.int .i64 q)) R ba n c p q := heap_setCell_same _ _ 2 _ _ _ h
theorem RdB.other (h : RdB W R ba n c p bad) {a : Addr} (hne : a.block ≠ R) (x : Value) : RdB (W.setCell a x) R ba n c p bad := (heap_setCell_other W a R x (Ne.symm hne)).trans h
theorem RdB.alloc (h : RdB W R ba n c p bad) (A : Obj) : RdB (W.alloc A) R ba n c p bad := (heap_alloc_old W A h.low).trans h
theorem RdB.drewN (h : RdB W R ba n c p bad) (k : Nat) : RdB (W.drewN k) R ba n c p bad := h
end
theorem Wst.drewN {w w' : World} {g : Nat} {o o' : Option Nat} (h : Wst w w' g o o') (k : Nat) : Wst w (w'.drewN k) g o o' := ⟨h.os, h.tape, h.output, h.size, h.block, h.fresh⟩
theorem Wst.own {w w' : World} {g : Nat} {o o' : Option Nat} (h : Wst w w' g o o') (i : Nat) (x : Value) : Wst w (w'.setCell ⟨g, i, none⟩ x) g o o' :=
  ⟨h.os, h.tape, h.output, Nat.le_trans h.size (by simp), fun k hk hg ho => (heap_setCell_other w' ⟨g, i, none⟩ k x hg).trans (h.block k hk hg ho), h.fresh⟩
theorem rfail_new {w : World} {R n c : Nat} {ba : Option Addr} {p q : Int} (h : RdB w R ba n c p (-1)) :
    Calls Tryz.prog 95 #[.pointer (some ⟨R, 0, none⟩), .int .i64 q] w fun e w' => e = .returned (.tuple #[]) ∧ w' = w.setCell ⟨R, 2, none⟩ (.int .i64 q) := by
  obtain ⟨c0, c1, c2⟩ := h.cells
  have f2 := h.frozen 2
  clear h
  go_enter Tryz.func95, Tryz.ntmps95
  go_wp2
  exact ⟨rfl, _, results_none rfl _ _ _, rfl, rfl⟩
theorem rfail_old {w : World} {R n c : Nat} {ba : Option Addr} {p q bad : Int} (h : RdB w R ba n c p bad) (hb : 0 ≤ bad) :
    Calls Tryz.prog 95 #[.pointer (some ⟨R, 0, none⟩), .int .i64 q] w fun e w' => e = .returned (.tuple #[]) ∧ w' = w := by
  obtain ⟨c0, c1, c2⟩ := h.cells
  clear h
  have hb : decide (bad < 0) = false := decide_eq_false (by omega)
  go_enter Tryz.func95, Tryz.ntmps95
  go_wp2
  exact ⟨rfl, _, results_none rfl _ _ _, rfl, rfl⟩
theorem num_facts {i x A U : Nat} (hi : i < 5) (hx : x < 256) (hU : U = 128 ^ i) (hA : A < U) : ∃ m M N V : Nat, m ≤ 127 ∧ (x : Int).tmod 128 = (m : Int) ∧ (x : Int) % 128 = (m : Int) ∧ (m : Int) * (U : Int) = (M : Int) ∧ wrap64 (M : Int) = (M : Int) ∧
    A + x % 128 * 128 ^ i = N ∧ (A : Int) + (M : Int) = (N : Int) ∧ wrap64 (N : Int) = (N : Int) ∧ (U : Int) * 128 = (V : Int) ∧ wrap64 (V : Int) = (V : Int) ∧ N < V ∧ V = 128 ^ (i + 1) ∧ (U < V ∧ V ≤ 34359738368) := by
  have h3 : 128 ^ (i + 1) = U * 128 := by rw [hU, Nat.pow_succ]
  have h0 : U ≤ 268435456 ∧ 1 ≤ U := by
    subst hU
    match i, hi with
    | 0, _ => decide
    | 1, _ => decide
    | 2, _ => decide
    | 3, _ => decide
    | 4, _ => decide
  rw [h3, ← hU]
  clear h3 hU hi
  obtain ⟨m, hm⟩ : ∃ m : Nat, m = x % 128 := ⟨_, rfl⟩
  have hm1 : m ≤ 127 := by omega
  obtain ⟨M, hM⟩ : ∃ M : Nat, M = m * U := ⟨_, rfl⟩
  have hM1 : M ≤ 127 * U := by rw [hM]; exact Nat.mul_le_mul_right U hm1
  have e1 : (m : Int) * (U : Int) = (M : Int) := by rw [hM]; simp
  have e2 : wrap64 (M : Int) = (M : Int) := wrap_in (by omega) (by omega)
  have t1 : (x : Int).tmod 128 = (m : Int) := by rw [Int.tmod_eq_emod_of_nonneg (by omega)]; omega
  have t2 : (x : Int) % 128 = (m : Int) := by omega
  rw [← hm, ← hM]
  clear hM hm t1 hx
  exact ⟨m, M, A + M, U * 128, hm1, by rw [Int.tmod_eq_emod_of_nonneg (by omega)]; exact t2, t2, e1, e2, rfl, by omega, wrap_in (by omega) (by omega), by omega, wrap_in (by omega) (by omega), by omega, rfl, by omega⟩
theorem num_dif {p q i : Nat} (h : q = p + i) (hi : i ≤ 5) : (q : Int) - (p : Int) = (i : Int) ∧ wrap64 ((q : Int) - (p : Int)) = (i : Int) := by
  have e : (q : Int) - (p : Int) = (i : Int) := by omega
  exact ⟨e, by rw [e]; exact wrap_in (by omega) (by omega)⟩
theorem num_pos {p q i q1 i1 : Nat} (h1 : q1 = q + 1) (h2 : i1 = i + 1) (h : q = p + i) (hq : q ≤ 140737488351232) :
    (q : Int) + 1 = (q1 : Int) ∧ wrap64 ((q : Int) + 1) = (q1 : Int) ∧ (q1 : Int) - (p : Int) = (i1 : Int) ∧ wrap64 ((q1 : Int) - (p : Int)) = (i1 : Int) ∧ q1 = p + (i + 1) := by
  have e1 : (q : Int) + 1 = (q1 : Int) := by omega
  have e2 : (q1 : Int) - (p : Int) = (i1 : Int) := by omega
  exact ⟨e1, by rw [e1]; exact wrap_in (by omega) (by omega), e2, by rw [e2]; exact wrap_in (by omega) (by omega), by omega⟩
theorem z_eq {x : Nat} (h : x = 0) : ((x : Int) == 0) = true := beq_iff_eq.2 (by omega)
theorem z_ne {x : Nat} (h : ¬ x = 0) : ((x : Int) == 0) = false := beq_eq_false_iff_ne.2 (by omega)
theorem d_one {i i1 : Nat} (h1 : i1 = i + 1) (h : 0 < i) : decide ((1 : Int) < (i1 : Int)) = true := decide_eq_true (by omega)
theorem d_oneN {i i1 : Nat} (h1 : i1 = i + 1) (h : 0 < i) : decide (1 < i1) = true := decide_eq_true (by omega)
theorem d_none {i i1 : Nat} (h1 : i1 = i + 1) (h : ¬ 0 < i) : decide ((1 : Int) < (i1 : Int)) = false := decide_eq_false (by omega)
theorem d_big {N : Nat} (h : 4294967295 < N) : decide ((4294967295 : Int) < (N : Int)) = true := decide_eq_true (by omega)
theorem d_small {N : Nat} (h : ¬ 4294967295 < N) : decide ((4294967295 : Int) < (N : Int)) = false := decide_eq_false (by omega)
theorem d_low {x : Nat} (h : x < 128) : decide ((x : Int) < 128) = true := decide_eq_true (by omega)
theorem d_high {x : Nat} (h : ¬ x < 128) : decide ((x : Int) < 128) = false := decide_eq_false (by omega)
theorem z_or {x i i1 : Nat} (h1 : i1 = i + 1) (h : ¬ (x = 0 ∧ 0 < i)) : (((x : Int) == 0) = false) ∨ (((x : Int) == 0) = true ∧ decide ((1 : Int) < (i1 : Int)) = false ∧ decide (1 < i1) = false) := by
  by_cases hx : x = 0
  · exact .inr ⟨z_eq hx, d_none h1 (fun h2 => h ⟨hx, h2⟩), decide_eq_false (fun h2 => h ⟨hx, by omega⟩)⟩
  · exact .inl (z_ne hx)
theorem g_dec {k i : Nat} (h : k + i = 5) (hi : i < 5) : k - 1 < k := by omega
theorem g_one {k i : Nat} (h : k + i = 5) (hi : i < 5) : k - 1 + (i + 1) = 5 := by omega
def NumU (R : Nat) (ba : Option Addr) (n c p : Nat) (r : Option (Nat × Nat)) (w : World) (e : Ending) (w' : World) : Prop :=
  Wst w w' R none none ∧ ((r = none ∧ e = .returned (.int .i64 0) ∧ ∃ p' bad : Int, 0 ≤ bad ∧ RdB w' R ba n c p' bad) ∨ (∃ x s : Nat, r = some (x, s) ∧ e = .returned (.int .i64 (x : Int)) ∧ RdB w' R ba n c ((p + s : Nat) : Int) (-1)))
set_option maxRecDepth 100000 in
set_option maxHeartbeats 4000000 in
theorem rdnum_c {w : World} {R b o n c p : Nat} {all : List Nat} (h : RdB w R (some ⟨b, o, none⟩) n c (p : Int) (-1)) (hA : AllAt w b o n all) (hbR : b ≠ R) (hp : p ≤ n) (hnc : n ≤ c) (hc : n ≤ 140737488351232) :
    Calls Tryz.prog 96 #[.pointer (some ⟨R, 0, none⟩), .int .i64 4294967295] w (NumU R (some ⟨b, o, none⟩) n c p (leadF (all.drop p)) w) := by
  obtain ⟨a1, a2, a3⟩ := hA
  obtain ⟨r, hR0⟩ : ∃ r, r = leadF (all.drop p) := ⟨_, rfl⟩
  rw [← hR0]
  have hR := Lib.hid (show leadGo 0 0 ((all.drop p).drop 0) = r by rw [hR0]; rfl)
  clear hR0
  have hl : ∀ j (x : Nat), (all.drop p)[j]? = some x → x < 256 ∧ p + j < n ∧ w.cell? ⟨b, o + (p + j), none⟩ = some (.int .u8 (x : Int)) := by
    intro j x hx
    rw [List.getElem?_drop] at hx
    have h1 := (List.getElem?_eq_some_iff.1 hx).1
    refine ⟨a2 x (List.mem_of_getElem? hx), by omega, ?_⟩
    have := a3 (p + j) (by omega)
    rwa [show all.getD (p + j) 0 = x by simp [List.getD, hx]] at this
  have hlen : (all.drop p).length = n - p := by rw [List.length_drop, a1]
  have hbl : ∀ j (x : Nat), (all.drop p)[j]? = some x → b < w.heap.size := fun j x hx => low_of_cell (hl j x hx).2.2
  clear a1 a2 a3
  generalize all.drop p = l at hR hl hlen hbl
  obtain ⟨c0, c1, c2⟩ := h.cells
  have h := Lib.hid h
  go_enter Tryz.func96, Tryz.ntmps96
  go_wp2_with fail
  go_loopg [6, 7] 5 (fun gn nv uv wr => ∃ (i A U : Nat), gn + i = 5 ∧ i ≤ 5 ∧ p + i ≤ n ∧ nv = .int .i64 A ∧ uv = .int .i64 U ∧ U = 128 ^ i ∧ A < U ∧ RdB wr R (some ⟨b, o, none⟩) n c ((p + i : Nat) : Int) (-1) ∧ Wst w wr R none none ∧ leadGo i A (l.drop i) = r)
  case atStart => exact ⟨0, 0, 1, rfl, by omega, by omega, rfl, rfl, rfl, by decide, h.out, Wst.refl _ _ _, hR.out⟩
  case round =>
    obtain ⟨i, A, U, hgk, hi, hpi, rfl, rfl, hU, hA, hB, hW, hRk⟩ := hrel
    obtain ⟨q, hq⟩ : ∃ q : Nat, q = p + i := ⟨_, rfl⟩
    rw [← hq] at hB
    obtain ⟨d0, d1, d2⟩ := hB.cells
    have f1 := hB.frozen 1
    have hW2 := Lib.hid hW
    have hB2 := Lib.hid hB
    have hbad : decide ((0 : Int) ≤ (p : Int)) = true := decide_eq_true (by omega)
    obtain ⟨e5, e5w⟩ := num_dif hq hi
    by_cases c1 : q < n
    · have hd1 : decide ((n : Int) ≤ (q : Int)) = false := decide_eq_false (by omega)
      have hd1n : decide (n ≤ q) = false := decide_eq_false (by omega)
      by_cases c5 : i < 5
      · have hd5 : decide ((5 : Int) ≤ (i : Int)) = false := decide_eq_false (by omega)
        have hd5n : decide (5 ≤ i) = false := decide_eq_false (by omega)
        obtain ⟨x, hx⟩ : ∃ x, l[i]? = some x := ⟨l[i], by simp [show i < l.length by omega]⟩
        obtain ⟨hx256, -, hcell⟩ := hl i x hx
        have h0 : wr.cell? ⟨b, o + q, none⟩ = some (.int .u8 (x : Int)) := hW.cell (by rw [hq]; exact hcell) hbR (by simp)
        have hdr := leadGo_drop (acc := A) c5 hx
        rw [hRk] at hdr
        obtain ⟨m, M, N, V, hm, m1, m2, m3, m4, hN, m5, m6, m7, m8, hNV, hVU0, hVm0⟩ := num_facts c5 hx256 hU hA
        obtain ⟨q1, hq1⟩ : ∃ q1 : Nat, q1 = q + 1 := ⟨_, rfl⟩
        obtain ⟨i1, hi1⟩ : ∃ i1 : Nat, i1 = i + 1 := ⟨_, rfl⟩
        obtain ⟨m9, m9w, e6, e6w, hqq0⟩ := num_pos hq1 hi1 hq (show q ≤ 140737488351232 by omega)
        rw [hN] at hdr
        have hVU := Lib.hid hVU0
        have hVm := Lib.hid hVm0
        have hqq := Lib.hid hqq0
        have hq1n := Lib.hid (show q1 ≤ n by rw [hq1]; exact c1)
        clear hVU0 hVm0 hqq0 m9w
        have hB3 := fun k => Lib.hid ((hB.drewN k).setAt (q1 : Int))
        have hW3 := fun k => Lib.hid ((hW.drewN k).own 1 (.int .i64 (q1 : Int)))
        clear hU hA hB hW hRk hm hN hq1 hq hcell hl hbl hlen
        by_cases hx1 : x < 128
        · rw [if_pos hx1] at hdr
          have hxd := d_low hx1
          by_cases hx0 : x = 0 ∧ 0 < i
          · rw [if_pos (.inl hx0)] at hdr
            obtain rfl := hdr
            have hxe := z_eq hx0.1
            have hg := d_one hi1 hx0.2
            have hgn := d_oneN hi1 hx0.2
            clear hx0 hi1
            go_wp2_with fail
            go_quiet (fail)
            go_wp2_with fail
            go_quiet (fail)
            go_wp2_with (go_at_call 95; refine (rfail_new (hB3 _).out).mono ?_; rintro e w2 ⟨rfl, rfl⟩)
            first | go_ret2 | go_ret
            refine ⟨?_, .inl ⟨rfl, rfl, _, _, ?_, (hB3 _).out.setBad _⟩⟩
            · exact (hW3 _).out.own 2 _
            · exact Int.natCast_nonneg _
          · have hcb := z_or hi1 hx0
            by_cases hbig : 4294967295 < N
            · rw [if_pos (.inr hbig)] at hdr
              obtain rfl := hdr
              have hbd := d_big hbig
              clear hx0 hi1 hbig
              rcases hcb with hxe | ⟨hxe, hg, hgn⟩
              all_goals
                go_wp2_with fail
                go_quiet (fail)
                go_wp2_with fail
                go_quiet (fail)
                go_wp2_with (go_at_call 95; refine (rfail_new (hB3 _).out).mono ?_; rintro e w2 ⟨rfl, rfl⟩)
                first | go_ret2 | go_ret
                refine ⟨?_, .inl ⟨rfl, rfl, _, _, ?_, (hB3 _).out.setBad _⟩⟩
                · exact (hW3 _).out.own 2 _
                · exact Int.natCast_nonneg _
            · rw [if_neg (fun h => h.elim hx0 hbig)] at hdr
              obtain rfl := hdr
              have hqs := Lib.hid (show p + (i + 1) = q1 from hqq.out.symm)
              have hbd := d_small hbig
              clear hx0 hi1 hbig
              rcases hcb with hxe | ⟨hxe, hg, hgn⟩
              all_goals
                go_wp2_with fail
                go_quiet (fail)
                go_wp2_with fail
                go_quiet (fail)
                go_wp2_with fail
                first | go_ret2 | go_ret
                refine ⟨(hW3 _).out, .inr ⟨_, _, rfl, ?_, ?_⟩⟩
                · first | rfl | (show Ending.returned (Value.int .i64 (wrap64 (N : Int))) = _; rw [m6])
                rw [hqs.out]
                exact (hB3 _).out
        · rw [if_neg hx1] at hdr
          have hxd := d_high hx1
          have hdr3 := Lib.hid hdr
          clear hdr hi1
          go_wp2_with fail
          go_quiet (fail)
          go_wp2_with fail
          go_quiet (fail)
          go_wp2_with fail
          go_roundg (gk - 1)
          case measure => exact g_dec hgk c5
          case rel =>
            refine ⟨i + 1, N, V, g_one hgk c5, c5, ?_, congrArg (Value.int .i64) m6, congrArg (Value.int .i64) m8, hVU.out, hNV, ?_, (hW3 _).out, hdr3.out.symm⟩
            · rw [← hqq.out]; exact hq1n.out
            · rw [← hqq.out]; exact (hB3 _).out
      · have hd5 : decide ((5 : Int) ≤ (i : Int)) = true := decide_eq_true (by omega)
        have hd5n : decide (5 ≤ i) = true := decide_eq_true (by omega)
        obtain rfl : r = none := by rw [← hRk]; exact leadGo_end (.inr (by omega))
        clear hU hA hB hW hRk hq hl hbl hlen
        go_wp2_with fail
        go_quiet (fail)
        go_wp2_with (go_at_call 95; refine (rfail_new (hB2.out.drewN _)).mono ?_; rintro e w2 ⟨rfl, rfl⟩)
        first | go_ret2 | go_ret
        refine ⟨?_, .inl ⟨rfl, rfl, _, _, ?_, (hB2.out.drewN _).setBad _⟩⟩
        · exact (hW2.out.drewN _).own 2 _
        · exact Int.natCast_nonneg _
    · have hd1 : decide ((n : Int) ≤ (q : Int)) = true := decide_eq_true (by omega)
      obtain rfl : r = none := by rw [← hRk]; exact leadGo_end (.inl (by omega))
      clear hU hA hB hW hRk hq hl hbl hlen
      go_wp2_with fail
      go_quiet (fail)
      go_wp2_with (go_at_call 95; refine (rfail_new (hB2.out.drewN _)).mono ?_; rintro e w2 ⟨rfl, rfl⟩)
      first | go_ret2 | go_ret
      refine ⟨?_, .inl ⟨rfl, rfl, _, _, ?_, (hB2.out.drewN _).setBad _⟩⟩
      · exact (hW2.out.drewN _).own 2 _
      · exact Int.natCast_nonneg _
end Go.Ev

/-
  Stage 3: the specification's Unpack: the state within a round.
-/
namespace Go.Ev
open Go.RowKit Go.Proofs Go.Rw
/-- Box R holds the reader, box V the variables; the table so far is a row of the call's own; below base nothing has turned. -/
structure UpS (w cur : World) (base R V b o n c : Nat) (p bad : Int) (v : LineT) (lv : Value) (tab : List LineT) : Prop where
  rd : RdB cur R (some ⟨b, o, none⟩) n c p bad
  vb : LineB cur V v
  own : cur.ownsRow base 48 4 lv tab.length (flat tab)
  neR : lv.ownBlock ≠ some R
  neV : lv.ownBlock ≠ some V
  bel : Below base w cur
  low : base ≤ R ∧ base ≤ V ∧ R ≠ V
section
variable {w cur cur' : World} {base R V b o n c : Nat} {p bad : Int} {v : LineT} {lv : Value} {tab : List LineT}
theorem UpS.hs (h : UpS w cur base R V b o n c p bad v lv tab) : base ≤ cur.heap.size := Nat.le_trans h.low.1 (Nat.le_of_lt h.rd.low)
theorem own_wst {e size k : Nat} {xs : List Value} (h : cur.ownsRow base e size lv k xs) (hne : lv.ownBlock ≠ some R) (hw : Wst cur cur' R none none) : cur'.ownsRow base e size lv k xs :=
  h.kept (row := some R) ⟨hw.os, hw.tape, hw.output, hw.size, fun j hj hne => hw.block j hj (fun e => hne (by rw [e])) (by simp)⟩ (.inr hne)
theorem UpS.num {p' bad' : Int} (h : UpS w cur base R V b o n c p bad v lv tab) (hw : Wst cur cur' R none none) (hr : RdB cur' R (some ⟨b, o, none⟩) n c p' bad') : UpS w cur' base R V b o n c p' bad' v lv tab :=
  ⟨hr, (hw.block V (Array.getElem?_eq_some_iff.1 h.vb).1 (Ne.symm h.low.2.2) (by simp)).trans h.vb, own_wst h.own h.neR hw, h.neR, h.neV,
    h.bel.trans ⟨hw.os, hw.tape, hw.output, hw.size, fun k hk => hw.block k (Nat.lt_of_lt_of_le hk h.hs) (fun e => by have := h.low.1; omega) (by simp)⟩, h.low⟩
theorem UpS.setAt (h : UpS w cur base R V b o n c p bad v lv tab) (q : Int) : UpS w (cur.setCell ⟨R, 1, none⟩ (.int .i64 q)) base R V b o n c q bad v lv tab := h.num ((Wst.refl cur R none).own 1 _) (h.rd.setAt q)
theorem UpS.setBad (h : UpS w cur base R V b o n c p bad v lv tab) (q : Int) : UpS w (cur.setCell ⟨R, 2, none⟩ (.int .i64 q)) base R V b o n c p q v lv tab := h.num ((Wst.refl cur R none).own 2 _) (h.rd.setBad q)
theorem UpS.drewN (h : UpS w cur base R V b o n c p bad v lv tab) (k : Nat) : UpS w (cur.drewN k) base R V b o n c p bad v lv tab := h.num ((Wst.refl cur R none).drewN k) h.rd
theorem UpS.setV (h : UpS w cur base R V b o n c p bad v lv tab) (i : Nat) (x : Int) {v' : LineT} (hv : LineB (cur.setCell ⟨V, i, none⟩ (.int .i64 x)) V v') : UpS w (cur.setCell ⟨V, i, none⟩ (.int .i64 x)) base R V b o n c p bad v' lv tab := by
  have hw : Wst cur (cur.setCell ⟨V, i, none⟩ (.int .i64 x)) V none none := (Wst.refl cur V none).own i _
  exact ⟨h.rd.other (Ne.symm h.low.2.2) _, hv, own_wst h.own h.neV hw, h.neR, h.neV, h.bel.setCell (p := ⟨V, i, none⟩) h.low.2.1 _, h.low⟩
theorem UpS.setSec (h : UpS w cur base R V b o n c p bad v lv tab) (x : Int) : UpS w (cur.setCell ⟨V, 0, none⟩ (.int .i64 x)) base R V b o n c p bad ⟨x, v.off, v.file, v.line⟩ lv tab := h.setV 0 x (heap_setCell_same _ _ 0 _ _ _ h.vb)
theorem UpS.setOff (h : UpS w cur base R V b o n c p bad v lv tab) (x : Int) : UpS w (cur.setCell ⟨V, 1, none⟩ (.int .i64 x)) base R V b o n c p bad ⟨v.sec, x, v.file, v.line⟩ lv tab := h.setV 1 x (heap_setCell_same _ _ 1 _ _ _ h.vb)
theorem UpS.setFile (h : UpS w cur base R V b o n c p bad v lv tab) (x : Int) : UpS w (cur.setCell ⟨V, 2, none⟩ (.int .i64 x)) base R V b o n c p bad ⟨v.sec, v.off, x, v.line⟩ lv tab := h.setV 2 x (heap_setCell_same _ _ 2 _ _ _ h.vb)
theorem UpS.setLine (h : UpS w cur base R V b o n c p bad v lv tab) (x : Int) : UpS w (cur.setCell ⟨V, 3, none⟩ (.int .i64 x)) base R V b o n c p bad ⟨v.sec, v.off, v.file, x⟩ lv tab := h.setV 3 x (heap_setCell_same _ _ 3 _ _ _ h.vb)
theorem UpS.byte (h : UpS w cur base R V b o n c p bad v lv tab) {all : List Nat} (hA : AllAt w b o n all) (hb : b < base) : AllAt cur b o n all :=
  ⟨hA.1, hA.2.1, fun j hj => by rw [World.cell?_of_block (w := w) (h.bel.block b hb)]; exact hA.2.2 j hj⟩
/-- Behind the append of a line that lies in a new box. -/
theorem UpS.app {lv' : Value} {A : Obj} (h : UpS w cur base R V b o n c p bad v lv tab) (h1 : cur'.ownsRow base 48 4 lv' (tab.length + 1) (flat tab ++ v.cells)) (hg : (cur.alloc A).grownBy cur' lv.ownBlock) (hf : lv'.ownBlock = lv.ownBlock ∨ ∃ k, lv'.ownBlock = some k ∧ (cur.alloc A).heap.size ≤ k) :
    UpS w cur' base R V b o n c p bad v lv' (tab ++ [v]) := by
  have hr := h.rd.low
  have hv : V < cur.heap.size := (Array.getElem?_eq_some_iff.1 h.vb).1
  have hs := h.hs
  have hsz : (cur.alloc A).heap.size = cur.heap.size + 1 := by simp
  have hne : ∀ k, k < cur.heap.size → lv.ownBlock ≠ some k → lv'.ownBlock ≠ some k := fun k hk ho => by
    rcases hf with e | ⟨j, e, hj⟩
    · rw [e]; exact ho
    · rw [e]; intro e'; cases e'; omega
  have hblk : ∀ k, k < cur.heap.size → lv.ownBlock ≠ some k → cur'.heap[k]? = cur.heap[k]? := fun k hk ho => (hg.block k (by omega) (fun e => ho e.symm)).trans (heap_alloc_old cur A hk)
  refine ⟨(hblk R hr h.neR).trans h.rd, (hblk V hv h.neV).trans h.vb, ?_, hne R hr h.neR, hne V hv h.neV, ?_, h.low⟩
  · rw [flat_snoc, List.length_append, List.length_singleton]
    exact h1
  · refine h.bel.trans ⟨hg.os, hg.tape, hg.output, Nat.le_trans (by omega) hg.size, fun k hk => hblk k (by omega) (fun e => ?_)⟩
    have := (h.own.lt k e).1
    omega
end
/-- The specification's signed numbers. -/
def SigU (R : Nat) (ba : Option Addr) (n c p : Nat) (r : Option (Nat × Nat)) (w : World) (e : Ending) (w' : World) : Prop :=
  Wst w w' R none none ∧ ((r = none ∧ e = .returned (.int .i64 0) ∧ ∃ p' bad : Int, 0 ≤ bad ∧ RdB w' R ba n c p' bad) ∨ (∃ x s : Nat, r = some (x, s) ∧ e = .returned (.int .i64 (unzig x)) ∧ RdB w' R ba n c ((p + s : Nat) : Int) (-1)))
set_option maxRecDepth 100000 in
theorem rdsig_c {w : World} {R b o n c p : Nat} {all : List Nat} (h : RdB w R (some ⟨b, o, none⟩) n c (p : Int) (-1)) (hA : AllAt w b o n all) (hbR : b ≠ R) (hp : p ≤ n) (hnc : n ≤ c) (hc : n ≤ 140737488351232) :
    Calls Tryz.prog 106 #[.pointer (some ⟨R, 0, none⟩)] w (SigU R (some ⟨b, o, none⟩) n c p (leadF (all.drop p)) w) := by
  have hu := rdnum_c h hA hbR hp hnc hc
  have hx := fun x s (e : leadF (all.drop p) = some (x, s)) => (leadF_le e).2.2
  generalize leadF (all.drop p) = r at hu hx
  clear hA
  go_enter Tryz.func106, Tryz.ntmps106
  go_wp2_with fail
  refine hu.mono ?_
  rintro e w1 ⟨hW, (⟨rfl, rfl, p', bad, hb, hB⟩ | ⟨x, s, rfl, rfl, hB⟩)⟩
  · have hB := Lib.hid hB
    have hW := Lib.hid hW
    have hb := Lib.hid hb
    clear h hu hx
    go_wp2
    go_ret
    exact ⟨hW.out, .inl ⟨rfl, rfl, p', bad, hb.out, hB.out⟩⟩
  · have hx := hx x s rfl
    have hB := Lib.hid hB
    have hW := Lib.hid hW
    clear h hu
    have e0 : (x : Int).tmod 2 = (x : Int) % 2 := Int.tmod_eq_emod_of_nonneg (by omega)
    obtain ⟨z, hz⟩ : ∃ z : Int, z = unzig x := ⟨_, rfl⟩
    by_cases hm : x % 2 = 1
    · have e1 : ((x : Int) % 2 == 1) = true := beq_iff_eq.2 (by omega)
      have hz1 : z = -(((x + 1) / 2 : Nat) : Int) := by rw [hz]; exact if_pos hm
      have e3 : (-((x : Int) + 1)).tdiv 2 = z := by
        rw [Int.neg_tdiv, Int.tdiv_eq_ediv_of_nonneg (by omega)]; omega
      have e4 : wrap64 ((x : Int) + 1) = (x : Int) + 1 := wrap_in (by omega) (by omega)
      have e5 : wrap64 (-((x : Int) + 1)) = -((x : Int) + 1) := wrap_in (by omega) (by omega)
      have e6 : wrap64 z = z := wrap_in (by omega) (by omega)
      have hz := Lib.hid hz
      clear hz1
      go_wp2
      go_ret
      exact ⟨hW.out, .inr ⟨x, s, rfl, by rw [← hz.out]; first | rfl | (show Ending.returned (Value.int IntKind.i64 (wrap64 z)) = _; rw [e6]), hB.out⟩⟩
    · have e1 : ((x : Int) % 2 == 1) = false := beq_eq_false_iff_ne.2 (by omega)
      have hz1 : z = ((x / 2 : Nat) : Int) := by rw [hz]; exact if_neg hm
      have e3 : (x : Int).tdiv 2 = z := by rw [Int.tdiv_eq_ediv_of_nonneg (by omega)]; omega
      have e6 : wrap64 z = z := wrap_in (by omega) (by omega)
      have hz := Lib.hid hz
      clear hz1
      go_wp2
      go_ret
      exact ⟨hW.out, .inr ⟨x, s, rfl, by rw [← hz.out]; first | rfl | (show Ending.returned (Value.int IntKind.i64 (wrap64 z)) = _; rw [e6]), hB.out⟩⟩
end Go.Ev

