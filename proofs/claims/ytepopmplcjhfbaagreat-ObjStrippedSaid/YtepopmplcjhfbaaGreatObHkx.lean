import Derived.Test.YtepopmplcjhfbaaGreatObHk8
import Derived.Test.YtepopmplcjhfbaaGreatObHc2
import Derived.Deep.LoopGhost
import Derived.Test.YtepopmplcjhfbaaGreatObGab
import Derived.Test.YtepopmplcjhfbaaGreatObHi
import Derived.Lib.QuietBelow
import Derived.Test.YtepopmplcjhfbaaGreatObHk3
import Derived.Test.YtepopmplcjhfbaaGreatObHk6
import Derived.Test.YtepopmplcjhfbaaGreatObHk2
set_option linter.unusedSectionVars false
set_option linter.unusedVariables false
set_option linter.unusedSimpArgs false
set_option linter.unnecessarySimpa false
/-
  Stage 3: the relocations of an object, in the specification, exactly.
-/
namespace Go.Ev
open Go.RowKit Go.Proofs Go.Rw
theorem relok_width {o : ObjT} {x : RelT} (hR : o.R) (h : RelOk o x) : 0 ≤ x.off ∧ x.off ≤ 140737488351232 := by
  obtain ⟨-, -, -, -, y, hy, h1, h2⟩ := h
  have := (hR.1 y (List.mem_of_getElem? hy)).2.2.1
  have := width_in x.kind
  omega
set_option maxRecDepth 100000 in
set_option maxHeartbeats 40000000 in
theorem rrels_c {w : World} {v : Value} {o : ObjT} (h : ObjAt w v o) (hR : o.R) : Calls Tryz.prog 137 #[v] w (BelR (dec (RelsOk o)) w) := by
  obtain ⟨s1, s2, s3, s4, s5, rfl, k1, k2, k3, k4, k5⟩ := id h
  obtain ⟨a1, c1, rfl⟩ := rows_slice k1
  obtain ⟨a2, c2, rfl⟩ := rows_slice k2
  obtain ⟨a3, c3, rfl⟩ := rows_slice k3
  have hOff := fun x (hx : RelOk o x) => relok_width hR hx
  obtain ⟨hR1, -, hR3, -, -, hn1, hn2, hn3, -, -⟩ := hR
  have z1 : ∀ A, Below w.heap.size w (w.alloc A) := fun A => (Below.refl w.heap.size w).alloc (Nat.le_refl _) A
  obtain ⟨r, hr0⟩ : ∃ r, r = dec (RelsOk o) := ⟨_, rfl⟩
  rw [← hr0]
  have hrr := Lib.hid hr0
  clear k2 k4 k5 h hr0
  by_cases h2000 : o.rels.length ≤ 2000
  · have h2000' : (o.rels.length : Int) ≤ 2000 := by omega
    go_enter Tryz.func137, Tryz.ntmps137
    go_wp2
    go_loopg [3] o.rels.length (fun gn i wr => ∃ k : Nat, gn + k = o.rels.length ∧ k ≤ o.rels.length ∧ i = .int .i64 k ∧ Below (w.alloc (.cells #[.slice a1 o.secs.length c1, .slice a2 o.syms.length c2, .slice a3 o.rels.length c3, s4, s5] 28)).heap.size (w.alloc (.cells #[.slice a1 o.secs.length c1, .slice a2 o.syms.length c2, .slice a3 o.rels.length c3, s4, s5] 28)) wr ∧ (∀ j x, j < k → o.rels[j]? = some x → RelOk o x) ∧ (∀ (j : Nat) (x y : RelT), j + 1 < k → o.rels[j]? = some x → o.rels[j + 1]? = some y → x.sec < y.sec ∨ (x.sec = y.sec ∧ x.off + widthV x.kind ≤ y.off)))
    case atStart => exact ⟨0, by omega, by omega, rfl, Below.refl _ _, fun j x hj => by omega, fun j x y hj => by omega⟩
    case round =>
      obtain ⟨k, hgk, hk, rfl, hbl, hA0, hS0⟩ := hrel
      have hA := Lib.hid hA0
      have hS := Lib.hid hS0
      clear hA0 hS0
      have hbw := bel_then (z1 _) (Nat.le_refl _) hbl
      have b0 := (hbl.cell (p := ⟨w.heap.size, 0, none⟩) (by simp)).trans (new_cell w _ 28 0 _ rfl)
      have b1 := (hbl.cell (p := ⟨w.heap.size, 1, none⟩) (by simp)).trans (new_cell w _ 28 1 _ rfl)
      have b2 := (hbl.cell (p := ⟨w.heap.size, 2, none⟩) (by simp)).trans (new_cell w _ 28 2 _ rfl)
      by_cases hlt : k < o.rels.length
      · obtain ⟨b, of, rfl⟩ := rows_some2 k3 hlt
        obtain ⟨⟨xs, xo, xk, xy, xa⟩, hx⟩ : ∃ x, o.rels[k]? = some x := ⟨o.rels[k], by simp [hlt]⟩
        obtain ⟨r0, r1, r2, r3, r4⟩ := hR3 _ (List.mem_of_getElem? hx)
        have hlt' : (k : Int) < (o.rels.length : Int) := by omega
        obtain ⟨g0, g1, g2, g3, g4⟩ := rows_rel (k3.below hbw) hx
        dsimp only at g0 g1 g2 g3 g4 r0 r1 r2 r3 r4
        unfold inI64 at r0 r1 r2 r3 r4
        have hxH := Lib.hid hx
        have hno := Lib.hid (fun (hs : ¬ RelOk o ⟨xs, xo, xk, xy, xa⟩) => show r = false by rw [hrr.out]; exact dec_no fun h => hs (h.2.1 _ (List.mem_of_getElem? hx)))
        clear hx
        have hB := hbw.size
        have hB2 : ∀ o, w.heap.size ≤ (wr.alloc o).heap.size := fun o => by rw [World.size_alloc]; omega
        have e0 := fun o => (World.cell?_alloc_lt wr o _ (low_of_cell b0)).trans b0
        have e1 := fun o => (World.cell?_alloc_lt wr o _ (low_of_cell b1)).trans b1
        have e2 := fun o => (World.cell?_alloc_lt wr o _ (low_of_cell b2)).trans b2
        by_cases hin : ((0 : Int) ≤ xs ∧ xs < (o.secs.length : Int)) ∧ (1 ≤ xk ∧ xk ≤ 5) ∧ (0 ≤ xy ∧ xy < (o.syms.length : Int))
        · obtain ⟨⟨i1, i2⟩, ⟨i3, i4⟩, i5, i6⟩ := hin
          obtain ⟨j, rfl⟩ : ∃ j : Nat, xs = (j : Int) := ⟨xs.toNat, by omega⟩
          have hj : j < o.secs.length := by omega
          obtain ⟨bs, os, rfl⟩ := rows_some2 k1 hj
          obtain ⟨⟨yn, yr, ya, yb, yl, yc, yz⟩, hy⟩ : ∃ y, o.secs[j]? = some y := ⟨o.secs[j], by simp [hj]⟩
          have hyl := (hR1 _ (List.mem_of_getElem? hy)).2.2.1
          dsimp only at hyl
          have p3 := fun A => (rows_sec (k1.below (hbw.alloc hB A)) hy).2.2.2.1
          dsimp only at p3
          have hj' : (j : Int) < (o.secs.length : Int) := by omega
          have hyH := Lib.hid hy
          clear hy
          have hw4 := width_in xk
          by_cases h32 : -2147483648 ≤ xa ∧ xa ≤ 2147483647
          · have h32' : (decide (-2147483648 ≤ xa) && decide (xa ≤ 2147483647)) = true := by simp [h32.1, h32.2]
            have hI := fun W => is32_calls xa W
            rw [h32'] at hI
            by_cases hoff : 0 ≤ xo ∧ xo ≤ (yl : Int) - widthV xk
            · have hok := Lib.hid (show RelOk o ⟨j, xo, xk, xy, xa⟩ from ⟨⟨i1, i2⟩, ⟨i5, i6⟩, ⟨i3, i4⟩, h32, _, hyH.out, hoff.1, hoff.2⟩)
              obtain ⟨f1, f2⟩ := hoff
              have f3 : xo ≤ (yl : Int) := by omega
              have f4 : IntKind.i64.wrap (xo + widthV xk) = xo + widthV xk := by rw [IntKind.wrap_i64]; omega
              have f6 : xo + widthV xk ≤ (yl : Int) := by omega
              go_wp2_with (go_at_call 147; refine (hI _).mono ?_; rintro e w1 ⟨rfl, rfl⟩)
              go_quiet (exact Calls.quiet_of_same (width_c _))
              clear r0 r1 r2 r3 r4 hw4 i1 i2 i3 i4 i5 i6 hyl f2 hj' hj p3 h32 h32' hI hno hn1 hn2 hR1 hR3
              have hB3 : ∀ o n, w.heap.size ≤ ((wr.alloc o).drewN n).heap.size := fun o n => hB2 o
              have hB4 := fun o n => Nat.le_trans hbl.size (show wr.heap.size ≤ ((wr.alloc o).drewN n).heap.size from by show wr.heap.size ≤ (wr.alloc o).heap.size; rw [World.size_alloc]; omega)
              by_cases hk0 : 0 < k
              · obtain ⟨⟨ps, po, pk, py, pa⟩, hp⟩ : ∃ y, o.rels[k - 1]? = some y := ⟨o.rels[k - 1], List.getElem?_eq_getElem (by omega)⟩
                have hpo := hOff _ (hA.out (k - 1) _ (by omega) hp)
                have hwp := width_in pk
                have t0 := fun A => (rows_rel (k3.below (hbw.alloc hB A)) hp).1
                have t1 := fun A => (rows_rel (k3.below (hbw.alloc hB A)) hp).2.1
                have t2 := fun A => (rows_rel (k3.below (hbw.alloc hB A)) hp).2.2.1
                have t3 := fun A => (rows_rel (k3.below (hbw.alloc hB A)) hp).2.2.2.1
                have t4 := fun A => (rows_rel (k3.below (hbw.alloc hB A)) hp).2.2.2.2
                dsimp only at t0 t1 t2 t3 t4 hpo
                have hpH := Lib.hid hp
                clear hp
                have q4 : IntKind.i64.wrap (po + widthV pk) = po + widthV pk := by rw [IntKind.wrap_i64]; omega
                clear hpo hwp hOff
                by_cases d1 : (j : Int) < ps
                · have hf := Lib.hid (show r = false by
                    rw [hrr.out]
                    refine dec_no fun h => ?_
                    have := h.2.2 (k - 1) _ _ hpH.out (by rw [show k - 1 + 1 = k from by omega]; exact hxH.out)
                    dsimp only at this
                    omega)
                  go_wp2_with fail
                  clear f1 f3 f4 f6
                  go_quiet (fail)
                  go_wp2
                  go_ret
                  exact ⟨by rw [hf.out]; rfl, below_drewN ((below_drewN (hbw.alloc hB _) _).alloc (hB3 _ _) _) _⟩
                · by_cases d2 : (j : Int) = ps
                  · subst d2
                    by_cases d4 : xo < po + widthV pk
                    · have hf := Lib.hid (show r = false by
                        rw [hrr.out]
                        refine dec_no fun h => ?_
                        have := h.2.2 (k - 1) _ _ hpH.out (by rw [show k - 1 + 1 = k from by omega]; exact hxH.out)
                        dsimp only at this
                        omega)
                      go_wp2_with fail
                      clear f1 f3 f4 f6
                      go_quiet (exact Calls.quiet_of_same (width_c _))
                      go_wp2
                      go_ret
                      exact ⟨by rw [hf.out]; rfl, below_drewN ((below_drewN (hbw.alloc hB _) _).alloc (hB3 _ _) _) _⟩
                    · have d5 : po + widthV pk ≤ xo := by omega
                      have hst := Lib.hid (show po + widthV pk ≤ xo by omega)
                      go_wp2_with fail
                      clear f1 f3 f4 f6
                      go_quiet (exact Calls.quiet_of_same (width_c _))
                      go_wp2
                      go_roundg (gk - 1)
                      case measure => omega
                      case rel =>
                        refine ⟨k + 1, by omega, by omega, by go_num, below_drewN ((below_drewN (hbl.alloc hbl.size _) _).alloc (hB4 _ _) _) _, fun j' z hj' hz => ?_, fun j' x' y' hj' hx' hy' => ?_⟩
                        · by_cases e' : j' < k
                          · exact hA.out j' z e' hz
                          · obtain rfl : j' = k := by omega
                            rw [hxH.out] at hz
                            cases hz
                            exact hok.out
                        · by_cases hjk : j' + 1 < k
                          · exact hS.out j' x' y' hjk hx' hy'
                          · obtain rfl : k = j' + 1 := by omega
                            rw [hxH.out] at hy'
                            have hp2 := hpH.out
                            rw [Nat.add_sub_cancel, hx'] at hp2
                            cases hy'
                            cases hp2
                            exact .inr ⟨rfl, hst.out⟩
                  · have d3 : ((j : Int) == ps) = false := by simp; omega
                    have d4 : ps ≤ (j : Int) := by omega
                    have hst := Lib.hid (show ps < (j : Int) by omega)
                    go_wp2_with fail
                    clear f1 f3 f4 f6 q4 d1 d2
                    have d6 : decide ((j : Int) < ps) = false := decide_eq_false (by omega)
                    go_quiet (fail)
                    go_wp2
                    go_roundg (gk - 1)
                    case measure => omega
                    case rel =>
                      refine ⟨k + 1, by omega, by omega, by go_num, below_drewN ((below_drewN (hbl.alloc hbl.size _) _).alloc (hB4 _ _) _) _, fun j' z hj' hz => ?_, fun j' x' y' hj' hx' hy' => ?_⟩
                      · by_cases e' : j' < k
                        · exact hA.out j' z e' hz
                        · obtain rfl : j' = k := by omega
                          rw [hxH.out] at hz
                          cases hz
                          exact hok.out
                      · by_cases hjk : j' + 1 < k
                        · exact hS.out j' x' y' hjk hx' hy'
                        · obtain rfl : k = j' + 1 := by omega
                          rw [hxH.out] at hy'
                          have hp2 := hpH.out
                          rw [Nat.add_sub_cancel, hx'] at hp2
                          cases hy'
                          cases hp2
                          exact .inl hst.out
              · obtain rfl : k = 0 := by omega
                have hkd : decide ((0 : Int) < 0) = false := decide_eq_false (by omega)
                go_wp2
                go_roundg (gk - 1)
                case measure => omega
                case rel =>
                  refine ⟨1, by omega, by omega, by go_num, below_drewN (hbl.alloc hbl.size _) _, fun j' z hj' hz => ?_, fun j' x' y' hj' => by omega⟩
                  obtain rfl : j' = 0 := by omega
                  rw [hxH.out] at hz
                  cases hz
                  exact hok.out
            · have hf := Lib.hid (show r = false by
                refine hno.out fun h => hoff ?_
                obtain ⟨-, -, -, -, y, hy, u1, u2⟩ := h
                have hy' : o.secs[(j : Int).toNat]? = some y := hy
                rw [Int.toNat_natCast, hyH.out] at hy'
                cases hy'
                exact ⟨u1, u2⟩)
              go_wp2_with (go_at_call 147; refine (hI _).mono ?_; rintro e w1 ⟨rfl, rfl⟩)
              by_cases c1 : xo < 0
              · go_quiet (fail)
                go_wp2
                go_ret
                exact ⟨by rw [hf.out]; rfl, below_drewN (hbw.alloc hB _) _⟩
              · by_cases c2 : (yl : Int) < xo
                · go_quiet (fail)
                  go_wp2
                  go_ret
                  exact ⟨by rw [hf.out]; rfl, below_drewN (hbw.alloc hB _) _⟩
                · have c1' : (0 : Int) ≤ xo := by omega
                  have c2' : xo ≤ (yl : Int) := by omega
                  have f4 : IntKind.i64.wrap (xo + widthV xk) = xo + widthV xk := by rw [IntKind.wrap_i64]; omega
                  have f5 : (yl : Int) < xo + widthV xk := by omega
                  go_quiet (exact Calls.quiet_of_same (width_c _))
                  go_wp2
                  go_ret
                  exact ⟨by rw [hf.out]; rfl, below_drewN (hbw.alloc hB _) _⟩
          · have hf := Lib.hid (hno.out (fun h => h32 h.2.2.2.1))
            have h32' : (decide (-2147483648 ≤ xa) && decide (xa ≤ 2147483647)) = false := by
              rw [← Bool.not_eq_true]
              simp only [Bool.and_eq_true, decide_eq_true_eq]
              exact h32
            have hI := fun W => is32_calls xa W
            rw [h32'] at hI
            go_wp2_with (go_at_call 147; refine (hI _).mono ?_; rintro e w1 ⟨rfl, rfl⟩)
            go_ret
            exact ⟨by rw [hf.out]; rfl, hbw.alloc hB _⟩
        · have hf := Lib.hid (hno.out (fun h => hin ⟨h.1, h.2.2.1, h.2.1⟩))
          go_wp2_with fail
          all_goals first
            | (go_ret; exact ⟨by rw [hf.out]; rfl, hbw.alloc hB _⟩)
            | (exfalso; omega)
      · obtain rfl : k = o.rels.length := by omega
        have hf := Lib.hid (show r = true by
          rw [hrr.out]
          refine dec_yes ⟨h2000, fun x hx => ?_, fun j x y hx hy => hS.out j x y (List.getElem?_eq_some_iff.1 hy).1 hx hy⟩
          obtain ⟨j, hj⟩ := List.getElem?_of_mem hx
          exact hA.out j x (List.getElem?_eq_some_iff.1 hj).1 hj)
        go_wp2
        go_ret
        exact ⟨by rw [hf.out]; rfl, hbw⟩
  · have hf := Lib.hid (show r = false by rw [hrr.out]; exact dec_no fun h => h2000 h.1)
    have h2000' : (2000 : Int) < (o.rels.length : Int) := by omega
    go_enter Tryz.func137, Tryz.ntmps137
    go_wp2
    go_ret
    exact ⟨by rw [hf.out]; rfl, z1 _⟩
end Go.Ev

/-
  Stage 3: the specification's IsTable, exactly.
-/
namespace Go.Ev
open Go.RowKit Go.Proofs Go.Rw
theorem tab_step {l : List LineT} {k : Nat} {x : LineT} (hx : l[k]? = some x) (h1 : ∀ j x, j < k → l[j]? = some x → EntOk x) (h2 : ∀ (j : Nat) (x y : LineT), j + 1 < k → l[j]? = some x → l[j + 1]? = some y → x.sec < y.sec ∨ (x.sec = y.sec ∧ x.off < y.off))
    (hok : EntOk x) (hp : k = 0 ∨ ∃ y, l[k - 1]? = some y ∧ (y.sec < x.sec ∨ (y.sec = x.sec ∧ y.off < x.off))) :
    (∀ j x, j < k + 1 → l[j]? = some x → EntOk x) ∧ (∀ (j : Nat) (x y : LineT), j + 1 < k + 1 → l[j]? = some x → l[j + 1]? = some y → x.sec < y.sec ∨ (x.sec = y.sec ∧ x.off < y.off)) := by
  refine ⟨fun j x' hj hx' => ?_, fun j x' y' hj hx' hy' => ?_⟩
  · by_cases h : j < k
    · exact h1 j x' h hx'
    · obtain rfl : j = k := by omega
      rw [hx] at hx'
      cases hx'
      exact hok
  · by_cases h : j + 1 < k
    · exact h2 j x' y' h hx' hy'
    · obtain rfl : k = j + 1 := by omega
      rw [hx] at hy'
      cases hy'
      rcases hp with hp | ⟨y, hy, hp⟩
      · omega
      · rw [Nat.add_sub_cancel, hx'] at hy
        cases hy
        exact hp
set_option maxRecDepth 100000 in
set_option maxHeartbeats 8000000 in
theorem table_x {w : World} {s : Value} {l : List LineT} (h : RowsAt w s LineT.cells 4 l) (hr : ∀ x ∈ l, x.R) (hl : l.length ≤ 140737488351232) :
    Calls Tryz.prog 44 #[s] w fun e w' => e = .returned (.bool (dec (TabOk l))) ∧ Below w.heap.size w w' := by
  obtain ⟨a, c, rfl⟩ := rows_slice h
  obtain ⟨r, hR0⟩ : ∃ r, r = dec (TabOk l) := ⟨_, rfl⟩
  rw [← hR0]
  by_cases h4 : l.length ≤ 4000
  · have hl4 : (l.length : Int) ≤ 4000 := by omega
    have hR := Lib.hid (show r = dec (TabOk l) from hR0)
    clear hR0
    go_enter Tryz.func44, Tryz.ntmps44
    go_wp2
    go_loopw [3] (fun i wr => ∃ k : Nat, k ≤ l.length ∧ i = .int .i64 k ∧ Below w.heap.size w wr ∧ (∀ j x, j < k → l[j]? = some x → EntOk x) ∧ (∀ (j : Nat) (x y : LineT), j + 1 < k → l[j]? = some x → l[j + 1]? = some y → x.sec < y.sec ∨ (x.sec = y.sec ∧ x.off < y.off))) (fun i _ => l.length - (intOf i).toNat)
    case atStart => exact ⟨0, by omega, rfl, Below.refl _ _, fun j x hj => by omega, fun j x y hj => by omega⟩
    case round =>
      obtain ⟨k, hk, rfl, hbl, h1, h2⟩ := hrel
      by_cases hlt : k < l.length
      · obtain ⟨b, o, rfl⟩ := rows_some2 h hlt
        obtain ⟨⟨xs, xo, xf, xl⟩, hx⟩ : ∃ x, l[k]? = some x := ⟨l[k], by simp [hlt]⟩
        obtain ⟨g0, g1, g2, g3⟩ := rows_line (h.below hbl) hx
        obtain ⟨r0, r1, r2, r3⟩ := hr _ (List.mem_of_getElem? hx)
        dsimp only at g0 g1 g2 g3 r0 r1 r2 r3
        have hB := hbl.size
        have hB2 : ∀ o, w.heap.size ≤ (wr.alloc o).heap.size := fun o => by rw [World.size_alloc]; omega
        by_cases z1 : xl = 0
        · subst z1
          have z1' : ((0 : Int) == 0) = true := by simp
          by_cases z2 : xf = 0
          · subst z2
            have z2' : ((0 : Int) != 0) = false := by simp
            by_cases ce : EntOk ⟨xs, xo, 0, 0⟩
            · have ce2 := ce
              unfold EntOk RngOk at ce2
              dsimp only at ce2
              obtain ⟨⟨⟨d0, d1⟩, ⟨d2, d3⟩, ⟨d4, d5⟩, ⟨d6, d7⟩⟩, d8⟩ := ce2
              have ce := Lib.hid ce
              by_cases hk0 : 0 < k
              · obtain ⟨⟨ys, yo, yf, yl⟩, hy⟩ : ∃ y, l[k - 1]? = some y := ⟨l[k - 1], List.getElem?_eq_getElem (by omega)⟩
                obtain ⟨p0, p1, p2, p3⟩ := rows_line (h.below hbl) hy
                obtain ⟨q0, q1, q2, q3⟩ := hr _ (List.mem_of_getElem? hy)
                dsimp only at p0 p1 p2 p3 q0 q1 q2 q3
                have p0 := fun o => (World.cell?_alloc_lt wr o _ (low_of_cell p0)).trans p0
                have p1 := fun o => (World.cell?_alloc_lt wr o _ (low_of_cell p1)).trans p1
                have p2 := fun o => (World.cell?_alloc_lt wr o _ (low_of_cell p2)).trans p2
                have p3 := fun o => (World.cell?_alloc_lt wr o _ (low_of_cell p3)).trans p3
                by_cases cs : ys < xs ∨ (ys = xs ∧ yo < xo)
                · have hnew := Lib.hid (tab_step hx h1 h2 ce.out (.inr ⟨_, hy, cs⟩))
                  clear hx h1 h2 hy
                  go_wp2
                  all_goals first
                    | (exfalso; omega)
                    | (go_roundw; (case rel => exact ⟨k + 1, by omega, by go_num, (hbl.alloc hB _).alloc (hB2 _) _, hnew.out.1, hnew.out.2⟩); (case measure => simp [intOf]; omega))
                · have hf := Lib.hid (show r = false by
                    rw [hR.out]
                    refine dec_no fun hT => cs ?_
                    have := hT.2.2 (k - 1) _ _ hy (by rw [show k - 1 + 1 = k by omega]; exact hx)
                    dsimp only at this
                    exact this)
                  clear hx h1 h2 hy
                  go_wp2
                  all_goals first
                    | (go_ret; exact ⟨by rw [hf.out]; rfl, (hbl.alloc hB _).alloc (hB2 _) _⟩)
                    | (exfalso; omega)
              · have hnew := Lib.hid (tab_step hx h1 h2 ce.out (.inl (by omega)))
                clear hx h1 h2
                go_wp2
                all_goals first
                  | (exfalso; omega)
                  | (go_roundw; (case rel => exact ⟨k + 1, by omega, by go_num, hbl.alloc hB _, hnew.out.1, hnew.out.2⟩); (case measure => simp [intOf]; omega))
            · have hf := Lib.hid (show r = false by
                rw [hR.out]
                exact dec_no fun hT => ce (hT.2.1 _ (List.mem_of_getElem? hx)))
              unfold EntOk RngOk at ce
              dsimp only at ce
              clear hx h1 h2
              go_wp2
              all_goals first
                | (go_ret; exact ⟨by rw [hf.out]; rfl, hbl.alloc hB _⟩)
                | (exfalso; omega)
          · have z2' : (xf != 0) = true := bne_iff_ne.2 z2
            by_cases ce : EntOk ⟨xs, xo, xf, 0⟩
            · have ce2 := ce
              unfold EntOk RngOk at ce2
              dsimp only at ce2
              obtain ⟨⟨⟨d0, d1⟩, ⟨d2, d3⟩, ⟨d4, d5⟩, ⟨d6, d7⟩⟩, d8⟩ := ce2
              have ce := Lib.hid ce
              by_cases hk0 : 0 < k
              · obtain ⟨⟨ys, yo, yf, yl⟩, hy⟩ : ∃ y, l[k - 1]? = some y := ⟨l[k - 1], List.getElem?_eq_getElem (by omega)⟩
                obtain ⟨p0, p1, p2, p3⟩ := rows_line (h.below hbl) hy
                obtain ⟨q0, q1, q2, q3⟩ := hr _ (List.mem_of_getElem? hy)
                dsimp only at p0 p1 p2 p3 q0 q1 q2 q3
                have p0 := fun o => (World.cell?_alloc_lt wr o _ (low_of_cell p0)).trans p0
                have p1 := fun o => (World.cell?_alloc_lt wr o _ (low_of_cell p1)).trans p1
                have p2 := fun o => (World.cell?_alloc_lt wr o _ (low_of_cell p2)).trans p2
                have p3 := fun o => (World.cell?_alloc_lt wr o _ (low_of_cell p3)).trans p3
                by_cases cs : ys < xs ∨ (ys = xs ∧ yo < xo)
                · have hnew := Lib.hid (tab_step hx h1 h2 ce.out (.inr ⟨_, hy, cs⟩))
                  clear hx h1 h2 hy
                  go_wp2
                  all_goals first
                    | (exfalso; omega)
                    | (go_roundw; (case rel => exact ⟨k + 1, by omega, by go_num, (hbl.alloc hB _).alloc (hB2 _) _, hnew.out.1, hnew.out.2⟩); (case measure => simp [intOf]; omega))
                · have hf := Lib.hid (show r = false by
                    rw [hR.out]
                    refine dec_no fun hT => cs ?_
                    have := hT.2.2 (k - 1) _ _ hy (by rw [show k - 1 + 1 = k by omega]; exact hx)
                    dsimp only at this
                    exact this)
                  clear hx h1 h2 hy
                  go_wp2
                  all_goals first
                    | (go_ret; exact ⟨by rw [hf.out]; rfl, (hbl.alloc hB _).alloc (hB2 _) _⟩)
                    | (exfalso; omega)
              · have hnew := Lib.hid (tab_step hx h1 h2 ce.out (.inl (by omega)))
                clear hx h1 h2
                go_wp2
                all_goals first
                  | (exfalso; omega)
                  | (go_roundw; (case rel => exact ⟨k + 1, by omega, by go_num, hbl.alloc hB _, hnew.out.1, hnew.out.2⟩); (case measure => simp [intOf]; omega))
            · have hf := Lib.hid (show r = false by
                rw [hR.out]
                exact dec_no fun hT => ce (hT.2.1 _ (List.mem_of_getElem? hx)))
              unfold EntOk RngOk at ce
              dsimp only at ce
              clear hx h1 h2
              go_wp2
              all_goals first
                | (go_ret; exact ⟨by rw [hf.out]; rfl, hbl.alloc hB _⟩)
                | (exfalso; omega)
        · have z1' : (xl == 0) = false := beq_eq_false_iff_ne.2 z1
          by_cases ce : EntOk ⟨xs, xo, xf, xl⟩
          · have ce2 := ce
            unfold EntOk RngOk at ce2
            dsimp only at ce2
            obtain ⟨⟨⟨d0, d1⟩, ⟨d2, d3⟩, ⟨d4, d5⟩, ⟨d6, d7⟩⟩, d8⟩ := ce2
            have ce := Lib.hid ce
            by_cases hk0 : 0 < k
            · obtain ⟨⟨ys, yo, yf, yl⟩, hy⟩ : ∃ y, l[k - 1]? = some y := ⟨l[k - 1], List.getElem?_eq_getElem (by omega)⟩
              obtain ⟨p0, p1, p2, p3⟩ := rows_line (h.below hbl) hy
              obtain ⟨q0, q1, q2, q3⟩ := hr _ (List.mem_of_getElem? hy)
              dsimp only at p0 p1 p2 p3 q0 q1 q2 q3
              have p0 := fun o => (World.cell?_alloc_lt wr o _ (low_of_cell p0)).trans p0
              have p1 := fun o => (World.cell?_alloc_lt wr o _ (low_of_cell p1)).trans p1
              have p2 := fun o => (World.cell?_alloc_lt wr o _ (low_of_cell p2)).trans p2
              have p3 := fun o => (World.cell?_alloc_lt wr o _ (low_of_cell p3)).trans p3
              by_cases cs : ys < xs ∨ (ys = xs ∧ yo < xo)
              · have hnew := Lib.hid (tab_step hx h1 h2 ce.out (.inr ⟨_, hy, cs⟩))
                clear hx h1 h2 hy
                go_wp2
                all_goals first
                  | (exfalso; omega)
                  | (go_roundw; (case rel => exact ⟨k + 1, by omega, by go_num, (hbl.alloc hB _).alloc (hB2 _) _, hnew.out.1, hnew.out.2⟩); (case measure => simp [intOf]; omega))
              · have hf := Lib.hid (show r = false by
                  rw [hR.out]
                  refine dec_no fun hT => cs ?_
                  have := hT.2.2 (k - 1) _ _ hy (by rw [show k - 1 + 1 = k by omega]; exact hx)
                  dsimp only at this
                  exact this)
                clear hx h1 h2 hy
                go_wp2
                all_goals first
                  | (go_ret; exact ⟨by rw [hf.out]; rfl, (hbl.alloc hB _).alloc (hB2 _) _⟩)
                  | (exfalso; omega)
            · have hnew := Lib.hid (tab_step hx h1 h2 ce.out (.inl (by omega)))
              clear hx h1 h2
              go_wp2
              all_goals first
                | (exfalso; omega)
                | (go_roundw; (case rel => exact ⟨k + 1, by omega, by go_num, hbl.alloc hB _, hnew.out.1, hnew.out.2⟩); (case measure => simp [intOf]; omega))
          · have hf := Lib.hid (show r = false by
              rw [hR.out]
              exact dec_no fun hT => ce (hT.2.1 _ (List.mem_of_getElem? hx)))
            unfold EntOk RngOk at ce
            dsimp only at ce
            clear hx h1 h2
            go_wp2
            all_goals first
              | (go_ret; exact ⟨by rw [hf.out]; rfl, hbl.alloc hB _⟩)
              | (exfalso; omega)
      · have : k = l.length := by omega
        subst this
        have hf := Lib.hid (show r = true by
          rw [hR.out]
          refine dec_yes ⟨h4, fun x hx => ?_, fun j x y hx hy => ?_⟩
          · obtain ⟨j, hj⟩ := List.getElem?_of_mem hx
            exact h1 j x (List.getElem?_eq_some_iff.1 hj).1 hj
          · exact h2 j x y (List.getElem?_eq_some_iff.1 hy).1 hx hy)
        go_wp2
        go_ret
        exact ⟨by rw [hf.out]; rfl, hbl⟩
  · have hf := Lib.hid (show r = false by rw [hR0]; exact dec_no fun hT => h4 hT.1)
    have hl4 : (4000 : Int) < (l.length : Int) := by omega
    clear hR0
    go_enter Tryz.func44, Tryz.ntmps44
    go_wp2
    go_ret
    exact ⟨by rw [hf.out]; rfl, Below.refl _ _⟩
end Go.Ev

/-
  Stage 3: the specification's Is and Check, exactly.
-/
namespace Go.Ev
open Go.RowKit Go.Proofs Go.Rw
theorem lens_nn : ∀ (l : List SecT), (∀ x ∈ l, SecOk x) → 0 ≤ lens l
  | [], _ => by simp [lens]
  | x :: l, h => by
    have hx := (h x (List.mem_cons_self ..)).2.2.2.2
    have e : lens (x :: l) = ((x.bn : Int) + x.zero) + lens l := by simp [lens]
    have := lens_nn l (fun z hz => h z (List.mem_cons_of_mem _ hz))
    omega
theorem lens_mem : ∀ (l : List SecT), (∀ x ∈ l, SecOk x) → ∀ y ∈ l, (y.bn : Int) + y.zero ≤ lens l
  | [], _, y, hy => by simp at hy
  | x :: l, h, y, hy => by
    have hx := (h x (List.mem_cons_self ..)).2.2.2.2
    have e : lens (x :: l) = ((x.bn : Int) + x.zero) + lens l := by simp [lens]
    have hl := lens_nn l (fun z hz => h z (List.mem_cons_of_mem _ hz))
    rcases List.mem_cons.1 hy with rfl | hy
    · omega
    · have := lens_mem l (fun z hz => h z (List.mem_cons_of_mem _ hz)) y hy
      omega
set_option maxRecDepth 100000 in
set_option maxHeartbeats 4000000 in
theorem ris_c {w : World} {v : Value} {o : ObjT} (h : ObjAt w v o) (hR : o.R) : Calls Tryz.prog 45 #[v] w (BelR (dec (ObjOk o)) w) := by
  obtain ⟨s1, s2, s3, s4, s5, rfl, k1, k2, k3, k4, k5⟩ := id h
  obtain ⟨a1, c1, rfl⟩ := rows_slice k1
  obtain ⟨a2, c2, rfl⟩ := rows_slice k2
  obtain ⟨a3, c3, rfl⟩ := rows_slice k3
  obtain ⟨a4, c4, rfl⟩ := rows_slice k4
  obtain ⟨a5, c5, rfl⟩ := rows_slice k5
  obtain ⟨hR1, hR2, hR3, hR4, hR5, hn1, hn2, hn3, hn4, hn5⟩ := id hR
  have z1 : ∀ A, Below w.heap.size w (w.alloc A) := fun A => (Below.refl w.heap.size w).alloc (Nat.le_refl _) A
  obtain ⟨A, hA⟩ : ∃ A : Obj, A = .cells #[.slice a1 o.secs.length c1, .slice a2 o.syms.length c2, .slice a3 o.rels.length c3, .slice a4 o.files.length c4, .slice a5 o.lines.length c5] 28 := ⟨_, rfl⟩
  have bx : ∀ wr, Below (w.alloc A).heap.size (w.alloc A) wr → wr.cell? ⟨w.heap.size, 0, none⟩ = some (.slice a1 o.secs.length c1) ∧ wr.cell? ⟨w.heap.size, 1, none⟩ = some (.slice a2 o.syms.length c2) ∧ wr.cell? ⟨w.heap.size, 2, none⟩ = some (.slice a3 o.rels.length c3) ∧ wr.cell? ⟨w.heap.size, 3, none⟩ = some (.slice a4 o.files.length c4) ∧ wr.cell? ⟨w.heap.size, 4, none⟩ = some (.slice a5 o.lines.length c5) := fun wr hb => by
    subst hA
    exact ⟨(hb.cell (p := ⟨w.heap.size, 0, none⟩) (by simp)).trans (new_cell w _ 28 0 _ rfl), (hb.cell (p := ⟨w.heap.size, 1, none⟩) (by simp)).trans (new_cell w _ 28 1 _ rfl), (hb.cell (p := ⟨w.heap.size, 2, none⟩) (by simp)).trans (new_cell w _ 28 2 _ rfl), (hb.cell (p := ⟨w.heap.size, 3, none⟩) (by simp)).trans (new_cell w _ 28 3 _ rfl), (hb.cell (p := ⟨w.heap.size, 4, none⟩) (by simp)).trans (new_cell w _ 28 4 _ rfl)⟩
  obtain ⟨r, hr0⟩ : ∃ r, r = dec (ObjOk o) := ⟨_, rfl⟩
  rw [← hr0]
  have hrr := Lib.hid hr0
  have hno := Lib.hid (fun (hs : ¬ ObjOk o) => show r = false by rw [hr0]; exact dec_no hs)
  clear hr0
  go_enter Tryz.func45, Tryz.ntmps45
  go_wp2_with fail
  rw [← hA]
  refine (rsecs_c (k1.below (z1 _)) hR1 hn1).mono ?_
  rintro e w1 ⟨rfl, hb1⟩
  have hbw := bel_then (z1 A) (Nat.le_refl _) hb1
  obtain ⟨b0, b1, b2, b3, b4⟩ := bx _ hb1
  by_cases m1 : SecsOk o.secs
  case neg =>
    have hf := Lib.hid (hno.out fun h => m1 h.1)
    rw [dec_no m1]
    go_wp2
    go_ret
    exact ⟨by rw [hf.out]; rfl, hbw⟩
  rw [dec_yes m1]
  have hf1 := Lib.hid m1
  clear m1
  have hsec : ∀ y ∈ o.secs, SecOk y ∧ y.R ∧ (y.bn : Int) + y.zero ≤ 65536 := fun y hy => ⟨hf1.out.2.1 y hy, hR1 y hy, Int.le_trans (lens_mem _ hf1.out.2.1 y hy) hf1.out.2.2.2⟩
  go_wp2_with fail
  refine (rsyms_c (h.below hbw) hR hsec).mono ?_
  rintro e w2 ⟨rfl, hb2⟩
  have hb1 := bel_then hb1 (Nat.le_refl _) hb2
  clear hb2 hbw b0 b1 b2 b3 b4
  have hbw := bel_then (z1 A) (Nat.le_refl _) hb1
  obtain ⟨b0, b1, b2, b3, b4⟩ := bx _ hb1
  by_cases m2 : SymsOk o
  case neg =>
    have hf := Lib.hid (hno.out fun h => m2 h.2.1)
    rw [dec_no m2]
    go_wp2
    go_ret
    exact ⟨by rw [hf.out]; rfl, hbw⟩
  rw [dec_yes m2]
  have hf2 := Lib.hid m2
  clear m2
  go_wp2_with fail
  refine (rrels_c (h.below hbw) hR).mono ?_
  rintro e w3 ⟨rfl, hb2⟩
  have hb1 := bel_then hb1 (Nat.le_refl _) hb2
  clear hb2 hbw b0 b1 b2 b3 b4
  have hbw := bel_then (z1 A) (Nat.le_refl _) hb1
  obtain ⟨b0, b1, b2, b3, b4⟩ := bx _ hb1
  by_cases m3 : RelsOk o
  case neg =>
    have hf := Lib.hid (hno.out fun h => m3 h.2.2.1)
    rw [dec_no m3]
    go_wp2
    go_ret
    exact ⟨by rw [hf.out]; rfl, hbw⟩
  rw [dec_yes m3]
  have hf3 := Lib.hid m3
  clear m3
  go_wp2_with fail
  refine (rfiles_c (k4.below hbw) hR4 hn4).mono ?_
  rintro e w4 ⟨rfl, hb2⟩
  have hb1 := bel_then hb1 (Nat.le_refl _) hb2
  clear hb2 hbw b0 b1 b2 b3 b4
  have hbw := bel_then (z1 A) (Nat.le_refl _) hb1
  obtain ⟨b0, b1, b2, b3, b4⟩ := bx _ hb1
  by_cases m4 : FilesOk o.files
  case neg =>
    have hf := Lib.hid (hno.out fun h => m4 h.2.2.2.1)
    rw [dec_no m4]
    go_wp2
    go_ret
    exact ⟨by rw [hf.out]; rfl, hbw⟩
  rw [dec_yes m4]
  have hf4 := Lib.hid m4
  clear m4
  go_wp2_with fail
  refine (table_x (k5.below hbw) hR5 hn5).mono ?_
  rintro e w5 ⟨rfl, hb2⟩
  have hb1 := bel_then hb1 (Nat.le_refl _) hb2
  clear hb2 hbw b0 b1 b2 b3 b4
  have hbw := bel_then (z1 A) (Nat.le_refl _) hb1
  obtain ⟨b0, b1, b2, b3, b4⟩ := bx _ hb1
  by_cases m5 : TabOk o.lines
  case neg =>
    have hf := Lib.hid (hno.out fun h => m5 h.2.2.2.2.1)
    rw [dec_no m5]
    go_wp2
    go_ret
    exact ⟨by rw [hf.out]; rfl, hbw⟩
  rw [dec_yes m5]
  have hf5 := Lib.hid m5
  clear m5
  go_wp2
  go_loopg [3] o.lines.length (fun gn i wr => ∃ k : Nat, gn + k = o.lines.length ∧ k ≤ o.lines.length ∧ i = .int .i64 k ∧ Below (w.alloc A).heap.size (w.alloc A) wr ∧ (∀ j x, j < k → o.lines[j]? = some x → LineIn o x))
  case atStart => exact ⟨0, by omega, by omega, rfl, hb1, fun j x hj => by omega⟩
  case round =>
    clear b0 b1 b2 b3 b4 hbw hb1
    obtain ⟨k, hgk, hk, rfl, hbl, hin⟩ := hrel
    have hbw := bel_then (z1 A) (Nat.le_refl _) hbl
    obtain ⟨b0, b1, b2, b3, b4⟩ := bx _ hbl
    by_cases hlt : k < o.lines.length
    · obtain ⟨b, of, rfl⟩ := rows_some2 k5 hlt
      obtain ⟨⟨xs, xo, xf, xl⟩, hx⟩ : ∃ x, o.lines[k]? = some x := ⟨o.lines[k], by simp [hlt]⟩
      have hE := hf5.out.2.1 _ (List.mem_of_getElem? hx)
      have hno2 := Lib.hid (fun (hs : ¬ LineIn o ⟨xs, xo, xf, xl⟩) => hno.out fun h => hs (h.2.2.2.2.2 _ (List.mem_of_getElem? hx)))
      obtain ⟨g0, g1, g2, g3⟩ := rows_line (k5.below hbw) hx
      unfold EntOk RngOk at hE
      dsimp only at g0 g1 g2 g3 hE
      have hlt' : (k : Int) < (o.lines.length : Int) := by omega
      have hB := hbw.size
      have hx := Lib.hid hx
      have hin := Lib.hid hin
      have e0 := fun o => (World.cell?_alloc_lt wr o _ (low_of_cell b0)).trans b0
      have e3 := fun o => (World.cell?_alloc_lt wr o _ (low_of_cell b3)).trans b3
      by_cases cs : (o.secs.length : Int) ≤ xs
      · have hf := Lib.hid (hno2.out fun h => by have := h.1.2; dsimp only at this; omega)
        go_wp2_with fail
        go_quiet (fail)
        go_wp2
        go_ret
        exact ⟨by rw [hf.out]; rfl, (below_drewN (hbw.alloc hB _) _)⟩
      · obtain ⟨j, rfl⟩ : ∃ j : Nat, xs = (j : Int) := ⟨xs.toNat, by omega⟩
        have hj : j < o.secs.length := by omega
        have hj' : (j : Int) < (o.secs.length : Int) := by omega
        have hd1 : decide ((o.secs.length : Int) ≤ (j : Int)) = false := decide_eq_false (by omega)
        have hd2 : decide (o.secs.length ≤ j) = false := decide_eq_false (by omega)
        have hd3 : ¬ o.secs.length ≤ j := by omega
        obtain ⟨bs, os, rfl⟩ := rows_some2 k1 hj
        obtain ⟨y, hy⟩ : ∃ y, o.secs[j]? = some y := ⟨o.secs[j], by simp [hj]⟩
        have hyR := hR1 _ (List.mem_of_getElem? hy)
        have hyz := (hf1.out.2.1 _ (List.mem_of_getElem? hy)).2.2.2.2
        have hlen := fun w => len_c (w := w) y hyR
        rw [len_in y hyR hyz.1 hyz.2] at hlen
        have p0 := fun A => (rows_sec (k1.below (hbw.alloc hB A)) hy).1
        have p1 := fun A => (rows_sec (k1.below (hbw.alloc hB A)) hy).2.1
        have p2 := fun A => (rows_sec (k1.below (hbw.alloc hB A)) hy).2.2.1
        have p3 := fun A => (rows_sec (k1.below (hbw.alloc hB A)) hy).2.2.2.1
        have p4 := fun A => (rows_sec (k1.below (hbw.alloc hB A)) hy).2.2.2.2
        have hdef := Lib.hid (fun (h : LineIn o ⟨(j : Int), xo, xf, xl⟩) => show xo < (y.bn : Int) + y.zero ∧ (xl = 0 ∨ xf < (o.files.length : Int)) by
          obtain ⟨-, ⟨y', hy', h2⟩, h3⟩ := h
          dsimp only at hy' h2 h3
          rw [Int.toNat_natCast, hy] at hy'
          cases hy'
          exact ⟨h2.2, h3.imp_right And.right⟩)
        have hdef2 := Lib.hid (fun (h : (xo < (y.bn : Int) + y.zero) ∧ (xl = 0 ∨ xf < (o.files.length : Int))) => show LineIn o ⟨(j : Int), xo, xf, xl⟩ from ⟨⟨by dsimp only; omega, by dsimp only; omega⟩, ⟨y, by dsimp only; rw [Int.toNat_natCast]; exact hy, by dsimp only; omega, h.1⟩, h.2.imp_right fun h => ⟨by dsimp only; omega, h⟩⟩)
        have hy := Lib.hid hy
        have hnew : LineIn o ⟨(j : Int), xo, xf, xl⟩ → (∀ j x, j < k + 1 → o.lines[j]? = some x → LineIn o x) := fun hL i x hi hx' => by
          by_cases hik : i < k
          · exact hin.out i x hik hx'
          · obtain rfl : i = k := by omega
            rw [hx.out] at hx'
            cases hx'
            exact hL
        have hnew := Lib.hid hnew
        obtain ⟨yn, yr, ya, yb, yl, yc, yz⟩ := y
        dsimp only [SecT.v] at p0 p1 p2 p3 p4 hlen hyz hdef hdef2
        obtain ⟨L, hL⟩ : ∃ L : Int, L = (yl : Int) + yz := ⟨_, rfl⟩
        rw [← hL] at hlen hdef hdef2
        clear hL
        have hB4 : (w.alloc A).heap.size ≤ wr.heap.size := hbl.size
        have x0 := fun d os => cell_regrown (new_cell wr #[.int .i64 (j : Int), .int .i64 xo, .int .i64 xf, .int .i64 xl] 48 0 _ rfl) d os
        have x1 := fun d os => cell_regrown (new_cell wr #[.int .i64 (j : Int), .int .i64 xo, .int .i64 xf, .int .i64 xl] 48 1 _ rfl) d os
        have x2 := fun d os => cell_regrown (new_cell wr #[.int .i64 (j : Int), .int .i64 xo, .int .i64 xf, .int .i64 xl] 48 2 _ rfl) d os
        have x3 := fun d os => cell_regrown (new_cell wr #[.int .i64 (j : Int), .int .i64 xo, .int .i64 xf, .int .i64 xl] 48 3 _ rfl) d os
        have y0 := fun d os => cell_regrown (e0 (.cells #[.int .i64 (j : Int), .int .i64 xo, .int .i64 xf, .int .i64 xl] 48)) d os
        have y3 := fun d os => cell_regrown (e3 (.cells #[.int .i64 (j : Int), .int .i64 xo, .int .i64 xf, .int .i64 xl] 48)) d os
        have u0 := fun d os => cell_regrown (p0 (.cells #[.int .i64 (j : Int), .int .i64 xo, .int .i64 xf, .int .i64 xl] 48)) d os
        have u1 := fun d os => cell_regrown (p1 (.cells #[.int .i64 (j : Int), .int .i64 xo, .int .i64 xf, .int .i64 xl] 48)) d os
        have u2 := fun d os => cell_regrown (p2 (.cells #[.int .i64 (j : Int), .int .i64 xo, .int .i64 xf, .int .i64 xl] 48)) d os
        have u3 := fun d os => cell_regrown (p3 (.cells #[.int .i64 (j : Int), .int .i64 xo, .int .i64 xf, .int .i64 xl] 48)) d os
        have u4 := fun d os => cell_regrown (p4 (.cells #[.int .i64 (j : Int), .int .i64 xo, .int .i64 xf, .int .i64 xl] 48)) d os
        clear e0 e3 p0 p1 p2 p3 p4
        by_cases c2 : L ≤ xo
        · have hd4 : decide (L ≤ xo) = true := decide_eq_true c2
          have hd7 : decide (xo < L) = false := decide_eq_false (by omega)
          have hd8 : ¬ xo < L := by omega
          have hf := Lib.hid (hno2.out fun h => by have := (hdef.out h).1; omega)
          go_wp2_with fail
          refine wp_region_quiet_below (by kernel_rfl) (by kernel_rfl) ?_
          repeat (go_big_quiet_step (exact Calls.regrown_of (hlen _)))
          refine wpQuiet_nil ?_
          intro _ hw'
          obtain ⟨⟨dq, osq⟩, hw''⟩ := hw'
          subst hw''
          have hb2 := below_regrown (wr.alloc (.cells #[.int .i64 (j : Int), .int .i64 xo, .int .i64 xf, .int .i64 xl] 48)) dq osq
          go_wp2
          all_goals (go_ret; exact ⟨by rw [hf.out]; rfl, (bel_then (hbw.alloc hB _) (Nat.le_refl _) hb2)⟩)
        · have hd4 : decide (L ≤ xo) = false := decide_eq_false c2
          have c2' : xo < L := by omega
          by_cases c3 : (0 : Int) < xl
          · have hd5 : decide ((0 : Int) < xl) = true := decide_eq_true c3
            by_cases c4 : (o.files.length : Int) ≤ xf
            · have hd6 : decide ((o.files.length : Int) ≤ xf) = true := decide_eq_true c4
              have hf := Lib.hid (hno2.out fun h => by have := (hdef.out h).2; omega)
              go_wp2_with fail
              refine wp_region_quiet_below (by kernel_rfl) (by kernel_rfl) ?_
              repeat (go_big_quiet_step (exact Calls.regrown_of (hlen _)))
              refine wpQuiet_nil ?_
              intro _ hw'
              obtain ⟨⟨dq, osq⟩, hw''⟩ := hw'
              subst hw''
              have hb2 := below_regrown (wr.alloc (.cells #[.int .i64 (j : Int), .int .i64 xo, .int .i64 xf, .int .i64 xl] 48)) dq osq
              go_wp2
              all_goals (go_ret; exact ⟨by rw [hf.out]; rfl, (bel_then (hbw.alloc hB _) (Nat.le_refl _) hb2)⟩)
            · have hd6 : decide ((o.files.length : Int) ≤ xf) = false := decide_eq_false c4
              have c4' : xf < (o.files.length : Int) := by omega
              have hnew := Lib.hid (hnew.out (hdef2.out ⟨c2', .inr c4'⟩))
              go_wp2_with fail
              refine wp_region_quiet_below (by kernel_rfl) (by kernel_rfl) ?_
              repeat (go_big_quiet_step (exact Calls.regrown_of (hlen _)))
              refine wpQuiet_nil ?_
              intro _ hw'
              obtain ⟨⟨dq, osq⟩, hw''⟩ := hw'
              subst hw''
              have hb2 := below_regrown (wr.alloc (.cells #[.int .i64 (j : Int), .int .i64 xo, .int .i64 xf, .int .i64 xl] 48)) dq osq
              go_wp2
              all_goals (go_roundg (gk - 1); (case rel => exact ⟨k + 1, by omega, by omega, by go_num, bel_then (hbl.alloc hB4 _) (Nat.le_refl _) hb2, hnew.out⟩); (case measure => omega))
          · have hd5 : decide ((0 : Int) < xl) = false := decide_eq_false c3
            have c3' : xl ≤ 0 := by omega
            have hnew := Lib.hid (hnew.out (hdef2.out ⟨c2', .inl (by omega)⟩))
            go_wp2_with fail
            refine wp_region_quiet_below (by kernel_rfl) (by kernel_rfl) ?_
            repeat (go_big_quiet_step (exact Calls.regrown_of (hlen _)))
            refine wpQuiet_nil ?_
            intro _ hw'
            obtain ⟨⟨dq, osq⟩, hw''⟩ := hw'
            subst hw''
            have hb2 := below_regrown (wr.alloc (.cells #[.int .i64 (j : Int), .int .i64 xo, .int .i64 xf, .int .i64 xl] 48)) dq osq
            go_wp2
            all_goals (go_roundg (gk - 1); (case rel => exact ⟨k + 1, by omega, by omega, by go_num, bel_then (hbl.alloc hB4 _) (Nat.le_refl _) hb2, hnew.out⟩); (case measure => omega))
    · obtain rfl : k = o.lines.length := by omega
      have hf := Lib.hid (show r = true by
        rw [hrr.out]
        refine dec_yes ⟨hf1.out, hf2.out, hf3.out, hf4.out, hf5.out, fun x hx => ?_⟩
        obtain ⟨j, hj⟩ := List.getElem?_of_mem hx
        exact hin j x (List.getElem?_eq_some_iff.1 hj).1 hj)
      go_wp2
      go_ret
      exact ⟨by rw [hf.out]; rfl, hbw⟩
set_option maxRecDepth 100000 in
set_option maxHeartbeats 1000000 in
theorem rcheck_c {w : World} {v : Value} {o : ObjT} (h : ObjAt w v o) (hR : o.R) : Calls Tryz.prog 18 #[v] w (ErrR (dec (ObjOk o)) w) := by
  obtain ⟨s1, s2, s3, s4, s5, rfl, k1, k2, k3, k4, k5⟩ := id h
  have z1 : ∀ A, Below w.heap.size w (w.alloc A) := fun A => (Below.refl w.heap.size w).alloc (Nat.le_refl _) A
  have hI := fun A => ris_c (h.below (z1 A)) hR
  generalize dec (ObjOk o) = r at hI ⊢
  clear h k1 k2 k3 k4 k5
  cases r <;> (
    go_enter Tryz.func18, Tryz.ntmps18
    go_wp2_with (go_at_call 45; refine (hI _).mono ?_; rintro e w1 ⟨rfl, hb1⟩)
    go_ret
    exact ⟨rfl, bel_then (z1 _) (Nat.le_refl _) hb1⟩)
end Go.Ev

