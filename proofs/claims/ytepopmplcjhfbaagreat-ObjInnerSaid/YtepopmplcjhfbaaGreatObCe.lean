import Derived.Test.YtepopmplcjhfbaaGreatObCt
set_option linter.unusedSectionVars false
set_option linter.unusedVariables false
set_option linter.unusedSimpArgs false
set_option linter.unnecessarySimpa false
/-
  Stage 3: the relocations, in the specification.
-/
namespace Go.Ev
open Go.RowKit Go.Proofs Go.Rw
set_option maxRecDepth 100000 in
set_option maxHeartbeats 4000000 in
theorem relocs_b {w : World} {v : Value} {o : ObjT} (h : ObjAt w v o) (hR : o.R) : Calls Tryz.prog 137 #[v] w (BoolR w) := by
  obtain ⟨s1, s2, s3, s4, s5, rfl, k1, k2, k3, k4, k5⟩ := id h
  obtain ⟨a1, c1, rfl⟩ := rows_slice k1
  obtain ⟨a2, c2, rfl⟩ := rows_slice k2
  obtain ⟨a3, c3, rfl⟩ := rows_slice k3
  obtain ⟨hR1, -, hR3, -, -, hn1, hn2, hn3, -, -⟩ := hR
  have z1 : ∀ A, Below w.heap.size w (w.alloc A) := fun A => (Below.refl w.heap.size w).alloc (Nat.le_refl _) A
  clear k2 k4 k5 h
  go_enter Tryz.func137, Tryz.ntmps137
  go_wp2
  all_goals try (go_ret; exact ⟨_, rfl, z1 _⟩)
  go_loopw [3] (fun i wr => ∃ k : Nat, k ≤ o.rels.length ∧ i = .int .i64 k ∧ Below (w.alloc (.cells #[.slice a1 o.secs.length c1, .slice a2 o.syms.length c2, .slice a3 o.rels.length c3, s4, s5] 28)).heap.size (w.alloc (.cells #[.slice a1 o.secs.length c1, .slice a2 o.syms.length c2, .slice a3 o.rels.length c3, s4, s5] 28)) wr) (fun i _ => o.rels.length - (intOf i).toNat)
  case atStart => exact ⟨0, by omega, rfl, Below.refl _ _⟩
  case round =>
    obtain ⟨k, hk, rfl, hbl⟩ := hrel
    have hbw := bel_then (z1 _) (Nat.le_refl _) hbl
    have b0 := (hbl.cell (p := ⟨w.heap.size, 0, none⟩) (by simp)).trans (new_cell w _ 28 0 _ rfl)
    have b1 := (hbl.cell (p := ⟨w.heap.size, 1, none⟩) (by simp)).trans (new_cell w _ 28 1 _ rfl)
    have b2 := (hbl.cell (p := ⟨w.heap.size, 2, none⟩) (by simp)).trans (new_cell w _ 28 2 _ rfl)
    by_cases hlt : k < o.rels.length
    · obtain ⟨b, of, rfl⟩ := rows_some2 k3 hlt
      obtain ⟨⟨xs, xo, xk, xy, xa⟩, hx⟩ : ∃ x, o.rels[k]? = some x := ⟨o.rels[k], by simp [hlt]⟩
      obtain ⟨r0, r1, r2, r3, r4⟩ := hR3 _ (List.mem_of_getElem? hx)
      have hlt' : (k : Int) < (o.rels.length : Int) := by omega
      obtain ⟨g0, g1, g2, g3, g4⟩ := rows_rel (k3.below hbw) hx
      dsimp only at g0 g1 g2 g3 g4 r0 r1 r2 r3 r4
      unfold inI64 at r0 r1 r2 r3 r4
      clear hx
      have hB := hbw.size
      have hB2 : ∀ o, w.heap.size ≤ (wr.alloc o).heap.size := fun o => by rw [World.size_alloc]; omega
      have e0 := fun o => (World.cell?_alloc_lt wr o _ (low_of_cell b0)).trans b0
      have e1 := fun o => (World.cell?_alloc_lt wr o _ (low_of_cell b1)).trans b1
      have e2 := fun o => (World.cell?_alloc_lt wr o _ (low_of_cell b2)).trans b2
      by_cases hin : (0 : Int) ≤ xs ∧ xs < (o.secs.length : Int)
      · obtain ⟨j, rfl⟩ : ∃ j : Nat, xs = (j : Int) := ⟨xs.toNat, by omega⟩
        have hj : j < o.secs.length := by omega
        obtain ⟨bs, os, rfl⟩ := rows_some2 k1 hj
        obtain ⟨⟨yn, yr, ya, yb, yl, yc, yz⟩, hy⟩ : ∃ y, o.secs[j]? = some y := ⟨o.secs[j], by simp [hj]⟩
        have hyl := (hR1 _ (List.mem_of_getElem? hy)).2.2.1
        dsimp only at hyl
        have p3 := fun A => (rows_sec (k1.below (hbw.alloc hB A)) hy).2.2.2.1
        dsimp only at p3
        have hj' : (j : Int) < (o.secs.length : Int) := by omega
        clear hy
        go_wp2_with fail
        all_goals try (go_ret; exact ⟨_, rfl, hbw.alloc hB _⟩)
        refine (is32_c xa).mono ?_
        rintro e w1 ⟨r, rfl, rfl⟩
        cases r
        · go_wp2
          go_ret
          exact ⟨_, rfl, hbw.alloc hB _⟩
        · go_wp2_with fail
          by_cases c1 : xo < 0
          · go_quiet (fail)
            go_wp2
            go_ret
            exact ⟨_, rfl, below_drewN (hbw.alloc hB _) _⟩
          · by_cases c2 : (yl : Int) < xo
            · go_quiet (fail)
              go_wp2
              go_ret
              exact ⟨_, rfl, below_drewN (hbw.alloc hB _) _⟩
            · have c1' : (0 : Int) ≤ xo := by omega
              have c2' : xo ≤ (yl : Int) := by omega
              go_quiet (exact Calls.quiet_of_same (width_c _))
              have hB3 : ∀ o n, w.heap.size ≤ ((wr.alloc o).drewN n).heap.size := fun o n => hB2 o
              have hB4 := fun o n => Nat.le_trans hbl.size (show wr.heap.size ≤ ((wr.alloc o).drewN n).heap.size from by show wr.heap.size ≤ (wr.alloc o).heap.size; rw [World.size_alloc]; omega)
              by_cases hk0 : 0 < k
              · obtain ⟨⟨ps, po, pk, py, pa⟩, hp⟩ : ∃ y, o.rels[k - 1]? = some y := ⟨o.rels[k - 1], List.getElem?_eq_getElem (by omega)⟩
                have t0 := fun A => (rows_rel (k3.below (hbw.alloc hB A)) hp).1
                have t1 := fun A => (rows_rel (k3.below (hbw.alloc hB A)) hp).2.1
                have t2 := fun A => (rows_rel (k3.below (hbw.alloc hB A)) hp).2.2.1
                have t3 := fun A => (rows_rel (k3.below (hbw.alloc hB A)) hp).2.2.2.1
                have t4 := fun A => (rows_rel (k3.below (hbw.alloc hB A)) hp).2.2.2.2
                dsimp only at t0 t1 t2 t3 t4
                clear hp
                go_wp2_with fail
                all_goals try (go_ret; exact ⟨_, rfl, below_drewN (hbw.alloc hB _) _⟩)
                by_cases d1 : (j : Int) < ps
                · go_quiet (fail)
                  go_wp2
                  go_ret
                  exact ⟨_, rfl, below_drewN ((below_drewN (hbw.alloc hB _) _).alloc (hB3 _ _) _) _⟩
                · by_cases d2 : (j : Int) = ps
                  · subst d2
                    go_quiet (exact Calls.quiet_of_same (width_c _))
                    go_wp2
                    all_goals (first
                  | (go_ret; exact ⟨_, rfl, below_drewN ((below_drewN (hbw.alloc hB _) _).alloc (hB3 _ _) _) _⟩)
                  | (go_roundw; (case rel => exact ⟨k + 1, by omega, by go_num, below_drewN ((below_drewN (hbl.alloc hbl.size _) _).alloc (hB4 _ _) _) _⟩); (case measure => simp [intOf]; omega)))
                  · have d3 : ((j : Int) == ps) = false := by simp; omega
                    have d4 : ps ≤ (j : Int) := by omega
                    go_quiet (fail)
                    go_wp2
                    all_goals (first
                  | (go_ret; exact ⟨_, rfl, below_drewN ((below_drewN (hbw.alloc hB _) _).alloc (hB3 _ _) _) _⟩)
                  | (go_roundw; (case rel => exact ⟨k + 1, by omega, by go_num, below_drewN ((below_drewN (hbl.alloc hbl.size _) _).alloc (hB4 _ _) _) _⟩); (case measure => simp [intOf]; omega)))
              · go_wp2
                all_goals (first
                  | (go_ret; exact ⟨_, rfl, below_drewN (hbw.alloc hB _) _⟩)
                  | (go_roundw; (case rel => exact ⟨k + 1, by omega, by go_num, below_drewN (hbl.alloc hbl.size _) _⟩); (case measure => simp [intOf]; omega)))
      · go_wp2_with fail
        all_goals (go_ret; exact ⟨_, rfl, hbw.alloc hB _⟩)
    · go_wp2
      go_ret
      exact ⟨_, rfl, hbw⟩
end Go.Ev
