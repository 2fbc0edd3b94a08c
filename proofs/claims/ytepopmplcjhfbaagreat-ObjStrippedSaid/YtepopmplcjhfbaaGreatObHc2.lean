import Derived.Test.YtepopmplcjhfbaaGreatObHc1
import Derived.Test.YtepopmplcjhfbaaGreatObGca
import Derived.Test.YtepopmplcjhfbaaGreatObGab
import Derived.Lib.QuietBelow
set_option linter.unusedSectionVars false
set_option linter.unusedVariables false
set_option linter.unusedSimpArgs false
set_option linter.unnecessarySimpa false
/-
  Stage 3: the relocations, in the specification.
-/
namespace Go.Ev
open Go.RowKit Go.Proofs Go.Rw
set_option maxRecDepth 100000 in
set_option maxHeartbeats 4000000 in
theorem relocs_b {w : World} {v : Value} {o : ObjT} (h : ObjAt w v o) (hR : o.R) : Calls Tryz.prog 137 #[v] w (BoolR w) := by
  obtain ⟨s1, s2, s3, s4, s5, rfl, k1, k2, k3, k4, k5⟩ := id h
  obtain ⟨a1, c1, rfl⟩ := rows_slice k1
  obtain ⟨a2, c2, rfl⟩ := rows_slice k2
  obtain ⟨a3, c3, rfl⟩ := rows_slice k3
  obtain ⟨hR1, -, hR3, -, -, hn1, hn2, hn3, -, -⟩ := hR
  have z1 : ∀ A, Below w.heap.size w (w.alloc A) := fun A => (Below.refl w.heap.size w).alloc (Nat.le_refl _) A
  clear k2 k4 k5 h
  go_enter Tryz.func137, Tryz.ntmps137
  go_wp2
  all_goals try (go_ret; exact ⟨_, rfl, z1 _⟩)
  go_loopw [3] (fun i wr => ∃ k : Nat, k ≤ o.rels.length ∧ i = .int .i64 k ∧ Below (w.alloc (.cells #[.slice a1 o.secs.length c1, .slice a2 o.syms.length c2, .slice a3 o.rels.length c3, s4, s5] 28)).heap.size (w.alloc (.cells #[.slice a1 o.secs.length c1, .slice a2 o.syms.length c2, .slice a3 o.rels.length c3, s4, s5] 28)) wr) (fun i _ => o.rels.length - (intOf i).toNat)
  case atStart => exact ⟨0, by omega, rfl, Below.refl _ _⟩
  case round =>
    obtain ⟨k, hk, rfl, hbl⟩ := hrel
    have hbw := bel_then (z1 _) (Nat.le_refl _) hbl
    have b0 := (hbl.cell (p := ⟨w.heap.size, 0, none⟩) (by simp)).trans (new_cell w _ 28 0 _ rfl)
    have b1 := (hbl.cell (p := ⟨w.heap.size, 1, none⟩) (by simp)).trans (new_cell w _ 28 1 _ rfl)
    have b2 := (hbl.cell (p := ⟨w.heap.size, 2, none⟩) (by simp)).trans (new_cell w _ 28 2 _ rfl)
    by_cases hlt : k < o.rels.length
    · obtain ⟨b, of, rfl⟩ := rows_some2 k3 hlt
      obtain ⟨⟨xs, xo, xk, xy, xa⟩, hx⟩ : ∃ x, o.rels[k]? = some x := ⟨o.rels[k], by simp [hlt]⟩
      obtain ⟨r0, r1, r2, r3, r4⟩ := hR3 _ (List.mem_of_getElem? hx)
      have hlt' : (k : Int) < (o.rels.length : Int) := by omega
      obtain ⟨g0, g1, g2, g3, g4⟩ := rows_rel (k3.below hbw) hx
      dsimp only at g0 g1 g2 g3 g4 r0 r1 r2 r3 r4
      unfold inI64 at r0 r1 r2 r3 r4
      clear hx
      have hB := hbw.size
      have hB2 : ∀ o, w.heap.size ≤ (wr.alloc o).heap.size := fun o => by rw [World.size_alloc]; omega
      have e0 := fun o => (World.cell?_alloc_lt wr o _ (low_of_cell b0)).trans b0
      have e1 := fun o => (World.cell?_alloc_lt wr o _ (low_of_cell b1)).trans b1
      have e2 := fun o => (World.cell?_alloc_lt wr o _ (low_of_cell b2)).trans b2
      by_cases hin : (0 : Int) ≤ xs ∧ xs < (o.secs.length : Int)
      · obtain ⟨j, rfl⟩ : ∃ j : Nat, xs = (j : Int) := ⟨xs.toNat, by omega⟩
        have hj : j < o.secs.length := by omega
        obtain ⟨bs, os, rfl⟩ := rows_some2 k1 hj
        obtain ⟨⟨yn, yr, ya, yb, yl, yc, yz⟩, hy⟩ : ∃ y, o.secs[j]? = some y := ⟨o.secs[j], by simp [hj]⟩
        have hyl := (hR1 _ (List.mem_of_getElem? hy)).2.2.1
        dsimp only at hyl
        have p3 := fun A => (rows_sec (k1.below (hbw.alloc hB A)) hy).2.2.2.1
        dsimp only at p3
        have hj' : (j : Int) < (o.secs.length : Int) := by omega
        clear hy
        go_wp2_with fail
        all_goals try (go_ret; exact ⟨_, rfl, hbw.alloc hB _⟩)
        refine (is32_c xa).mono ?_
        rintro e w1 ⟨r, rfl, rfl⟩
        cases r
        · go_wp2
          go_ret
          exact ⟨_, rfl, hbw.alloc hB _⟩
        · go_wp2_with fail
          by_cases c1 : xo < 0
          · go_quiet (fail)
            go_wp2
            go_ret
            exact ⟨_, rfl, below_drewN (hbw.alloc hB _) _⟩
          · by_cases c2 : (yl : Int) < xo
            · go_quiet (fail)
              go_wp2
              go_ret
              exact ⟨_, rfl, below_drewN (hbw.alloc hB _) _⟩
            · have c1' : (0 : Int) ≤ xo := by omega
              have c2' : xo ≤ (yl : Int) := by omega
              go_quiet (exact Calls.quiet_of_same (width_c _))
              have hB3 : ∀ o n, w.heap.size ≤ ((wr.alloc o).drewN n).heap.size := fun o n => hB2 o
              have hB4 := fun o n => Nat.le_trans hbl.size (show wr.heap.size ≤ ((wr.alloc o).drewN n).heap.size from by show wr.heap.size ≤ (wr.alloc o).heap.size; rw [World.size_alloc]; omega)
              by_cases hk0 : 0 < k
              · obtain ⟨⟨ps, po, pk, py, pa⟩, hp⟩ : ∃ y, o.rels[k - 1]? = some y := ⟨o.rels[k - 1], List.getElem?_eq_getElem (by omega)⟩
                have t0 := fun A => (rows_rel (k3.below (hbw.alloc hB A)) hp).1
                have t1 := fun A => (rows_rel (k3.below (hbw.alloc hB A)) hp).2.1
                have t2 := fun A => (rows_rel (k3.below (hbw.alloc hB A)) hp).2.2.1
                have t3 := fun A => (rows_rel (k3.below (hbw.alloc hB A)) hp).2.2.2.1
                have t4 := fun A => (rows_rel (k3.below (hbw.alloc hB A)) hp).2.2.2.2
                dsimp only at t0 t1 t2 t3 t4
                clear hp
                go_wp2_with fail
                all_goals try (go_ret; exact ⟨_, rfl, below_drewN (hbw.alloc hB _) _⟩)
                by_cases d1 : (j : Int) < ps
                · go_quiet (fail)
                  go_wp2
                  go_ret
                  exact ⟨_, rfl, below_drewN ((below_drewN (hbw.alloc hB _) _).alloc (hB3 _ _) _) _⟩
                · by_cases d2 : (j : Int) = ps
                  · subst d2
                    go_quiet (exact Calls.quiet_of_same (width_c _))
                    go_wp2
                    all_goals (first
                  | (go_ret; exact ⟨_, rfl, below_drewN ((below_drewN (hbw.alloc hB _) _).alloc (hB3 _ _) _) _⟩)
                  | (go_roundw; (case rel => exact ⟨k + 1, by omega, by go_num, below_drewN ((below_drewN (hbl.alloc hbl.size _) _).alloc (hB4 _ _) _) _⟩); (case measure => simp [intOf]; omega)))
                  · have d3 : ((j : Int) == ps) = false := by simp; omega
                    have d4 : ps ≤ (j : Int) := by omega
                    go_quiet (fail)
                    go_wp2
                    all_goals (first
                  | (go_ret; exact ⟨_, rfl, below_drewN ((below_drewN (hbw.alloc hB _) _).alloc (hB3 _ _) _) _⟩)
                  | (go_roundw; (case rel => exact ⟨k + 1, by omega, by go_num, below_drewN ((below_drewN (hbl.alloc hbl.size _) _).alloc (hB4 _ _) _) _⟩); (case measure => simp [intOf]; omega)))
              · go_wp2
                all_goals (first
                  | (go_ret; exact ⟨_, rfl, below_drewN (hbw.alloc hB _) _⟩)
                  | (go_roundw; (case rel => exact ⟨k + 1, by omega, by go_num, below_drewN (hbl.alloc hbl.size _) _⟩); (case measure => simp [intOf]; omega)))
      · go_wp2_with fail
        all_goals (go_ret; exact ⟨_, rfl, hbw.alloc hB _⟩)
    · go_wp2
      go_ret
      exact ⟨_, rfl, hbw⟩
end Go.Ev

/-
  Stage 3: 'small', the law's own bound.
-/
namespace Go.Ev
open Go.RowKit Go.Proofs Go.Rw
set_option maxRecDepth 100000 in
set_option maxHeartbeats 4000000 in
theorem small_b {w : World} {v : Value} {o : ObjT} (h : ObjAt w v o) (hR : o.R) : Calls Tryz.prog 16 #[v] w (BoolR w) := by
  obtain ⟨s1, s2, s3, s4, s5, rfl, k1, k2, k3, k4, k5⟩ := id h
  obtain ⟨a1, c1, rfl⟩ := rows_slice k1
  obtain ⟨a2, c2, rfl⟩ := rows_slice k2
  obtain ⟨a3, c3, rfl⟩ := rows_slice k3
  obtain ⟨a4, c4, rfl⟩ := rows_slice k4
  obtain ⟨a5, c5, rfl⟩ := rows_slice k5
  obtain ⟨hR1, hR2, -, hR4, -, hn1, hn2, hn3, hn4, hn5⟩ := hR
  have z1 : ∀ A, Below w.heap.size w (w.alloc A) := fun A => (Below.refl w.heap.size w).alloc (Nat.le_refl _) A
  clear k3 k5 h
  obtain ⟨A, hA⟩ : ∃ A : Obj, A = .cells #[.slice a1 o.secs.length c1, .slice a2 o.syms.length c2, .slice a3 o.rels.length c3, .slice a4 o.files.length c4, .slice a5 o.lines.length c5] 28 := ⟨_, rfl⟩
  have bx : ∀ wr, Below (w.alloc A).heap.size (w.alloc A) wr → wr.cell? ⟨w.heap.size, 0, none⟩ = some (.slice a1 o.secs.length c1) ∧ wr.cell? ⟨w.heap.size, 1, none⟩ = some (.slice a2 o.syms.length c2) ∧ wr.cell? ⟨w.heap.size, 2, none⟩ = some (.slice a3 o.rels.length c3) ∧ wr.cell? ⟨w.heap.size, 3, none⟩ = some (.slice a4 o.files.length c4) ∧ wr.cell? ⟨w.heap.size, 4, none⟩ = some (.slice a5 o.lines.length c5) := fun wr hb => by
    subst hA
    exact ⟨(hb.cell (p := ⟨w.heap.size, 0, none⟩) (by simp)).trans (new_cell w _ 28 0 _ rfl), (hb.cell (p := ⟨w.heap.size, 1, none⟩) (by simp)).trans (new_cell w _ 28 1 _ rfl), (hb.cell (p := ⟨w.heap.size, 2, none⟩) (by simp)).trans (new_cell w _ 28 2 _ rfl), (hb.cell (p := ⟨w.heap.size, 3, none⟩) (by simp)).trans (new_cell w _ 28 3 _ rfl), (hb.cell (p := ⟨w.heap.size, 4, none⟩) (by simp)).trans (new_cell w _ 28 4 _ rfl)⟩
  go_enter Tryz.func16, Tryz.ntmps16
  go_wp2
  rw [← hA]
  go_loopw [3, 13] (fun t i wr => ∃ (k : Nat) (z : Int), k ≤ o.secs.length ∧ t = .int .i64 z ∧ i = .int .i64 k ∧ Below (w.alloc A).heap.size (w.alloc A) wr) (fun _ i _ => o.secs.length - (intOf i).toNat)
  case atStart => exact ⟨0, 0, by omega, rfl, rfl, Below.refl _ _⟩
  case round =>
    obtain ⟨k, z, hk, rfl, rfl, hbl⟩ := hrel
    have hbw := bel_then (z1 _) (Nat.le_refl _) hbl
    obtain ⟨b0, b1, b2, b3, b4⟩ := bx _ hbl
    by_cases hlt : k < o.secs.length
    · obtain ⟨b, of, rfl⟩ := rows_some2 k1 hlt
      obtain ⟨x, hx⟩ : ∃ x, o.secs[k]? = some x := ⟨o.secs[k], by simp [hlt]⟩
      obtain ⟨g0, g1, g2, g3, g4⟩ := rows_sec (k1.below hbw) hx
      have hlt' : (k : Int) < (o.secs.length : Int) := by omega
      clear hx
      go_wp2
      go_roundw
      case rel => exact ⟨k + 1, _, by omega, rfl, by go_num, hbl.alloc hbl.size _⟩
      case measure => simp [intOf]; omega
    · go_wp2
      go_loopw [3, 30] (fun t i wr => ∃ (k : Nat) (z : Int), k ≤ o.syms.length ∧ t = .int .i64 z ∧ i = .int .i64 k ∧ Below (w.alloc A).heap.size (w.alloc A) wr) (fun _ i _ => o.syms.length - (intOf i).toNat)
      case atStart => exact ⟨0, z, by omega, rfl, rfl, hbl⟩
      case round =>
        clear b0 b1 b2 b3 b4 hbw hbl
        obtain ⟨k, z, hk, rfl, rfl, hbl⟩ := hrel
        have hbw := bel_then (z1 _) (Nat.le_refl _) hbl
        obtain ⟨b0, b1, b2, b3, b4⟩ := bx _ hbl
        by_cases hlt : k < o.syms.length
        · obtain ⟨b, of, rfl⟩ := rows_some2 k2 hlt
          obtain ⟨x, hx⟩ : ∃ x, o.syms[k]? = some x := ⟨o.syms[k], by simp [hlt]⟩
          obtain ⟨g0, g1, g2, g3, g4, g5⟩ := rows_sym (k2.below hbw) hx
          have hlt' : (k : Int) < (o.syms.length : Int) := by omega
          clear hx
          go_wp2
          go_roundw
          case rel => exact ⟨k + 1, _, by omega, rfl, by go_num, hbl.alloc hbl.size _⟩
          case measure => simp [intOf]; omega
        · go_wp2
          go_loopw [3, 43] (fun t i wr => ∃ (k : Nat) (z : Int), k ≤ o.files.length ∧ t = .int .i64 z ∧ i = .int .i64 k ∧ Below (w.alloc A).heap.size (w.alloc A) wr) (fun _ i _ => o.files.length - (intOf i).toNat)
          case atStart => exact ⟨0, z, by omega, rfl, rfl, hbl⟩
          case round =>
            clear b0 b1 b2 b3 b4 hbw hbl
            obtain ⟨k, z, hk, rfl, rfl, hbl⟩ := hrel
            have hbw := bel_then (z1 _) (Nat.le_refl _) hbl
            obtain ⟨b0, b1, b2, b3, b4⟩ := bx _ hbl
            by_cases hlt : k < o.files.length
            · obtain ⟨b, of, rfl⟩ := rows_some2 k4 hlt
              obtain ⟨x, hx⟩ : ∃ x, o.files[k]? = some x := ⟨o.files[k], by simp [hlt]⟩
              have g0 := rows_file (k4.below hbw) hx
              have hlt' : (k : Int) < (o.files.length : Int) := by omega
              clear hx
              go_wp2
              go_roundw
              case rel => exact ⟨k + 1, _, by omega, rfl, by go_num, hbl⟩
              case measure => simp [intOf]; omega
            · go_wp2
              all_goals (go_ret; exact ⟨_, rfl, hbw⟩)
end Go.Ev

/-
  Stage 3: the specification's Is.
-/
namespace Go.Ev
open Go.RowKit Go.Proofs Go.Rw
/-- What an object is that Is takes, as far as it is used here. -/
structure ObjT.Ok (o : ObjT) : Prop where
  zero : ∀ x ∈ o.secs, 0 ≤ x.zero ∧ x.zero ≤ 65536
  secs : o.secs.length ≤ 16
  syms : o.syms.length ≤ 500
  sym : ∀ x ∈ o.syms, x.sec < (o.secs.length : Int)
  lines : o.lines.length ≤ 4000
  line : ∀ x ∈ o.lines, x.ok
  steps : Steps o.lines
  inside : ∀ x ∈ o.lines, ∃ (j : Nat) (s : SecT), x.sec = (j : Int) ∧ o.secs[j]? = some s ∧ x.off < (s.bn : Int) + s.zero
def IsR (o : ObjT) (w : World) (e : Ending) (w' : World) : Prop := ∃ r : Bool, e = .returned (.bool r) ∧ Below w.heap.size w w' ∧ (r = true → o.Ok)
theorem is_no {o : ObjT} {w w' : World} (h : Below w.heap.size w w') : IsR o w (.returned (.bool false)) w' := ⟨_, rfl, h, by simp⟩
theorem is_yes {o : ObjT} {w w' : World} (h : Below w.heap.size w w') (h' : o.Ok) : IsR o w (.returned (.bool true)) w' := ⟨_, rfl, h, fun _ => h'⟩
set_option maxRecDepth 100000 in
set_option maxHeartbeats 4000000 in
theorem is_b {w : World} {v : Value} {o : ObjT} (h : ObjAt w v o) (hR : o.R) : Calls Tryz.prog 45 #[v] w (IsR o w) := by
  obtain ⟨s1, s2, s3, s4, s5, rfl, k1, k2, k3, k4, k5⟩ := id h
  obtain ⟨a1, c1, rfl⟩ := rows_slice k1
  obtain ⟨a2, c2, rfl⟩ := rows_slice k2
  obtain ⟨a3, c3, rfl⟩ := rows_slice k3
  obtain ⟨a4, c4, rfl⟩ := rows_slice k4
  obtain ⟨a5, c5, rfl⟩ := rows_slice k5
  obtain ⟨hR1, hR2, hR3, hR4, hR5, hn1, hn2, hn3, hn4, hn5⟩ := id hR
  have z1 : ∀ A, Below w.heap.size w (w.alloc A) := fun A => (Below.refl w.heap.size w).alloc (Nat.le_refl _) A
  obtain ⟨A, hA⟩ : ∃ A : Obj, A = .cells #[.slice a1 o.secs.length c1, .slice a2 o.syms.length c2, .slice a3 o.rels.length c3, .slice a4 o.files.length c4, .slice a5 o.lines.length c5] 28 := ⟨_, rfl⟩
  have bx : ∀ wr, Below (w.alloc A).heap.size (w.alloc A) wr → wr.cell? ⟨w.heap.size, 0, none⟩ = some (.slice a1 o.secs.length c1) ∧ wr.cell? ⟨w.heap.size, 1, none⟩ = some (.slice a2 o.syms.length c2) ∧ wr.cell? ⟨w.heap.size, 2, none⟩ = some (.slice a3 o.rels.length c3) ∧ wr.cell? ⟨w.heap.size, 3, none⟩ = some (.slice a4 o.files.length c4) ∧ wr.cell? ⟨w.heap.size, 4, none⟩ = some (.slice a5 o.lines.length c5) := fun wr hb => by
    subst hA
    exact ⟨(hb.cell (p := ⟨w.heap.size, 0, none⟩) (by simp)).trans (new_cell w _ 28 0 _ rfl), (hb.cell (p := ⟨w.heap.size, 1, none⟩) (by simp)).trans (new_cell w _ 28 1 _ rfl), (hb.cell (p := ⟨w.heap.size, 2, none⟩) (by simp)).trans (new_cell w _ 28 2 _ rfl), (hb.cell (p := ⟨w.heap.size, 3, none⟩) (by simp)).trans (new_cell w _ 28 3 _ rfl), (hb.cell (p := ⟨w.heap.size, 4, none⟩) (by simp)).trans (new_cell w _ 28 4 _ rfl)⟩
  go_enter Tryz.func45, Tryz.ntmps45
  go_wp2_with fail
  rw [← hA]
  refine (secs_b (k1.below (z1 _)) hR1 hn1).mono ?_
  rintro e w1 ⟨r, rfl, hb1, f1⟩
  have hbw := bel_then (z1 A) (Nat.le_refl _) hb1
  obtain ⟨b0, b1, b2, b3, b4⟩ := bx _ hb1
  cases r
  · go_wp2
    go_ret
    exact is_no hbw
  have hf1 := Lib.hid (f1 rfl)
  clear f1
  go_wp2_with fail
  refine (symbols_b (h.below hbw) hR).mono ?_
  rintro e w2 ⟨r, rfl, hb2, f2⟩
  have hb1 := bel_then hb1 (Nat.le_refl _) hb2
  clear hb2 hbw b0 b1 b2 b3 b4
  have hbw := bel_then (z1 A) (Nat.le_refl _) hb1
  obtain ⟨b0, b1, b2, b3, b4⟩ := bx _ hb1
  cases r
  · go_wp2
    go_ret
    exact is_no hbw
  have hf2 := Lib.hid (f2 rfl)
  clear f2
  go_wp2_with fail
  refine (relocs_b (h.below hbw) hR).mono ?_
  rintro e w3 ⟨r, rfl, hb2⟩
  have hb1 := bel_then hb1 (Nat.le_refl _) hb2
  clear hb2 hbw b0 b1 b2 b3 b4
  have hbw := bel_then (z1 A) (Nat.le_refl _) hb1
  obtain ⟨b0, b1, b2, b3, b4⟩ := bx _ hb1
  cases r
  · go_wp2
    go_ret
    exact is_no hbw
  go_wp2_with fail
  refine (files_b (k4.below hbw) hR4 hn4).mono ?_
  rintro e w4 ⟨r, rfl, hb2⟩
  have hb1 := bel_then hb1 (Nat.le_refl _) hb2
  clear hb2 hbw b0 b1 b2 b3 b4
  have hbw := bel_then (z1 A) (Nat.le_refl _) hb1
  obtain ⟨b0, b1, b2, b3, b4⟩ := bx _ hb1
  cases r
  · go_wp2
    go_ret
    exact is_no hbw
  go_wp2_with fail
  refine (table_b (k5.below hbw) hR5 hn5).mono ?_
  rintro e w5 ⟨r, rfl, hb2, f3⟩
  have hb1 := bel_then hb1 (Nat.le_refl _) hb2
  clear hb2 hbw b0 b1 b2 b3 b4
  have hbw := bel_then (z1 A) (Nat.le_refl _) hb1
  obtain ⟨b0, b1, b2, b3, b4⟩ := bx _ hb1
  cases r
  · go_wp2
    go_ret
    exact is_no hbw
  have hf3 := Lib.hid (f3 rfl)
  clear f3
  go_wp2
  go_loopw [3] (fun i wr => ∃ k : Nat, k ≤ o.lines.length ∧ i = .int .i64 k ∧ Below (w.alloc A).heap.size (w.alloc A) wr ∧ (∀ j x, j < k → o.lines[j]? = some x → ∃ (i : Nat) (s : SecT), x.sec = (i : Int) ∧ o.secs[i]? = some s ∧ x.off < (s.bn : Int) + s.zero)) (fun i _ => o.lines.length - (intOf i).toNat)
  case atStart => exact ⟨0, by omega, rfl, hb1, fun j x hj => by omega⟩
  case round =>
    clear b0 b1 b2 b3 b4 hbw hb1
    obtain ⟨k, hk, rfl, hbl, hin⟩ := hrel
    have hbw := bel_then (z1 A) (Nat.le_refl _) hbl
    obtain ⟨b0, b1, b2, b3, b4⟩ := bx _ hbl
    by_cases hlt : k < o.lines.length
    · obtain ⟨b, of, rfl⟩ := rows_some2 k5 hlt
      obtain ⟨⟨xs, xo, xf, xl⟩, hx⟩ : ∃ x, o.lines[k]? = some x := ⟨o.lines[k], by simp [hlt]⟩
      obtain ⟨q0, q1, q2, q3, q4, q5⟩ := hf3.out.2.1 _ (List.mem_of_getElem? hx)
      obtain ⟨g0, g1, g2, g3⟩ := rows_line (k5.below hbw) hx
      dsimp only at g0 g1 g2 g3 q0 q1 q2 q3 q4 q5
      have hlt' : (k : Int) < (o.lines.length : Int) := by omega
      have hB := hbw.size
      have hx := Lib.hid hx
      have hin := Lib.hid hin
      have e0 := fun o => (World.cell?_alloc_lt wr o _ (low_of_cell b0)).trans b0
      have e3 := fun o => (World.cell?_alloc_lt wr o _ (low_of_cell b3)).trans b3
      by_cases cs : (o.secs.length : Int) ≤ xs
      · go_wp2_with fail
        go_quiet (fail)
        go_wp2
        go_ret
        exact is_no (below_drewN (hbw.alloc hB _) _)
      · obtain ⟨j, rfl⟩ : ∃ j : Nat, xs = (j : Int) := ⟨xs.toNat, by omega⟩
        have hj : j < o.secs.length := by omega
        have hj' : (j : Int) < (o.secs.length : Int) := by omega
        have hd1 : decide ((o.secs.length : Int) ≤ (j : Int)) = false := decide_eq_false (by omega)
        have hd2 : decide (o.secs.length ≤ j) = false := decide_eq_false (by omega)
        have hd3 : ¬ o.secs.length ≤ j := by omega
        obtain ⟨bs, os, rfl⟩ := rows_some2 k1 hj
        obtain ⟨y, hy⟩ : ∃ y, o.secs[j]? = some y := ⟨o.secs[j], by simp [hj]⟩
        have hyR := hR1 _ (List.mem_of_getElem? hy)
        have hyz := hf1.out.2 _ (List.mem_of_getElem? hy)
        have hlen := fun w => len_c (w := w) y hyR
        rw [len_in y hyR hyz.1 hyz.2] at hlen
        have p0 := fun A => (rows_sec (k1.below (hbw.alloc hB A)) hy).1
        have p1 := fun A => (rows_sec (k1.below (hbw.alloc hB A)) hy).2.1
        have p2 := fun A => (rows_sec (k1.below (hbw.alloc hB A)) hy).2.2.1
        have p3 := fun A => (rows_sec (k1.below (hbw.alloc hB A)) hy).2.2.2.1
        have p4 := fun A => (rows_sec (k1.below (hbw.alloc hB A)) hy).2.2.2.2
        have hy := Lib.hid hy
        obtain ⟨yn, yr, ya, yb, yl, yc, yz⟩ := y
        dsimp only [SecT.v] at p0 p1 p2 p3 p4 hlen hyz
        obtain ⟨L, hL⟩ : ∃ L : Int, L = (yl : Int) + yz := ⟨_, rfl⟩
        rw [← hL] at hlen
        have hL2 := Lib.hid hL
        clear hL
        have hB4 : (w.alloc A).heap.size ≤ wr.heap.size := hbl.size
        have x0 := fun d os => cell_regrown (new_cell wr #[.int .i64 (j : Int), .int .i64 xo, .int .i64 xf, .int .i64 xl] 48 0 _ rfl) d os
        have x1 := fun d os => cell_regrown (new_cell wr #[.int .i64 (j : Int), .int .i64 xo, .int .i64 xf, .int .i64 xl] 48 1 _ rfl) d os
        have x2 := fun d os => cell_regrown (new_cell wr #[.int .i64 (j : Int), .int .i64 xo, .int .i64 xf, .int .i64 xl] 48 2 _ rfl) d os
        have x3 := fun d os => cell_regrown (new_cell wr #[.int .i64 (j : Int), .int .i64 xo, .int .i64 xf, .int .i64 xl] 48 3 _ rfl) d os
        have y0 := fun d os => cell_regrown (e0 (.cells #[.int .i64 (j : Int), .int .i64 xo, .int .i64 xf, .int .i64 xl] 48)) d os
        have y3 := fun d os => cell_regrown (e3 (.cells #[.int .i64 (j : Int), .int .i64 xo, .int .i64 xf, .int .i64 xl] 48)) d os
        have u0 := fun d os => cell_regrown (p0 (.cells #[.int .i64 (j : Int), .int .i64 xo, .int .i64 xf, .int .i64 xl] 48)) d os
        have u1 := fun d os => cell_regrown (p1 (.cells #[.int .i64 (j : Int), .int .i64 xo, .int .i64 xf, .int .i64 xl] 48)) d os
        have u2 := fun d os => cell_regrown (p2 (.cells #[.int .i64 (j : Int), .int .i64 xo, .int .i64 xf, .int .i64 xl] 48)) d os
        have u3 := fun d os => cell_regrown (p3 (.cells #[.int .i64 (j : Int), .int .i64 xo, .int .i64 xf, .int .i64 xl] 48)) d os
        have u4 := fun d os => cell_regrown (p4 (.cells #[.int .i64 (j : Int), .int .i64 xo, .int .i64 xf, .int .i64 xl] 48)) d os
        clear e0 e3 p0 p1 p2 p3 p4
        by_cases c2 : L ≤ xo
        · have hd4 : decide (L ≤ xo) = true := decide_eq_true c2
          have hd7 : decide (xo < L) = false := decide_eq_false (by omega)
          have hd8 : ¬ xo < L := by omega
          go_wp2_with fail
          refine wp_region_quiet_below (by kernel_rfl) (by kernel_rfl) ?_
          repeat (go_big_quiet_step (exact Calls.regrown_of (hlen _)))
          refine wpQuiet_nil ?_
          intro _ hw'
          obtain ⟨⟨dq, osq⟩, hw''⟩ := hw'
          subst hw''
          have hb2 := below_regrown (wr.alloc (.cells #[.int .i64 (j : Int), .int .i64 xo, .int .i64 xf, .int .i64 xl] 48)) dq osq
          go_wp2
          all_goals (go_ret; exact is_no (bel_then (hbw.alloc hB _) (Nat.le_refl _) hb2))
        · have hd4 : decide (L ≤ xo) = false := decide_eq_false c2
          have c2' : xo < L := by omega
          have hnew : (∀ j x, j < k + 1 → o.lines[j]? = some x → ∃ (i : Nat) (s : SecT), x.sec = (i : Int) ∧ o.secs[i]? = some s ∧ x.off < (s.bn : Int) + s.zero) := fun i x hi hx' => by
            by_cases hik : i < k
            · exact hin.out i x hik hx'
            · obtain rfl : i = k := by omega
              rw [hx.out] at hx'
              cases hx'
              exact ⟨j, _, rfl, hy.out, by have := hL2.out; dsimp only at c2' ⊢; omega⟩
          have hnew := Lib.hid hnew
          by_cases c3 : (0 : Int) < xl
          · have hd5 : decide ((0 : Int) < xl) = true := decide_eq_true c3
            by_cases c4 : (o.files.length : Int) ≤ xf
            · have hd6 : decide ((o.files.length : Int) ≤ xf) = true := decide_eq_true c4
              go_wp2_with fail
              refine wp_region_quiet_below (by kernel_rfl) (by kernel_rfl) ?_
              repeat (go_big_quiet_step (exact Calls.regrown_of (hlen _)))
              refine wpQuiet_nil ?_
              intro _ hw'
              obtain ⟨⟨dq, osq⟩, hw''⟩ := hw'
              subst hw''
              have hb2 := below_regrown (wr.alloc (.cells #[.int .i64 (j : Int), .int .i64 xo, .int .i64 xf, .int .i64 xl] 48)) dq osq
              go_wp2
              all_goals (go_ret; exact is_no (bel_then (hbw.alloc hB _) (Nat.le_refl _) hb2))
            · have hd6 : decide ((o.files.length : Int) ≤ xf) = false := decide_eq_false c4
              have c4' : xf < (o.files.length : Int) := by omega
              go_wp2_with fail
              refine wp_region_quiet_below (by kernel_rfl) (by kernel_rfl) ?_
              repeat (go_big_quiet_step (exact Calls.regrown_of (hlen _)))
              refine wpQuiet_nil ?_
              intro _ hw'
              obtain ⟨⟨dq, osq⟩, hw''⟩ := hw'
              subst hw''
              have hb2 := below_regrown (wr.alloc (.cells #[.int .i64 (j : Int), .int .i64 xo, .int .i64 xf, .int .i64 xl] 48)) dq osq
              go_wp2
              all_goals (go_roundw; (case rel => exact ⟨k + 1, by omega, by go_num, bel_then (hbl.alloc hB4 _) (Nat.le_refl _) hb2, hnew.out⟩); (case measure => simp [intOf]; omega))
          · have hd5 : decide ((0 : Int) < xl) = false := decide_eq_false c3
            have c3' : xl ≤ 0 := by omega
            go_wp2_with fail
            refine wp_region_quiet_below (by kernel_rfl) (by kernel_rfl) ?_
            repeat (go_big_quiet_step (exact Calls.regrown_of (hlen _)))
            refine wpQuiet_nil ?_
            intro _ hw'
            obtain ⟨⟨dq, osq⟩, hw''⟩ := hw'
            subst hw''
            have hb2 := below_regrown (wr.alloc (.cells #[.int .i64 (j : Int), .int .i64 xo, .int .i64 xf, .int .i64 xl] 48)) dq osq
            go_wp2
            all_goals (go_roundw; (case rel => exact ⟨k + 1, by omega, by go_num, bel_then (hbl.alloc hB4 _) (Nat.le_refl _) hb2, hnew.out⟩); (case measure => simp [intOf]; omega))
    · have : k = o.lines.length := by omega
      subst this
      go_wp2
      go_ret
      refine is_yes hbw ⟨hf1.out.2, hf1.out.1, hf2.out.1, hf2.out.2, hf3.out.1, hf3.out.2.1, hf3.out.2.2, fun x hx => ?_⟩
      obtain ⟨j, hj⟩ := List.getElem?_of_mem hx
      exact hin j x (List.getElem?_eq_some_iff.1 hj).1 hj
end Go.Ev

