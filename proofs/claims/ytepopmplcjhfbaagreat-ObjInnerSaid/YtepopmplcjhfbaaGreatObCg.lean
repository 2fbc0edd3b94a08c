import Derived.Test.YtepopmplcjhfbaaGreatObCc
set_option linter.unusedSectionVars false
set_option linter.unusedVariables false
set_option linter.unusedSimpArgs false
set_option linter.unnecessarySimpa false
/-
  Stage 3: 'small', the law's own bound.
-/
namespace Go.Ev
open Go.RowKit Go.Proofs Go.Rw
set_option maxRecDepth 100000 in
set_option maxHeartbeats 4000000 in
theorem small_b {w : World} {v : Value} {o : ObjT} (h : ObjAt w v o) (hR : o.R) : Calls Tryz.prog 16 #[v] w (BoolR w) := by
  obtain ⟨s1, s2, s3, s4, s5, rfl, k1, k2, k3, k4, k5⟩ := id h
  obtain ⟨a1, c1, rfl⟩ := rows_slice k1
  obtain ⟨a2, c2, rfl⟩ := rows_slice k2
  obtain ⟨a3, c3, rfl⟩ := rows_slice k3
  obtain ⟨a4, c4, rfl⟩ := rows_slice k4
  obtain ⟨a5, c5, rfl⟩ := rows_slice k5
  obtain ⟨hR1, hR2, -, hR4, -, hn1, hn2, hn3, hn4, hn5⟩ := hR
  have z1 : ∀ A, Below w.heap.size w (w.alloc A) := fun A => (Below.refl w.heap.size w).alloc (Nat.le_refl _) A
  clear k3 k5 h
  obtain ⟨A, hA⟩ : ∃ A : Obj, A = .cells #[.slice a1 o.secs.length c1, .slice a2 o.syms.length c2, .slice a3 o.rels.length c3, .slice a4 o.files.length c4, .slice a5 o.lines.length c5] 28 := ⟨_, rfl⟩
  have bx : ∀ wr, Below (w.alloc A).heap.size (w.alloc A) wr → wr.cell? ⟨w.heap.size, 0, none⟩ = some (.slice a1 o.secs.length c1) ∧ wr.cell? ⟨w.heap.size, 1, none⟩ = some (.slice a2 o.syms.length c2) ∧ wr.cell? ⟨w.heap.size, 2, none⟩ = some (.slice a3 o.rels.length c3) ∧ wr.cell? ⟨w.heap.size, 3, none⟩ = some (.slice a4 o.files.length c4) ∧ wr.cell? ⟨w.heap.size, 4, none⟩ = some (.slice a5 o.lines.length c5) := fun wr hb => by
    subst hA
    exact ⟨(hb.cell (p := ⟨w.heap.size, 0, none⟩) (by simp)).trans (new_cell w _ 28 0 _ rfl), (hb.cell (p := ⟨w.heap.size, 1, none⟩) (by simp)).trans (new_cell w _ 28 1 _ rfl), (hb.cell (p := ⟨w.heap.size, 2, none⟩) (by simp)).trans (new_cell w _ 28 2 _ rfl), (hb.cell (p := ⟨w.heap.size, 3, none⟩) (by simp)).trans (new_cell w _ 28 3 _ rfl), (hb.cell (p := ⟨w.heap.size, 4, none⟩) (by simp)).trans (new_cell w _ 28 4 _ rfl)⟩
  go_enter Tryz.func16, Tryz.ntmps16
  go_wp2
  rw [← hA]
  go_loopw [3, 13] (fun t i wr => ∃ (k : Nat) (z : Int), k ≤ o.secs.length ∧ t = .int .i64 z ∧ i = .int .i64 k ∧ Below (w.alloc A).heap.size (w.alloc A) wr) (fun _ i _ => o.secs.length - (intOf i).toNat)
  case atStart => exact ⟨0, 0, by omega, rfl, rfl, Below.refl _ _⟩
  case round =>
    obtain ⟨k, z, hk, rfl, rfl, hbl⟩ := hrel
    have hbw := bel_then (z1 _) (Nat.le_refl _) hbl
    obtain ⟨b0, b1, b2, b3, b4⟩ := bx _ hbl
    by_cases hlt : k < o.secs.length
    · obtain ⟨b, of, rfl⟩ := rows_some2 k1 hlt
      obtain ⟨x, hx⟩ : ∃ x, o.secs[k]? = some x := ⟨o.secs[k], by simp [hlt]⟩
      obtain ⟨g0, g1, g2, g3, g4⟩ := rows_sec (k1.below hbw) hx
      have hlt' : (k : Int) < (o.secs.length : Int) := by omega
      clear hx
      go_wp2
      go_roundw
      case rel => exact ⟨k + 1, _, by omega, rfl, by go_num, hbl.alloc hbl.size _⟩
      case measure => simp [intOf]; omega
    · go_wp2
      go_loopw [3, 30] (fun t i wr => ∃ (k : Nat) (z : Int), k ≤ o.syms.length ∧ t = .int .i64 z ∧ i = .int .i64 k ∧ Below (w.alloc A).heap.size (w.alloc A) wr) (fun _ i _ => o.syms.length - (intOf i).toNat)
      case atStart => exact ⟨0, z, by omega, rfl, rfl, hbl⟩
      case round =>
        clear b0 b1 b2 b3 b4 hbw hbl
        obtain ⟨k, z, hk, rfl, rfl, hbl⟩ := hrel
        have hbw := bel_then (z1 _) (Nat.le_refl _) hbl
        obtain ⟨b0, b1, b2, b3, b4⟩ := bx _ hbl
        by_cases hlt : k < o.syms.length
        · obtain ⟨b, of, rfl⟩ := rows_some2 k2 hlt
          obtain ⟨x, hx⟩ : ∃ x, o.syms[k]? = some x := ⟨o.syms[k], by simp [hlt]⟩
          obtain ⟨g0, g1, g2, g3, g4, g5⟩ := rows_sym (k2.below hbw) hx
          have hlt' : (k : Int) < (o.syms.length : Int) := by omega
          clear hx
          go_wp2
          go_roundw
          case rel => exact ⟨k + 1, _, by omega, rfl, by go_num, hbl.alloc hbl.size _⟩
          case measure => simp [intOf]; omega
        · go_wp2
          go_loopw [3, 43] (fun t i wr => ∃ (k : Nat) (z : Int), k ≤ o.files.length ∧ t = .int .i64 z ∧ i = .int .i64 k ∧ Below (w.alloc A).heap.size (w.alloc A) wr) (fun _ i _ => o.files.length - (intOf i).toNat)
          case atStart => exact ⟨0, z, by omega, rfl, rfl, hbl⟩
          case round =>
            clear b0 b1 b2 b3 b4 hbw hbl
            obtain ⟨k, z, hk, rfl, rfl, hbl⟩ := hrel
            have hbw := bel_then (z1 _) (Nat.le_refl _) hbl
            obtain ⟨b0, b1, b2, b3, b4⟩ := bx _ hbl
            by_cases hlt : k < o.files.length
            · obtain ⟨b, of, rfl⟩ := rows_some2 k4 hlt
              obtain ⟨x, hx⟩ : ∃ x, o.files[k]? = some x := ⟨o.files[k], by simp [hlt]⟩
              have g0 := rows_file (k4.below hbw) hx
              have hlt' : (k : Int) < (o.files.length : Int) := by omega
              clear hx
              go_wp2
              go_roundw
              case rel => exact ⟨k + 1, _, by omega, rfl, by go_num, hbl⟩
              case measure => simp [intOf]; omega
            · go_wp2
              all_goals (go_ret; exact ⟨_, rfl, hbw⟩)
end Go.Ev
