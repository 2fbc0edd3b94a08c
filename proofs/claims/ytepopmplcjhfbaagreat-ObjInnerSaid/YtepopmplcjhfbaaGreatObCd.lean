import Derived.Test.YtepopmplcjhfbaaGreatObCc
set_option linter.unusedSectionVars false
set_option linter.unusedVariables false
set_option linter.unusedSimpArgs false
set_option linter.unnecessarySimpa false
/-
  Stage 3: the sections, in the specification.
-/
namespace Go.Ev
open Go.RowKit Go.Proofs Go.Rw
/-- What the sections' check answers. -/
def SecsR (l : List SecT) (w : World) (e : Ending) (w' : World) : Prop := ∃ r : Bool, e = .returned (.bool r) ∧ Below w.heap.size w w' ∧ (r = true → l.length ≤ 16 ∧ ∀ x ∈ l, 0 ≤ x.zero ∧ x.zero ≤ 65536)
theorem secs_no {l : List SecT} {w w' : World} (h : Below w.heap.size w w') : SecsR l w (.returned (.bool false)) w' := ⟨_, rfl, h, by simp⟩
set_option maxRecDepth 100000 in
set_option maxHeartbeats 2000000 in
theorem secs_b {w : World} {s : Value} {l : List SecT} (h : RowsAt w s SecT.cells 5 l) (hr : ∀ x ∈ l, x.R) (hl : l.length ≤ 140737488351232) :
    Calls Tryz.prog 135 #[s] w (SecsR l w) := by
  obtain ⟨a, c, rfl⟩ := rows_slice h
  go_enter Tryz.func135, Tryz.ntmps135
  go_wp2
  all_goals try (go_ret; exact secs_no (Below.refl _ _))
  have hl4 : l.length ≤ 16 := by omega
  go_loopw [3, 4] (fun n i wr => ∃ (k : Nat) (t : Int), k ≤ l.length ∧ n = .int .i64 t ∧ i = .int .i64 k ∧ Below w.heap.size w wr ∧ (∀ j x, j < k → l[j]? = some x → 0 ≤ x.zero ∧ x.zero ≤ 65536)) (fun _ i _ => l.length - (intOf i).toNat)
  case atStart => exact ⟨0, 0, by omega, rfl, rfl, Below.refl _ _, fun j x hj => by omega⟩
  case round =>
    obtain ⟨k, t, hk, rfl, rfl, hbl, h1⟩ := hrel
    by_cases hlt : k < l.length
    · obtain ⟨b, o, rfl⟩ := rows_some2 h hlt
      obtain ⟨x, hx⟩ : ∃ x, l[k]? = some x := ⟨l[k], by simp [hlt]⟩
      obtain ⟨g0, g1, g2, g3, g4⟩ := rows_sec (h.below hbl) hx
      have hxR := hr _ (List.mem_of_getElem? hx)
      have hlen := fun w => len_c (w := w) x hxR
      obtain ⟨xn, xr, xa, xb, xl, xc, xz⟩ := x
      obtain ⟨r0, r1, r2, r3, r4⟩ := id hxR
      dsimp only [SecT.v] at g0 g1 g2 g3 g4 r0 r1 r2 r3 r4 hlen
      unfold inI64 at r0 r1 r3
      have hB := hbl.size
      have hx := Lib.hid hx
      have h1 := Lib.hid h1
      go_wp2_with fail
      refine (is_name xn r4).mono ?_
      rintro e w1 ⟨rfl, rfl⟩
      cases nameV xn
      · go_wp2
        go_ret
        exact secs_no (hbl.alloc hB _)
      · go_wp2
        all_goals try (go_ret; exact secs_no ((hbl.alloc hB _)))
        rename (_ ∧ _) ∧ (256 % _ != 0) = false => hq
        clear hq
        obtain ⟨wo, rfl⟩ : ∃ wo : World, wo = wr := ⟨_, rfl⟩
        go_loopw [6] (fun i wr => ∃ j : Nat, j ≤ k ∧ i = .int .i64 j ∧ Below (wo.alloc (.cells #[.string xn, .int .i64 xr, .int .i64 xa, .slice xb xl xc, .int .i64 xz] 66)).heap.size (wo.alloc (.cells #[.string xn, .int .i64 xr, .int .i64 xa, .slice xb xl xc, .int .i64 xz] 66)) wr) (fun i _ => k - (intOf i).toNat)
        case atStart => exact ⟨0, by omega, rfl, Below.refl _ _⟩
        case round =>
          obtain ⟨j, hj, rfl, hbj⟩ := hrel
          have hbw := bel_then (hbl.alloc hB _) (Nat.le_refl _) hbj
          have c0 := (hbj.cell (p := ⟨wo.heap.size, 0, none⟩) (by simp)).trans (new_cell wo _ 66 0 _ rfl)
          have c1 := (hbj.cell (p := ⟨wo.heap.size, 1, none⟩) (by simp)).trans (new_cell wo _ 66 1 _ rfl)
          have c2 := (hbj.cell (p := ⟨wo.heap.size, 2, none⟩) (by simp)).trans (new_cell wo _ 66 2 _ rfl)
          have c3 := (hbj.cell (p := ⟨wo.heap.size, 3, none⟩) (by simp)).trans (new_cell wo _ 66 3 _ rfl)
          have c4 := (hbj.cell (p := ⟨wo.heap.size, 4, none⟩) (by simp)).trans (new_cell wo _ 66 4 _ rfl)
          by_cases hjk : j < k
          · obtain ⟨⟨yn, yr, ya, yb, yl, yc, yz⟩, hy⟩ : ∃ y, l[j]? = some y := ⟨l[j], by simp [Nat.lt_trans hjk hlt]⟩
            obtain ⟨p0, _, _, _, _⟩ := rows_sec (h.below hbw) hy
            dsimp only at p0
            have hj' : (j : Int) < (l.length : Int) := by omega
            clear hlen
            go_wp2
            go_quiet (fail)
            go_wp2
            · go_ret
              exact secs_no (below_drewN hbw _)
            · go_roundw
              case rel => exact ⟨j + 1, by omega, by go_num, below_drewN hbj _⟩
              case measure => simp [intOf]; omega
          · go_wp2_with fail
            refine (hlen wr).mono ?_
            rintro e w2 ⟨rfl, hb2⟩
            have hbw2 := bel_then hbw (Nat.le_refl _) hb2
            go_wp2
            go_roundw
            case rel =>
              refine ⟨k + 1, _, by omega, rfl, by go_num, hbw2, fun i x hi hx' => ?_⟩
              by_cases hik : i < k
              · exact h1.out i x hik hx'
              · obtain rfl : i = k := by omega
                rw [hx.out] at hx'
                cases hx'
                exact ⟨by dsimp only; omega, by dsimp only; omega⟩
            case measure => simp [intOf]; omega
    · have : k = l.length := by omega
      subst this
      go_wp2
      go_ret
      refine ⟨_, rfl, hbl, fun _ => ⟨hl4, fun x hx => ?_⟩⟩
      obtain ⟨j, hj⟩ := List.getElem?_of_mem hx
      exact h1 j x (List.getElem?_eq_some_iff.1 hj).1 hj
end Go.Ev
