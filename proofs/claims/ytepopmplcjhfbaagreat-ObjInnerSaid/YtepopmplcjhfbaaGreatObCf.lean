import Derived.Test.YtepopmplcjhfbaaGreatObCb
import Derived.BigQuiet
import Derived.Lib.Hide
set_option linter.unusedSectionVars false
set_option linter.unusedVariables false
set_option linter.unusedSimpArgs false
set_option linter.unnecessarySimpa false
/-
  Stage 3: is it a table of lines?
-/
namespace Go.Ev
open Go.RowKit Go.Proofs Go.Rw
def LineT.ok (x : LineT) : Prop := 0 ≤ x.sec ∧ x.sec ≤ 15 ∧ 0 ≤ x.off ∧ x.off ≤ 65535 ∧ 0 ≤ x.file ∧ 0 ≤ x.line
/-- Lines in their order. -/
def Steps (l : List LineT) : Prop := ∀ (j : Nat) (x y : LineT), l[j]? = some x → l[j + 1]? = some y → x.sec < y.sec ∨ (x.sec = y.sec ∧ x.off < y.off)
theorem table_step {l : List LineT} {k : Nat} {x : LineT} (hx : l[k]? = some x) (h1 : ∀ j x, j < k → l[j]? = some x → x.ok) (h2 : ∀ (j : Nat) (x y : LineT), j + 1 < k → l[j]? = some x → l[j + 1]? = some y → x.sec < y.sec ∨ (x.sec = y.sec ∧ x.off < y.off))
    (hok : x.ok) (hp : k = 0 ∨ ∃ y, l[k - 1]? = some y ∧ (y.sec < x.sec ∨ (y.sec = x.sec ∧ y.off < x.off))) :
    (∀ j x, j < k + 1 → l[j]? = some x → x.ok) ∧ (∀ (j : Nat) (x y : LineT), j + 1 < k + 1 → l[j]? = some x → l[j + 1]? = some y → x.sec < y.sec ∨ (x.sec = y.sec ∧ x.off < y.off)) := by
  refine ⟨fun j x' hj hx' => ?_, fun j x' y' hj hx' hy' => ?_⟩
  · by_cases h : j < k
    · exact h1 j x' h hx'
    · obtain rfl : j = k := by omega
      rw [hx] at hx'
      cases hx'
      exact hok
  · by_cases h : j + 1 < k
    · exact h2 j x' y' h hx' hy'
    · obtain rfl : k = j + 1 := by omega
      rw [hx] at hy'
      cases hy'
      rcases hp with hp | ⟨y, hy, hp⟩
      · omega
      · rw [Nat.add_sub_cancel, hx'] at hy
        cases hy
        exact hp
/-- What the check of a table of lines answers. -/
def TabR (l : List LineT) (w : World) (e : Ending) (w' : World) : Prop := ∃ r : Bool, e = .returned (.bool r) ∧ Below w.heap.size w w' ∧ (r = true → l.length ≤ 4000 ∧ (∀ x ∈ l, x.ok) ∧ Steps l)
theorem tab_no {l : List LineT} {w w' : World} (h : Below w.heap.size w w') : TabR l w (.returned (.bool false)) w' := ⟨_, rfl, h, by simp⟩
set_option maxRecDepth 100000 in
set_option maxHeartbeats 2000000 in
theorem table_b {w : World} {s : Value} {l : List LineT} (h : RowsAt w s LineT.cells 4 l) (hr : ∀ x ∈ l, x.R) (hl : l.length ≤ 140737488351232) :
    Calls Tryz.prog 44 #[s] w (TabR l w) := by
  obtain ⟨a, c, rfl⟩ := rows_slice h
  go_enter Tryz.func44, Tryz.ntmps44
  go_wp2
  all_goals try (go_ret; exact tab_no (Below.refl _ _))
  have hl4 : l.length ≤ 4000 := by omega
  go_loopw [3] (fun i wr => ∃ k : Nat, k ≤ l.length ∧ i = .int .i64 k ∧ Below w.heap.size w wr ∧ (∀ j x, j < k → l[j]? = some x → x.ok) ∧ (∀ (j : Nat) (x y : LineT), j + 1 < k → l[j]? = some x → l[j + 1]? = some y → x.sec < y.sec ∨ (x.sec = y.sec ∧ x.off < y.off))) (fun i _ => l.length - (intOf i).toNat)
  case atStart => exact ⟨0, by omega, rfl, Below.refl _ _, fun j x hj => by omega, fun j x y hj => by omega⟩
  case round =>
    obtain ⟨k, hk, rfl, hbl, h1, h2⟩ := hrel
    by_cases hlt : k < l.length
    · obtain ⟨b, o, rfl⟩ := rows_some2 h hlt
      obtain ⟨⟨xs, xo, xf, xl⟩, hx⟩ : ∃ x, l[k]? = some x := ⟨l[k], by simp [hlt]⟩
      obtain ⟨g0, g1, g2, g3⟩ := rows_line (h.below hbl) hx
      obtain ⟨r0, r1, r2, r3⟩ := hr _ (List.mem_of_getElem? hx)
      dsimp only at g0 g1 g2 g3 r0 r1 r2 r3
      have hB := hbl.size
      have hB2 : ∀ o, w.heap.size ≤ (wr.alloc o).heap.size := fun o => by rw [World.size_alloc]; omega
      have hx := Lib.hid hx
      have h1 := Lib.hid h1
      have h2 := Lib.hid h2
      by_cases hk0 : 0 < k
      · obtain ⟨⟨ys, yo, yf, yl⟩, hy⟩ : ∃ y, l[k - 1]? = some y := ⟨l[k - 1], List.getElem?_eq_getElem (by omega)⟩
        obtain ⟨p0, p1, p2, p3⟩ := rows_line (h.below hbl) hy
        obtain ⟨q0, q1, q2, q3⟩ := hr _ (List.mem_of_getElem? hy)
        dsimp only at p0 p1 p2 p3 q0 q1 q2 q3
        have p0 := fun o => (World.cell?_alloc_lt wr o _ (low_of_cell p0)).trans p0
        have p1 := fun o => (World.cell?_alloc_lt wr o _ (low_of_cell p1)).trans p1
        have p2 := fun o => (World.cell?_alloc_lt wr o _ (low_of_cell p2)).trans p2
        have p3 := fun o => (World.cell?_alloc_lt wr o _ (low_of_cell p3)).trans p3
        have hy := Lib.hid hy
        go_wp2
        all_goals try (go_ret; exact tab_no (hbl.alloc hB _))
        all_goals try (go_ret; exact tab_no ((hbl.alloc hB _).alloc (hB2 _) _))
        all_goals go_roundw
        all_goals first
          | (case rel => exact ⟨k + 1, by omega, by go_num, (hbl.alloc hB _).alloc (hB2 _) _, table_step hx.out h1.out h2.out (by unfold LineT.ok; dsimp only; omega) (.inr ⟨_, hy.out, by dsimp only; omega⟩)⟩)
          | (case measure => simp [intOf]; omega)
          | skip
      · go_wp2
        all_goals try (go_ret; exact tab_no (hbl.alloc hB _))
        all_goals go_roundw
        all_goals first
          | (case rel => exact ⟨k + 1, by omega, by go_num, hbl.alloc hB _, table_step hx.out h1.out h2.out (by unfold LineT.ok; dsimp only; omega) (.inl (by omega))⟩)
          | (case measure => simp [intOf]; omega)
          | skip
    · have : k = l.length := by omega
      subst this
      go_wp2
      go_ret
      refine ⟨_, rfl, hbl, fun _ => ⟨hl4, fun x hx => ?_, fun j x y hx hy => ?_⟩⟩
      · obtain ⟨j, hj⟩ := List.getElem?_of_mem hx
        exact h1 j x (List.getElem?_eq_some_iff.1 hj).1 hj
      · exact h2 j x y (List.getElem?_eq_some_iff.1 hy).1 hx hy
end Go.Ev
