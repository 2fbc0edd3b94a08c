import Derived.Test.YtepopmplcjhfbaaGreatObGca
import Derived.BigQuiet
import Derived.Lib.Hide
import Derived.Deep.RegionWith
import Derived.Lib.QuietBelow
import Derived.Shelf.Abstract
set_option linter.unusedSectionVars false
set_option linter.unusedVariables false
set_option linter.unusedSimpArgs false
set_option linter.unnecessarySimpa false
/-
  Stage 3: is it a table of lines?
-/
namespace Go.Ev
open Go.RowKit Go.Proofs Go.Rw
def LineT.ok (x : LineT) : Prop := 0 ≤ x.sec ∧ x.sec ≤ 15 ∧ 0 ≤ x.off ∧ x.off ≤ 65535 ∧ 0 ≤ x.file ∧ 0 ≤ x.line
/-- Lines in their order. -/
def Steps (l : List LineT) : Prop := ∀ (j : Nat) (x y : LineT), l[j]? = some x → l[j + 1]? = some y → x.sec < y.sec ∨ (x.sec = y.sec ∧ x.off < y.off)
theorem table_step {l : List LineT} {k : Nat} {x : LineT} (hx : l[k]? = some x) (h1 : ∀ j x, j < k → l[j]? = some x → x.ok) (h2 : ∀ (j : Nat) (x y : LineT), j + 1 < k → l[j]? = some x → l[j + 1]? = some y → x.sec < y.sec ∨ (x.sec = y.sec ∧ x.off < y.off))
    (hok : x.ok) (hp : k = 0 ∨ ∃ y, l[k - 1]? = some y ∧ (y.sec < x.sec ∨ (y.sec = x.sec ∧ y.off < x.off))) :
    (∀ j x, j < k + 1 → l[j]? = some x → x.ok) ∧ (∀ (j : Nat) (x y : LineT), j + 1 < k + 1 → l[j]? = some x → l[j + 1]? = some y → x.sec < y.sec ∨ (x.sec = y.sec ∧ x.off < y.off)) := by
  refine ⟨fun j x' hj hx' => ?_, fun j x' y' hj hx' hy' => ?_⟩
  · by_cases h : j < k
    · exact h1 j x' h hx'
    · obtain rfl : j = k := by omega
      rw [hx] at hx'
      cases hx'
      exact hok
  · by_cases h : j + 1 < k
    · exact h2 j x' y' h hx' hy'
    · obtain rfl : k = j + 1 := by omega
      rw [hx] at hy'
      cases hy'
      rcases hp with hp | ⟨y, hy, hp⟩
      · omega
      · rw [Nat.add_sub_cancel, hx'] at hy
        cases hy
        exact hp
/-- What the check of a table of lines answers. -/
def TabR (l : List LineT) (w : World) (e : Ending) (w' : World) : Prop := ∃ r : Bool, e = .returned (.bool r) ∧ Below w.heap.size w w' ∧ (r = true → l.length ≤ 4000 ∧ (∀ x ∈ l, x.ok) ∧ Steps l)
theorem tab_no {l : List LineT} {w w' : World} (h : Below w.heap.size w w') : TabR l w (.returned (.bool false)) w' := ⟨_, rfl, h, by simp⟩
set_option maxRecDepth 100000 in
set_option maxHeartbeats 2000000 in
theorem table_b {w : World} {s : Value} {l : List LineT} (h : RowsAt w s LineT.cells 4 l) (hr : ∀ x ∈ l, x.R) (hl : l.length ≤ 140737488351232) :
    Calls Tryz.prog 44 #[s] w (TabR l w) := by
  obtain ⟨a, c, rfl⟩ := rows_slice h
  go_enter Tryz.func44, Tryz.ntmps44
  go_wp2
  all_goals try (go_ret; exact tab_no (Below.refl _ _))
  have hl4 : l.length ≤ 4000 := by omega
  go_loopw [3] (fun i wr => ∃ k : Nat, k ≤ l.length ∧ i = .int .i64 k ∧ Below w.heap.size w wr ∧ (∀ j x, j < k → l[j]? = some x → x.ok) ∧ (∀ (j : Nat) (x y : LineT), j + 1 < k → l[j]? = some x → l[j + 1]? = some y → x.sec < y.sec ∨ (x.sec = y.sec ∧ x.off < y.off))) (fun i _ => l.length - (intOf i).toNat)
  case atStart => exact ⟨0, by omega, rfl, Below.refl _ _, fun j x hj => by omega, fun j x y hj => by omega⟩
  case round =>
    obtain ⟨k, hk, rfl, hbl, h1, h2⟩ := hrel
    by_cases hlt : k < l.length
    · obtain ⟨b, o, rfl⟩ := rows_some2 h hlt
      obtain ⟨⟨xs, xo, xf, xl⟩, hx⟩ : ∃ x, l[k]? = some x := ⟨l[k], by simp [hlt]⟩
      obtain ⟨g0, g1, g2, g3⟩ := rows_line (h.below hbl) hx
      obtain ⟨r0, r1, r2, r3⟩ := hr _ (List.mem_of_getElem? hx)
      dsimp only at g0 g1 g2 g3 r0 r1 r2 r3
      have hB := hbl.size
      have hB2 : ∀ o, w.heap.size ≤ (wr.alloc o).heap.size := fun o => by rw [World.size_alloc]; omega
      have hx := Lib.hid hx
      have h1 := Lib.hid h1
      have h2 := Lib.hid h2
      by_cases hk0 : 0 < k
      · obtain ⟨⟨ys, yo, yf, yl⟩, hy⟩ : ∃ y, l[k - 1]? = some y := ⟨l[k - 1], List.getElem?_eq_getElem (by omega)⟩
        obtain ⟨p0, p1, p2, p3⟩ := rows_line (h.below hbl) hy
        obtain ⟨q0, q1, q2, q3⟩ := hr _ (List.mem_of_getElem? hy)
        dsimp only at p0 p1 p2 p3 q0 q1 q2 q3
        have p0 := fun o => (World.cell?_alloc_lt wr o _ (low_of_cell p0)).trans p0
        have p1 := fun o => (World.cell?_alloc_lt wr o _ (low_of_cell p1)).trans p1
        have p2 := fun o => (World.cell?_alloc_lt wr o _ (low_of_cell p2)).trans p2
        have p3 := fun o => (World.cell?_alloc_lt wr o _ (low_of_cell p3)).trans p3
        have hy := Lib.hid hy
        go_wp2
        all_goals try (go_ret; exact tab_no (hbl.alloc hB _))
        all_goals try (go_ret; exact tab_no ((hbl.alloc hB _).alloc (hB2 _) _))
        all_goals go_roundw
        all_goals first
          | (case rel => exact ⟨k + 1, by omega, by go_num, (hbl.alloc hB _).alloc (hB2 _) _, table_step hx.out h1.out h2.out (by unfold LineT.ok; dsimp only; omega) (.inr ⟨_, hy.out, by dsimp only; omega⟩)⟩)
          | (case measure => simp [intOf]; omega)
          | skip
      · go_wp2
        all_goals try (go_ret; exact tab_no (hbl.alloc hB _))
        all_goals go_roundw
        all_goals first
          | (case rel => exact ⟨k + 1, by omega, by go_num, hbl.alloc hB _, table_step hx.out h1.out h2.out (by unfold LineT.ok; dsimp only; omega) (.inl (by omega))⟩)
          | (case measure => simp [intOf]; omega)
          | skip
    · have : k = l.length := by omega
      subst this
      go_wp2
      go_ret
      refine ⟨_, rfl, hbl, fun _ => ⟨hl4, fun x hx => ?_, fun j x y hx hy => ?_⟩⟩
      · obtain ⟨j, hj⟩ := List.getElem?_of_mem hx
        exact h1 j x (List.getElem?_eq_some_iff.1 hj).1 hj
      · exact h2 j x y (List.getElem?_eq_some_iff.1 hy).1 hx hy
end Go.Ev

/-
  Stage 3: the program's check of a table of lines, exactly.
-/
namespace Go.Ev
open Go.RowKit Go.Proofs Go.Rw
theorem within_yes {w : World} {n a b : Int} (h1 : a ≤ n) (h2 : n ≤ b) : Calls Tryz.prog 221 #[.int .i64 n, .int .i64 a, .int .i64 b] w fun e w' => e = .returned (.bool true) ∧ w' = w := by
  go_enter Tryz.func221, Tryz.ntmps221
  go_wp2
  all_goals (go_ret; exact ⟨rfl, rfl⟩)
theorem within_no {w : World} {n a b : Int} (h : n < a ∨ b < n) : Calls Tryz.prog 221 #[.int .i64 n, .int .i64 a, .int .i64 b] w fun e w' => e = .returned (.bool false) ∧ w' = w := by
  by_cases h1 : a ≤ n
  · have h2 : decide (n ≤ b) = false := decide_eq_false (by omega)
    go_enter Tryz.func221, Tryz.ntmps221
    go_wp2
    all_goals (go_ret; exact ⟨rfl, rfl⟩)
  · go_enter Tryz.func221, Tryz.ntmps221
    go_wp2
    all_goals (go_ret; exact ⟨rfl, rfl⟩)
def RngOk (x : LineT) : Prop := (0 ≤ x.sec ∧ x.sec ≤ 15) ∧ (0 ≤ x.off ∧ x.off ≤ 65535) ∧ (0 ≤ x.file ∧ x.file ≤ 19) ∧ (0 ≤ x.line ∧ x.line ≤ 1048576)
instance (x : LineT) : Decidable (RngOk x) := by unfold RngOk; exact inferInstance
def EntOk (x : LineT) : Prop := RngOk x ∧ (x.line ≠ 0 ∨ x.file = 0)
instance (x : LineT) : Decidable (EntOk x) := by unfold EntOk; exact inferInstance
theorem one_below (w : World) (A : Obj) : Below w.heap.size w (w.alloc A) := (Below.refl w.heap.size w).alloc (Nat.le_refl _) A
set_option maxRecDepth 100000 in
set_option maxHeartbeats 4000000 in
theorem inRange_c {w : World} (s o f l : Int) : Calls Tryz.prog 194 #[.agg #[.int .i64 s, .int .i64 o, .int .i64 f, .int .i64 l]] w fun e w' => e = .returned (.bool (decide (RngOk ⟨s, o, f, l⟩))) ∧ Below w.heap.size w w' := by
  by_cases k0 : 0 ≤ s ∧ s ≤ 15
  · by_cases k1 : 0 ≤ o ∧ o ≤ 65535
    · by_cases k2 : 0 ≤ f ∧ f ≤ 19
      · by_cases k3 : 0 ≤ l ∧ l ≤ 1048576
        · rw [decide_eq_true (show RngOk ⟨s, o, f, l⟩ from ⟨k0, k1, k2, k3⟩)]
          go_enter Tryz.func194, Tryz.ntmps194
          go_wp2_with (go_at_call 221; first | (refine (within_yes (by omega) (by omega)).mono ?_; rintro e w1 ⟨rfl, rfl⟩) | (refine (within_no (by omega)).mono ?_; rintro e w1 ⟨rfl, rfl⟩))
          all_goals (go_ret; exact ⟨rfl, one_below _ _⟩)
        · rw [decide_eq_false (show ¬ RngOk ⟨s, o, f, l⟩ from fun h => k3 h.2.2.2)]
          go_enter Tryz.func194, Tryz.ntmps194
          go_wp2_with (go_at_call 221; first | (refine (within_yes (by omega) (by omega)).mono ?_; rintro e w1 ⟨rfl, rfl⟩) | (refine (within_no (by omega)).mono ?_; rintro e w1 ⟨rfl, rfl⟩))
          all_goals (go_ret; exact ⟨rfl, one_below _ _⟩)
      · rw [decide_eq_false (show ¬ RngOk ⟨s, o, f, l⟩ from fun h => k2 h.2.2.1)]
        go_enter Tryz.func194, Tryz.ntmps194
        go_wp2_with (go_at_call 221; first | (refine (within_yes (by omega) (by omega)).mono ?_; rintro e w1 ⟨rfl, rfl⟩) | (refine (within_no (by omega)).mono ?_; rintro e w1 ⟨rfl, rfl⟩))
        all_goals (go_ret; exact ⟨rfl, one_below _ _⟩)
    · rw [decide_eq_false (show ¬ RngOk ⟨s, o, f, l⟩ from fun h => k1 h.2.1)]
      go_enter Tryz.func194, Tryz.ntmps194
      go_wp2_with (go_at_call 221; first | (refine (within_yes (by omega) (by omega)).mono ?_; rintro e w1 ⟨rfl, rfl⟩) | (refine (within_no (by omega)).mono ?_; rintro e w1 ⟨rfl, rfl⟩))
      all_goals (go_ret; exact ⟨rfl, one_below _ _⟩)
  · rw [decide_eq_false (show ¬ RngOk ⟨s, o, f, l⟩ from fun h => k0 h.1)]
    go_enter Tryz.func194, Tryz.ntmps194
    go_wp2_with (go_at_call 221; first | (refine (within_yes (by omega) (by omega)).mono ?_; rintro e w1 ⟨rfl, rfl⟩) | (refine (within_no (by omega)).mono ?_; rintro e w1 ⟨rfl, rfl⟩))
    all_goals (go_ret; exact ⟨rfl, one_below _ _⟩)
set_option maxRecDepth 100000 in
set_option maxHeartbeats 400000 in
theorem entry_c {w : World} (s o f l : Int) : Calls Tryz.prog 187 #[.agg #[.int .i64 s, .int .i64 o, .int .i64 f, .int .i64 l]] w fun e w' => e = .returned (.bool (decide (EntOk ⟨s, o, f, l⟩))) ∧ Below w.heap.size w w' := by
  have hc := fun W => inRange_c (w := W) s o f l
  by_cases c0 : RngOk ⟨s, o, f, l⟩
  · rw [decide_eq_true c0] at hc
    by_cases c1 : l = 0
    · subst c1
      have c1' : ((0 : Int) != 0) = false := by simp
      by_cases c2 : f = 0
      · subst c2
        have c2' : ((0 : Int) == 0) = true := by simp
        rw [decide_eq_true (show EntOk ⟨s, o, 0, 0⟩ from ⟨c0, .inr rfl⟩)]
        clear c0
        go_enter Tryz.func187, Tryz.ntmps187
        go_wp2_with (go_at_call 194; refine (hc _).mono ?_; rintro e w1 ⟨rfl, hb⟩; have b2 := (hb.cell (p := ⟨w.heap.size, 2, none⟩) (by simp)).trans (new_cell w _ 48 2 _ rfl); have b3 := (hb.cell (p := ⟨w.heap.size, 3, none⟩) (by simp)).trans (new_cell w _ 48 3 _ rfl))
        all_goals (go_ret; exact ⟨rfl, bel_then (one_below _ _) (Nat.le_refl _) hb⟩)
      · have c2' : (f == 0) = false := by simp [c2]
        rw [decide_eq_false (show ¬ EntOk ⟨s, o, f, 0⟩ from fun h => h.2.elim (fun h => h rfl) c2)]
        clear c0
        go_enter Tryz.func187, Tryz.ntmps187
        go_wp2_with (go_at_call 194; refine (hc _).mono ?_; rintro e w1 ⟨rfl, hb⟩; have b2 := (hb.cell (p := ⟨w.heap.size, 2, none⟩) (by simp)).trans (new_cell w _ 48 2 _ rfl); have b3 := (hb.cell (p := ⟨w.heap.size, 3, none⟩) (by simp)).trans (new_cell w _ 48 3 _ rfl))
        all_goals (go_ret; exact ⟨rfl, bel_then (one_below _ _) (Nat.le_refl _) hb⟩)
    · have c1' : (l != 0) = true := by simp [c1]
      rw [decide_eq_true (show EntOk ⟨s, o, f, l⟩ from ⟨c0, .inl c1⟩)]
      clear c0
      go_enter Tryz.func187, Tryz.ntmps187
      go_wp2_with (go_at_call 194; refine (hc _).mono ?_; rintro e w1 ⟨rfl, hb⟩; have b2 := (hb.cell (p := ⟨w.heap.size, 2, none⟩) (by simp)).trans (new_cell w _ 48 2 _ rfl); have b3 := (hb.cell (p := ⟨w.heap.size, 3, none⟩) (by simp)).trans (new_cell w _ 48 3 _ rfl))
      all_goals (go_ret; exact ⟨rfl, bel_then (one_below _ _) (Nat.le_refl _) hb⟩)
  · rw [decide_eq_false c0] at hc
    rw [decide_eq_false (show ¬ EntOk ⟨s, o, f, l⟩ from fun h => c0 h.1)]
    clear c0
    go_enter Tryz.func187, Tryz.ntmps187
    go_wp2_with (go_at_call 194; refine (hc _).mono ?_; rintro e w1 ⟨rfl, hb⟩; have b2 := (hb.cell (p := ⟨w.heap.size, 2, none⟩) (by simp)).trans (new_cell w _ 48 2 _ rfl); have b3 := (hb.cell (p := ⟨w.heap.size, 3, none⟩) (by simp)).trans (new_cell w _ 48 3 _ rfl))
    all_goals (go_ret; exact ⟨rfl, bel_then (one_below _ _) (Nat.le_refl _) hb⟩)
theorem startOf_c {w : World} (s o f l : Int) : Calls Tryz.prog 132 #[.agg #[.int .i64 s, .int .i64 o, .int .i64 f, .int .i64 l]] w fun e w' => e = .returned (.agg #[.int .i64 s, .int .i64 o, .int .i64 1]) ∧ Below w.heap.size w w' := by
  have z2 : ∀ A B, Below w.heap.size w ((w.alloc A).alloc B) := fun A B => (one_below w A).alloc (by simp) B
  go_enter Tryz.func132, Tryz.ntmps132
  go_wp2
  refine bodyPost_ret (v := .agg #[.int .i64 s, .int .i64 o, .int .i64 1]) (by simp [results, Tryz.f132, go_sem]) rfl ?_
  exact ⟨rfl, z2 _ _⟩
theorem ahead_yes {w : World} {a0 a1 a2 b0 b1 b2 : Int} (h : a0 < b0 ∨ (a0 = b0 ∧ a1 + a2 ≤ b1)) (h1 : -9223372036854775808 ≤ a1 + a2) (h2 : a1 + a2 ≤ 9223372036854775807) :
    Calls Tryz.prog 226 #[.agg #[.int .i64 a0, .int .i64 a1, .int .i64 a2], .agg #[.int .i64 b0, .int .i64 b1, .int .i64 b2]] w fun e w' => e = .returned (.bool true) ∧ Below w.heap.size w w' := by
  have z2 : ∀ A B, Below w.heap.size w ((w.alloc A).alloc B) := fun A B => (one_below w A).alloc (by simp) B
  have hw : wrap64 (a1 + a2) = a1 + a2 := by unfold wrap64; omega
  by_cases c : a0 < b0
  · go_enter Tryz.func226, Tryz.ntmps226
    go_wp2
    all_goals (go_ret; exact ⟨rfl, z2 _ _⟩)
  · obtain ⟨rfl, hle⟩ : a0 = b0 ∧ a1 + a2 ≤ b1 := by omega
    have ce : (a0 == a0) = true := by simp
    go_enter Tryz.func226, Tryz.ntmps226
    go_wp2
    all_goals (go_ret; exact ⟨rfl, z2 _ _⟩)
theorem ahead_no {w : World} {a0 a1 a2 b0 b1 b2 : Int} (h : ¬ (a0 < b0 ∨ (a0 = b0 ∧ a1 + a2 ≤ b1))) (h1 : -9223372036854775808 ≤ a1 + a2) (h2 : a1 + a2 ≤ 9223372036854775807) :
    Calls Tryz.prog 226 #[.agg #[.int .i64 a0, .int .i64 a1, .int .i64 a2], .agg #[.int .i64 b0, .int .i64 b1, .int .i64 b2]] w fun e w' => e = .returned (.bool false) ∧ Below w.heap.size w w' := by
  have z2 : ∀ A B, Below w.heap.size w ((w.alloc A).alloc B) := fun A B => (one_below w A).alloc (by simp) B
  have hw : wrap64 (a1 + a2) = a1 + a2 := by unfold wrap64; omega
  have c : ¬ a0 < b0 := fun h' => h (.inl h')
  by_cases ce : a0 = b0
  · subst ce
    have ce : (a0 == a0) = true := by simp
    have cd : decide (a1 + a2 ≤ b1) = false := decide_eq_false (fun h' => h (.inr ⟨rfl, h'⟩))
    clear h
    go_enter Tryz.func226, Tryz.ntmps226
    go_wp2
    all_goals (go_ret; exact ⟨rfl, z2 _ _⟩)
  · have ce' : (a0 == b0) = false := beq_eq_false_iff_ne.2 ce
    clear h
    go_enter Tryz.func226, Tryz.ntmps226
    go_wp2
    all_goals (go_ret; exact ⟨rfl, z2 _ _⟩)
set_option maxRecDepth 100000 in
/-- 'every' at lines. -/
theorem every_line {w : World} {s : Value} {l : List LineT} (h : RowsAt w s LineT.cells 4 l) (hl : l.length ≤ 140737488351232) (m : Int) (g : Nat) (lb : Array Value) (eg : ∀ args w, (callFunc g args).run Tryz.prog w = .ok (.enter g args) w) (p : LineT → Bool)
    (hp : ∀ W, Below w.heap.size w W → ∀ x ∈ l, Calls Tryz.prog g (#[.agg #[.int .i64 x.sec, .int .i64 x.off, .int .i64 x.file, .int .i64 x.line]] ++ lb) W fun e w' => e = .returned (.bool (p x)) ∧ Below W.heap.size W w') :
    Calls Tryz.prog 167 #[s, .int .i64 m, .func (.func g) #[] lb] w fun e w' => e = .returned (.bool (decide ((l.length : Int) ≤ m) && l.all p)) ∧ Below w.heap.size w w' := by
  obtain ⟨a, c, rfl⟩ := rows_slice h
  by_cases hm : (l.length : Int) ≤ m
  · rw [decide_eq_true hm, Bool.true_and]
    obtain ⟨r, hr⟩ : ∃ r, r = l.all p := ⟨_, rfl⟩
    rw [← hr]
    have hr := Lib.hid hr
    go_enter Tryz.func167, Tryz.ntmps167
    go_wp2
    go_loopw [15] (fun i wr => ∃ k : Nat, k ≤ l.length ∧ i = .int .i64 k ∧ Below w.heap.size w wr ∧ (∀ j x, j < k → l[j]? = some x → p x = true)) (fun i _ => l.length - (intOf i).toNat)
    case atStart => exact ⟨0, by omega, rfl, Below.refl _ _, fun j x hj => by omega⟩
    case round =>
      obtain ⟨k, hk, rfl, hbl, hA⟩ := hrel
      have hA := Lib.hid hA
      by_cases hlt : k < l.length
      · obtain ⟨b, of, rfl⟩ := rows_some2 h hlt
        obtain ⟨x, hx⟩ : ∃ x, l[k]? = some x := ⟨l[k], by simp [hlt]⟩
        have hB := hbl.size
        have hcall := fun o => hp (wr.alloc o) (hbl.alloc hB o) x (List.mem_of_getElem? hx)
        obtain ⟨g0, g1, g2, g3⟩ := rows_line (h.below hbl) hx
        have hlt' : (k : Int) < (l.length : Int) := by omega
        have hx := Lib.hid hx
        clear hp h
        cases hpx : p x
        · simp only [hpx] at hcall
          have hf := Lib.hid (show r = false by
            rw [hr.out, List.all_eq_false]
            exact ⟨_, List.mem_of_getElem? hx.out, by simp [hpx]⟩)
          clear hpx
          obtain ⟨xs, xo, xf, xl⟩ := x
          dsimp only at hcall g0 g1 g2 g3
          go_wp2_with (go_at_fn g; refine (hcall _).mono ?_; rintro e w' ⟨rfl, hb'⟩)
          go_ret
          exact ⟨by rw [hf.out]; rfl, bel_then (hbl.alloc hB _) (Nat.le_refl _) hb'⟩
        · simp only [hpx] at hcall
          have hpx := Lib.hid hpx
          obtain ⟨xs, xo, xf, xl⟩ := x
          dsimp only at hcall g0 g1 g2 g3
          go_wp2_with (go_at_fn g; refine (hcall _).mono ?_; rintro e w' ⟨rfl, hb'⟩)
          go_roundw
          case rel =>
            refine ⟨k + 1, by omega, by go_num, bel_then (hbl.alloc hB _) (Nat.le_refl _) hb', fun j y hj hy => ?_⟩
            by_cases hjk : j < k
            · exact hA.out j y hjk hy
            · obtain rfl : j = k := by omega
              rw [hx.out] at hy
              cases hy
              exact hpx.out
          case measure => simp [intOf]; omega
      · have : k = l.length := by omega
        subst this
        have hf := Lib.hid (show r = true by
          rw [hr.out, List.all_eq_true]
          intro x hx
          obtain ⟨j, hj⟩ := List.getElem?_of_mem hx
          exact hA.out j x (List.getElem?_eq_some_iff.1 hj).1 hj)
        go_wp2
        go_ret
        exact ⟨by rw [hf.out]; rfl, hbl⟩
  · rw [decide_eq_false hm, Bool.false_and]
    go_enter Tryz.func167, Tryz.ntmps167
    go_wp2
    go_ret
    exact ⟨rfl, Below.refl _ _⟩
end Go.Ev

/-
  Stage 3: the program's isTable, exactly.
-/
namespace Go.Ev
open Go.RowKit Go.Proofs Go.Rw
noncomputable def dec (p : Prop) : Bool := @decide p (Classical.propDecidable p)
theorem dec_yes {p : Prop} (h : p) : dec p = true := by unfold dec; exact @decide_eq_true _ (Classical.propDecidable p) h
theorem dec_no {p : Prop} (h : ¬ p) : dec p = false := by unfold dec; exact @decide_eq_false _ (Classical.propDecidable p) h
theorem dec_iff {p : Prop} : dec p = true ↔ p := by unfold dec; exact @decide_eq_true_iff p (Classical.propDecidable p)
def TabOk (l : List LineT) : Prop := l.length ≤ 4000 ∧ (∀ x ∈ l, EntOk x) ∧ Steps l
theorem enters187 : ∀ args w, (callFunc 187 args).run Tryz.prog w = .ok (.enter 187 args) w := enters_of Tryz.func187 (by kernel_rfl) rfl
theorem enters132 : ∀ args w, (callFunc 132 args).run Tryz.prog w = .ok (.enter 132 args) w := enters_of Tryz.func132 (by kernel_rfl) rfl
set_option maxRecDepth 100000 in
set_option maxHeartbeats 1000000 in
theorem apart_line {w : World} {s : Value} {l : List LineT} (h : RowsAt w s LineT.cells 4 l) (hl : l.length ≤ 140737488351232) (hr : ∀ x ∈ l, RngOk x) :
    Calls Tryz.prog 188 #[s, .func (.func 132) #[] #[]] w fun e w' => e = .returned (.bool (dec (Steps l))) ∧ Below w.heap.size w w' := by
  obtain ⟨a, c, rfl⟩ := rows_slice h
  obtain ⟨r, hrr⟩ : ∃ r, r = dec (Steps l) := ⟨_, rfl⟩
  rw [← hrr]
  have hrr := Lib.hid hrr
  have e132 := enters132
  go_enter Tryz.func188, Tryz.ntmps188
  go_wp2
  go_loopw [8] (fun i wr => ∃ k : Nat, k ≤ l.length ∧ i = .int .i64 k ∧ Below w.heap.size w wr ∧ (∀ (j : Nat) (x y : LineT), j + 1 < k → l[j]? = some x → l[j + 1]? = some y → x.sec < y.sec ∨ (x.sec = y.sec ∧ x.off < y.off))) (fun i _ => l.length - (intOf i).toNat)
  case atStart => exact ⟨0, by omega, rfl, Below.refl _ _, fun j x y hj => by omega⟩
  case round =>
    obtain ⟨k, hk, rfl, hbl, hA⟩ := hrel
    have hA := Lib.hid hA
    by_cases hlt : k < l.length
    · obtain ⟨b, of, rfl⟩ := rows_some2 h hlt
      have hlt' : (k : Int) < (l.length : Int) := by omega
      have hB := hbl.size
      by_cases hk0 : 0 < k
      · obtain ⟨x, hx⟩ : ∃ x, l[k]? = some x := ⟨l[k], by simp [hlt]⟩
        obtain ⟨y, hy⟩ : ∃ y, l[k - 1]? = some y := ⟨l[k - 1], List.getElem?_eq_getElem (by omega)⟩
        have hxr := hr x (List.mem_of_getElem? hx)
        have hyr := hr y (List.mem_of_getElem? hy)
        obtain ⟨g0, g1, g2, g3⟩ := rows_line (h.below hbl) hx
        obtain ⟨p0, p1, p2, p3⟩ := rows_line (h.below hbl) hy
        have hx := Lib.hid hx
        have hy := Lib.hid hy
        obtain ⟨xs, xo, xf, xl⟩ := x
        obtain ⟨ys, yo, yf, yl⟩ := y
        unfold RngOk at hxr hyr
        dsimp only at g0 g1 g2 g3 p0 p1 p2 p3 hxr hyr
        have t0 := fun d os => cell_regrown g0 d os
        have t1 := fun d os => cell_regrown g1 d os
        have t2 := fun d os => cell_regrown g2 d os
        have t3 := fun d os => cell_regrown g3 d os
        have u0 := fun d os => cell_regrown p0 d os
        have u1 := fun d os => cell_regrown p1 d os
        have u2 := fun d os => cell_regrown p2 d os
        have u3 := fun d os => cell_regrown p3 d os
        have hk1 : (0 : Int) < (k : Int) := by omega
        have hkd : decide ((0 : Int) < (k : Int)) = true := decide_eq_true hk1
        have hkd2 : decide (0 < k) = true := decide_eq_true hk0
        have hki : (k : Int) - 1 = ((k - 1 : Nat) : Int) := by omega
        have hkw : wrap64 ((k : Int) - 1) = ((k - 1 : Nat) : Int) := by unfold wrap64; omega
        have hkl : ((k - 1 : Nat) : Int) < (l.length : Int) := by omega
        by_cases hc : ys < xs ∨ (ys = xs ∧ yo + 1 ≤ xo)
        · go_wp2_with fail
          refine wp_region_quiet_below (by kernel_rfl) (by kernel_rfl) ?_
          repeat (go_big_quiet_step (first | exact Calls.regrown_of (startOf_c _ _ _ _) | exact Calls.regrown_of (ahead_yes hc (by omega) (by omega))))
          refine wpQuiet_nil ?_
          intro _ hw'
          obtain ⟨⟨dq, osq⟩, hw''⟩ := hw'
          subst hw''
          have hb2 := below_regrown wr dq osq
          go_wp2
          go_roundw
          case rel =>
            refine ⟨k + 1, by omega, by go_num, bel_then hbl (Nat.le_refl _) hb2, fun j x' y' hj hx' hy' => ?_⟩
            by_cases hjk : j + 1 < k
            · exact hA.out j x' y' hjk hx' hy'
            · obtain rfl : k = j + 1 := by omega
              rw [hx.out] at hy'
              have hy2 := hy.out
              rw [Nat.add_sub_cancel, hx'] at hy2
              cases hy'
              cases hy2
              dsimp only
              omega
          case measure => simp [intOf]; omega
        · have hf := Lib.hid (show r = false by
            rw [hrr.out]
            refine dec_no fun hS => hc ?_
            have := hS (k - 1) _ _ hy.out (by rw [show k - 1 + 1 = k from by omega]; exact hx.out)
            dsimp only at this
            omega)
          go_wp2_with fail
          refine wp_region_quiet_below (by kernel_rfl) (by kernel_rfl) ?_
          repeat (go_big_quiet_step (first | exact Calls.regrown_of (startOf_c _ _ _ _) | exact Calls.regrown_of (ahead_no hc (by omega) (by omega))))
          refine wpQuiet_nil ?_
          intro _ hw'
          obtain ⟨⟨dq, osq⟩, hw''⟩ := hw'
          subst hw''
          have hb2 := below_regrown wr dq osq
          go_wp2
          go_ret
          exact ⟨by rw [hf.out]; rfl, bel_then hbl (Nat.le_refl _) hb2⟩
      · obtain rfl : k = 0 := by omega
        have hkd : decide ((0 : Int) < 0) = false := decide_eq_false (by omega)
        go_wp2_with fail
        go_quiet (fail)
        go_wp2
        go_roundw
        case rel => exact ⟨1, by omega, by go_num, below_drewN hbl _, fun j x' y' hj => by omega⟩
        case measure => simp [intOf]; omega
    · have : k = l.length := by omega
      subst this
      have hf := Lib.hid (show r = true by
        rw [hrr.out]
        exact dec_yes fun j x y hx hy => hA.out j x y (List.getElem?_eq_some_iff.1 hy).1 hx hy)
      go_wp2
      go_ret
      exact ⟨by rw [hf.out]; rfl, hbl⟩
set_option maxRecDepth 100000 in
theorem isTable_c {w : World} {s : Value} {l : List LineT} (h : RowsAt w s LineT.cells 4 l) (hl : l.length ≤ 140737488351232) :
    Calls Tryz.prog 101 #[s] w fun e w' => e = .returned (.bool (dec (TabOk l))) ∧ Below w.heap.size w w' := by
  have hev := every_line h hl 4000 187 #[] enters187 (fun x => decide (EntOk x)) (fun W hW x hx => entry_c _ _ _ _)
  by_cases c0 : (l.length : Int) ≤ 4000 ∧ ∀ x ∈ l, EntOk x
  · have hap := fun W (hW : Below w.heap.size w W) => apart_line (h.below hW) hl (fun x hx => (c0.2 x hx).1)
    rw [show (decide ((l.length : Int) ≤ 4000) && l.all fun x => decide (EntOk x)) = true by simp; exact ⟨by omega, c0.2⟩] at hev
    have c0 := Lib.hid c0
    obtain ⟨r, hr⟩ : ∃ r, r = dec (Steps l) := ⟨_, rfl⟩
    have hrt : dec (TabOk l) = r := by
      rw [hr]
      unfold dec
      congr 1
      exact propext ⟨fun h => h.2.2, fun h => ⟨by have := c0.out.1; omega, c0.out.2, h⟩⟩
    rw [hrt]
    rw [← hr] at hap
    clear hr hrt
    go_enter Tryz.func101, Tryz.ntmps101
    go_wp2_with fail
    refine hev.mono ?_
    rintro e w1 ⟨rfl, hb1⟩
    go_wp2_with fail
    refine (hap w1 hb1).mono ?_
    rintro e w2 ⟨rfl, hb2⟩
    go_wp2
    go_ret
    exact ⟨rfl, bel_then hb1 (Nat.le_refl _) hb2⟩
  · rw [show (decide ((l.length : Int) ≤ 4000) && l.all fun x => decide (EntOk x)) = false by
      rw [← Bool.not_eq_true]
      simp only [Bool.and_eq_true, decide_eq_true_eq, List.all_eq_true]
      exact c0] at hev
    rw [show dec (TabOk l) = false from dec_no fun h => c0 ⟨by have := h.1; omega, h.2.1⟩]
    clear c0
    go_enter Tryz.func101, Tryz.ntmps101
    go_wp2_with fail
    refine hev.mono ?_
    rintro e w1 ⟨rfl, hb1⟩
    go_wp2
    go_ret
    exact ⟨rfl, hb1⟩
end Go.Ev

