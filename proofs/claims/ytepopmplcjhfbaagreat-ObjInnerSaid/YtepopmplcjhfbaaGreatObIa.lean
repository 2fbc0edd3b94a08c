import Derived.Test.YtepopmplcjhfbaaGreatObLa
import Derived.Deep.RegionWith
import Derived.Deep.RegionHeld3
import Derived.Shelf.Abstract
set_option linter.unusedSectionVars false
set_option linter.unusedVariables false
set_option linter.unusedSimpArgs false
set_option linter.unnecessarySimpa false
/-
  Stage 3: the program's SymbolAt: its callees.
-/
namespace Go.Ev
open Go.RowKit Go.Proofs Go.Rw
def covS (off : Int) (s : SymT) : Prop := s.val ≤ off ∧ off - s.val < s.size
instance (off : Int) (s : SymT) : Decidable (covS off s) := by unfold covS; exact inferInstance
def hit (sec off : Int) (s : SymT) : Prop := 0 ≤ sec ∧ s.sec = sec ∧ covS off s
instance (sec off : Int) (s : SymT) : Decidable (hit sec off s) := by unfold hit; exact inferInstance
def near (s y : SymT) : Prop := y.val < s.val ∨ (y.val = s.val ∧ s.size < y.size)
instance (s y : SymT) : Decidable (near s y) := by unfold near; exact inferInstance
set_option maxRecDepth 100000 in
theorem covers_c {w : World} (s : SymT) (h : s.R) (off : Int) (ho : inI64 off) : Calls Tryz.prog 110 #[s.v, .int .i64 off] w fun e w' => e = .returned (.bool (decide (covS off s))) ∧ Below w.heap.size w w' := by
  obtain ⟨nm, se, va, sz, bi, ki⟩ := s
  obtain ⟨r1, r2, r3, r4, r5, r6⟩ := h
  dsimp only [SymT.v] at *
  unfold inI64 inU32 at *
  by_cases c1 : va ≤ off
  · have hw : wrap64 (off - va) = off - va := by unfold wrap64; omega
    by_cases c2 : off - va < sz
    · rw [decide_eq_true (show covS off ⟨nm, se, va, sz, bi, ki⟩ from ⟨c1, c2⟩)]
      go_enter Tryz.func110, Tryz.ntmps110
      go_wp2
      all_goals (go_ret; exact ⟨rfl, (Below.refl _ _).alloc (Nat.le_refl _) _⟩)
    · rw [decide_eq_false (show ¬ covS off ⟨nm, se, va, sz, bi, ki⟩ from fun h => c2 h.2)]
      go_enter Tryz.func110, Tryz.ntmps110
      go_wp2
      all_goals (go_ret; exact ⟨rfl, (Below.refl _ _).alloc (Nat.le_refl _) _⟩)
  · rw [decide_eq_false (show ¬ covS off ⟨nm, se, va, sz, bi, ki⟩ from fun h => c1 h.1)]
    go_enter Tryz.func110, Tryz.ntmps110
    go_wp2
    all_goals (go_ret; exact ⟨rfl, (Below.refl _ _).alloc (Nat.le_refl _) _⟩)
theorem isnan38 {w : World} (x : Int) : Calls Tryz.prog 228 #[.int .u32 x] w fun e w' => e = .returned (.bool false) ∧ w' = w := by
  have hx : (x != x) = false := by simp
  go_enter Tryz.func228, Tryz.ntmps228
  go_wp2
  go_ret
  exact ⟨rfl, rfl⟩
theorem isnan3 {w : World} (x : Int) : Calls Tryz.prog 229 #[.int .i64 x] w fun e w' => e = .returned (.bool false) ∧ w' = w := by
  have hx : (x != x) = false := by simp
  go_enter Tryz.func229, Tryz.ntmps229
  go_wp2
  go_ret
  exact ⟨rfl, rfl⟩
def cmpI (x y : Int) : Int := if x < y then -1 else if y < x then 1 else 0
theorem cmp38 {w : World} (x y : Int) : Calls Tryz.prog 196 #[.int .u32 x, .int .u32 y] w fun e w' => e = .returned (.int .i64 (cmpI x y)) ∧ w' = w := by
  by_cases c1 : x < y
  · rw [show cmpI x y = -1 from if_pos c1]
    go_enter Tryz.func196, Tryz.ntmps196
    go_wp2_with (first | (go_at_call 228; refine (isnan38 _).mono ?_; rintro e w1 ⟨rfl, rfl⟩))
    go_ret
    exact ⟨rfl, rfl⟩
  · by_cases c2 : y < x
    · rw [show cmpI x y = 1 from (if_neg c1).trans (if_pos c2)]
      go_enter Tryz.func196, Tryz.ntmps196
      go_wp2_with (first | (go_at_call 228; refine (isnan38 _).mono ?_; rintro e w1 ⟨rfl, rfl⟩))
      go_ret
      exact ⟨rfl, rfl⟩
    · rw [show cmpI x y = 0 from (if_neg c1).trans (if_neg c2)]
      go_enter Tryz.func196, Tryz.ntmps196
      go_wp2_with (first | (go_at_call 228; refine (isnan38 _).mono ?_; rintro e w1 ⟨rfl, rfl⟩))
      go_ret
      exact ⟨rfl, rfl⟩
theorem cmp3 {w : World} (x y : Int) : Calls Tryz.prog 197 #[.int .i64 x, .int .i64 y] w fun e w' => e = .returned (.int .i64 (cmpI x y)) ∧ w' = w := by
  by_cases c1 : x < y
  · rw [show cmpI x y = -1 from if_pos c1]
    go_enter Tryz.func197, Tryz.ntmps197
    go_wp2_with (first | (go_at_call 229; refine (isnan3 _).mono ?_; rintro e w1 ⟨rfl, rfl⟩))
    go_ret
    exact ⟨rfl, rfl⟩
  · by_cases c2 : y < x
    · rw [show cmpI x y = 1 from (if_neg c1).trans (if_pos c2)]
      go_enter Tryz.func197, Tryz.ntmps197
      go_wp2_with (first | (go_at_call 229; refine (isnan3 _).mono ?_; rintro e w1 ⟨rfl, rfl⟩))
      go_ret
      exact ⟨rfl, rfl⟩
    · rw [show cmpI x y = 0 from (if_neg c1).trans (if_neg c2)]
      go_enter Tryz.func197, Tryz.ntmps197
      go_wp2_with (first | (go_at_call 229; refine (isnan3 _).mono ?_; rintro e w1 ⟨rfl, rfl⟩))
      go_ret
      exact ⟨rfl, rfl⟩
def orI (x y : Int) : Int := if x = 0 then y else x
theorem or_c {w : World} {g : Nat} (x y : Int) (h0 : w.cell? ⟨g, 0, none⟩ = some (.int .i64 x)) (h1 : w.cell? ⟨g, 1, none⟩ = some (.int .i64 y)) : Calls Tryz.prog 195 #[.slice (some ⟨g, 0, none⟩) 2 2] w fun e w' => e = .returned (.int .i64 (orI x y)) ∧ w' = w := by
  go_enter Tryz.func195, Tryz.ntmps195
  go_wp2_with fail
  go_loopw [8] (fun i wr => ∃ k : Nat, k ≤ 2 ∧ i = .int .i64 k ∧ wr = w ∧ (1 ≤ k → x = 0) ∧ (2 ≤ k → y = 0)) (fun i _ => 2 - (intOf i).toNat)
  case atStart => exact ⟨0, by omega, rfl, rfl, by omega, by omega⟩
  case round =>
    obtain ⟨k, hk, rfl, rfl, e0, e1⟩ := hrel
    by_cases k0 : k = 0
    · subst k0
      by_cases hx : x = 0
      · have hx' : (x != 0) = false := by simp [hx]
        go_wp2
        go_roundw
        case rel => exact ⟨1, by omega, by go_num, by trivial, fun _ => hx, by omega⟩
        case measure => simp [intOf]
      · have hx' : (x != 0) = true := by simp [hx]
        go_wp2
        go_ret
        exact ⟨by simp [orI, hx], rfl⟩
    · by_cases k1 : k = 1
      · subst k1
        have hx := e0 (by omega)
        by_cases hy : y = 0
        · have hy' : (y != 0) = false := by simp [hy]
          go_wp2
          go_roundw
          case rel => exact ⟨2, by omega, by go_num, by trivial, fun _ => hx, fun _ => hy⟩
          case measure => simp [intOf]
        · have hy' : (y != 0) = true := by simp [hy]
          go_wp2
          go_ret
          exact ⟨by simp [orI, hx], rfl⟩
      · obtain rfl : k = 2 := by omega
        have hx := e0 (by omega)
        have hy := e1 (by omega)
        go_wp2
        go_ret
        exact ⟨by simp [orI, hx, hy], rfl⟩
theorem near_or (a b : SymT) : decide (orI (cmpI b.val a.val) (cmpI a.size b.size) < 0) = decide (near a b) := by
  apply decide_eq_decide.2
  unfold orI cmpI near
  repeat' split
  all_goals omega
set_option maxRecDepth 100000 in
set_option maxHeartbeats 400000 in
theorem nearer_c {w : World} (a b : SymT) (ha : a.R) (hb : b.R) : Calls Tryz.prog 111 #[a.v, b.v] w fun e w' => e = .returned (.bool (decide (near a b))) ∧ Below w.heap.size w w' := by
  rw [← near_or]
  obtain ⟨an, as', av, az, ab, ak⟩ := a
  obtain ⟨bn, bs, bv, bz, bb, bk⟩ := b
  dsimp only [SymT.v]
  generalize hu : cmpI bv av = u
  generalize hv : cmpI az bz = v
  have hu := Lib.hid hu
  have hv := Lib.hid hv
  have n0 := fun A B => (show ((((w.alloc A).alloc B).alloc (.cells #[.int .i64 u, .int .i64 v] 3)).drew).cell? ⟨w.heap.size + 1 + 1, 0, none⟩ = some (.int .i64 u) from by
    have := new_cell ((w.alloc A).alloc B) #[.int .i64 u, .int .i64 v] 3 0 _ rfl
    rw [World.size_alloc, World.size_alloc] at this
    exact this)
  have n1 := fun A B => (show ((((w.alloc A).alloc B).alloc (.cells #[.int .i64 u, .int .i64 v] 3)).drew).cell? ⟨w.heap.size + 1 + 1, 1, none⟩ = some (.int .i64 v) from by
    have := new_cell ((w.alloc A).alloc B) #[.int .i64 u, .int .i64 v] 3 1 _ rfl
    rw [World.size_alloc, World.size_alloc] at this
    exact this)
  have z3 : ∀ A B C, Below w.heap.size w (((w.alloc A).alloc B).alloc C) := fun A B C => (((Below.refl w.heap.size w).alloc (Nat.le_refl _) A).alloc (by simp) B).alloc (by rw [World.size_alloc, World.size_alloc]; omega) C
  have hor := fun A B => or_c (w := (((w.alloc A).alloc B).alloc (.cells #[.int .i64 u, .int .i64 v] 3)).drew) (g := w.heap.size + 1 + 1) u v (n0 A B) (n1 A B)
  clear n0 n1
  go_enter Tryz.func111, Tryz.ntmps111
  go_wp2_with fail
  go_region_held3 (fun w' => w'.cell? ⟨w.heap.size, 2, none⟩ = some (.int .u32 av) ∧ w'.cell? ⟨w.heap.size, 3, none⟩ = some (.int .i64 az) ∧ w'.cell? ⟨w.heap.size + 1, 2, none⟩ = some (.int .u32 bv) ∧ w'.cell? ⟨w.heap.size + 1, 3, none⟩ = some (.int .i64 bz)) (go_keep)
    (first
      | (go_at_call 196; refine (cmp38 _ _).mono ?_; rintro e w1 ⟨rfl, rfl⟩; (try rw [hu.out]))
      | (go_at_call 197; refine (cmp3 _ _).mono ?_; rintro e w1 ⟨rfl, rfl⟩; (try rw [hv.out]))
      | (go_at_call 195; refine (hor _ _).mono ?_; rintro e w1 ⟨rfl, rfl⟩))
  all_goals go_wp2
  all_goals (go_ret; exact ⟨rfl, (z3 _ _ _).drew⟩)
end Go.Ev
