import Derived.Test.YtepopmplcjhfbaaGreatObIa
set_option linter.unusedSectionVars false
set_option linter.unusedVariables false
set_option linter.unusedSimpArgs false
set_option linter.unnecessarySimpa false
/-
  Stage 3: slices.ContainsFunc of symbols, where no symbol is one; the law's closures.
-/
namespace Go.Ev
open Go.RowKit Go.Proofs Go.Rw
set_option maxRecDepth 100000 in
theorem index_no {w : World} {s2 : Value} {l : List SymT} (h : RowsAt w s2 SymT.cells 6 l) (hl : l.length ≤ 140737488351232) (g : Nat) (lb : Array Value) (eg : ∀ args w, (callFunc g args).run Tryz.prog w = .ok (.enter g args) w)
    (hp : ∀ W, Below w.heap.size w W → ∀ x ∈ l, Calls Tryz.prog g (#[x.v] ++ lb) W fun e w' => e = .returned (.bool false) ∧ Below W.heap.size W w') :
    Calls Tryz.prog 139 #[s2, .func (.func g) #[] lb] w fun e w' => e = .returned (.int .i64 (-1)) ∧ Below w.heap.size w w' := by
  obtain ⟨a2, c2, rfl⟩ := rows_slice h
  go_enter Tryz.func139, Tryz.ntmps139
  go_wp2
  go_loopw [8] (fun i wr => ∃ k : Nat, k ≤ l.length ∧ i = .int .i64 k ∧ Below w.heap.size w wr) (fun i _ => l.length - (intOf i).toNat)
  case atStart => exact ⟨0, by omega, rfl, Below.refl _ _⟩
  case round =>
    obtain ⟨k, hk, rfl, hbl⟩ := hrel
    by_cases hlt : k < l.length
    · obtain ⟨b, of, rfl⟩ := rows_some2 h hlt
      obtain ⟨x, hx⟩ : ∃ x, l[k]? = some x := ⟨l[k], by simp [hlt]⟩
      have hcall := hp wr hbl x (List.mem_of_getElem? hx)
      obtain ⟨g0, g1, g2, g3, g4, g5⟩ := rows_sym (h.below hbl) hx
      have hlt' : (k : Int) < (l.length : Int) := by omega
      have hx := Lib.hid hx
      clear hp h
      obtain ⟨xn, xs, xv, xz, xb, xk⟩ := x
      dsimp only [SymT.v] at hcall g0 g1 g2 g3 g4 g5
      go_wp2_with (go_at_fn g; refine hcall.mono ?_; rintro e w' ⟨rfl, hb'⟩)
      go_roundw
      case rel => exact ⟨k + 1, by omega, by go_num, bel_then hbl (Nat.le_refl _) hb'⟩
      case measure => simp [intOf]; omega
    · have : k = l.length := by omega
      subst this
      go_wp2
      go_ret
      exact ⟨rfl, hbl⟩
theorem contains_no {w : World} {s2 : Value} {l : List SymT} (h : RowsAt w s2 SymT.cells 6 l) (hl : l.length ≤ 140737488351232) (g : Nat) (lb : Array Value) (eg : ∀ args w, (callFunc g args).run Tryz.prog w = .ok (.enter g args) w)
    (hp : ∀ W, Below w.heap.size w W → ∀ x ∈ l, Calls Tryz.prog g (#[x.v] ++ lb) W fun e w' => e = .returned (.bool false) ∧ Below W.heap.size W w') :
    Calls Tryz.prog 48 #[s2, .func (.func g) #[] lb] w fun e w' => e = .returned (.bool false) ∧ Below w.heap.size w w' := by
  go_enter Tryz.func48, Tryz.ntmps48
  go_wp2_with fail
  refine (index_no h hl g lb eg hp).mono ?_
  rintro e w' ⟨rfl, hb⟩
  go_wp2
  go_ret
  exact ⟨rfl, hb⟩
set_option maxRecDepth 100000 in
/-- The law's 'covers'. -/
theorem closure47 {W : World} {B1 B2 : Nat} (s : SymT) (h : s.R) (sec off : Int) (hs : inI64 sec) (ho : inI64 off) (h1 : W.cell? ⟨B1, 0, none⟩ = some (.int .i64 sec)) (h2 : W.cell? ⟨B2, 0, none⟩ = some (.int .i64 off)) :
    Calls Tryz.prog 47 #[s.v, .pointer (some ⟨B1, 0, none⟩), .pointer (some ⟨B2, 0, none⟩)] W fun e w' => e = .returned (.bool (decide (hit sec off s))) ∧ Below W.heap.size W w' := by
  obtain ⟨nm, se, va, sz, bi, ki⟩ := s
  obtain ⟨r1, r2, r3, r4, r5, r6⟩ := h
  dsimp only [SymT.v] at *
  unfold inI64 inU32 at *
  have q1 := fun o => (World.cell?_alloc_lt W o _ (low_of_cell h1)).trans h1
  have q2 := fun o => (World.cell?_alloc_lt W o _ (low_of_cell h2)).trans h2
  by_cases c0 : 0 ≤ sec
  · by_cases c1 : se = sec
    · subst c1
      by_cases c2 : va ≤ off
      · have hw : wrap64 (off - va) = off - va := by unfold wrap64; omega
        by_cases c3 : off - va < sz
        · rw [decide_eq_true (show hit se off ⟨nm, se, va, sz, bi, ki⟩ from ⟨c0, rfl, c2, c3⟩)]
          go_enter Tryz.func47, Tryz.ntmps47
          go_wp2
          all_goals (go_ret; exact ⟨rfl, (Below.refl _ _).alloc (Nat.le_refl _) _⟩)
        · rw [decide_eq_false (show ¬ hit se off ⟨nm, se, va, sz, bi, ki⟩ from fun h => c3 h.2.2.2)]
          go_enter Tryz.func47, Tryz.ntmps47
          go_wp2
          all_goals (go_ret; exact ⟨rfl, (Below.refl _ _).alloc (Nat.le_refl _) _⟩)
      · rw [decide_eq_false (show ¬ hit se off ⟨nm, se, va, sz, bi, ki⟩ from fun h => c2 h.2.2.1)]
        go_enter Tryz.func47, Tryz.ntmps47
        go_wp2
        all_goals (go_ret; exact ⟨rfl, (Below.refl _ _).alloc (Nat.le_refl _) _⟩)
    · have c1' : (se == sec) = false := beq_eq_false_iff_ne.2 c1
      rw [decide_eq_false (show ¬ hit sec off ⟨nm, se, va, sz, bi, ki⟩ from fun h => c1 h.2.1)]
      go_enter Tryz.func47, Tryz.ntmps47
      go_wp2
      all_goals (go_ret; exact ⟨rfl, (Below.refl _ _).alloc (Nat.le_refl _) _⟩)
  · rw [decide_eq_false (show ¬ hit sec off ⟨nm, se, va, sz, bi, ki⟩ from fun h => c0 h.1)]
    go_enter Tryz.func47, Tryz.ntmps47
    go_wp2
    all_goals (go_ret; exact ⟨rfl, (Below.refl _ _).alloc (Nat.le_refl _) _⟩)
set_option maxRecDepth 100000 in
/-- The law's last closure. -/
theorem closure49 {W : World} {B1 B2 B3 B4 : Nat} (s y : SymT) (h : s.R) (hy : y.R) (sec off : Int) (hs : inI64 sec) (ho : inI64 off) (h1 : W.cell? ⟨B1, 0, none⟩ = some (.int .i64 sec)) (h2 : W.cell? ⟨B2, 0, none⟩ = some (.int .i64 off))
    (h3 : W.cell? ⟨B3, 0, none⟩ = some (.func (.func 47) #[] #[.pointer (some ⟨B1, 0, none⟩), .pointer (some ⟨B2, 0, none⟩)]))
    (y2 : W.cell? ⟨B4, 2, none⟩ = some (.int .u32 y.val)) (y3 : W.cell? ⟨B4, 3, none⟩ = some (.int .i64 y.size)) :
    Calls Tryz.prog 49 #[s.v, .pointer (some ⟨B3, 0, none⟩), .pointer (some ⟨B4, 0, none⟩)] W fun e w' => e = .returned (.bool (decide (hit sec off s ∧ near s y))) ∧ Below W.heap.size W w' := by
  have q1 := fun o => (World.cell?_alloc_lt W o _ (low_of_cell h1)).trans h1
  have q2 := fun o => (World.cell?_alloc_lt W o _ (low_of_cell h2)).trans h2
  have q3 := fun o => (World.cell?_alloc_lt W o _ (low_of_cell h3)).trans h3
  have q4 := fun o => (World.cell?_alloc_lt W o _ (low_of_cell y2)).trans y2
  have q5 := fun o => (World.cell?_alloc_lt W o _ (low_of_cell y3)).trans y3
  have hc := fun o => closure47 (W := W.alloc o) (B1 := B1) (B2 := B2) s h sec off hs ho (q1 o) (q2 o)
  have z1 : ∀ A, Below W.heap.size W (W.alloc A) := fun A => (Below.refl W.heap.size W).alloc (Nat.le_refl _) A
  obtain ⟨nm, se, va, sz, bi, ki⟩ := s
  obtain ⟨ym, ys, yv, yz, yb, yk⟩ := y
  dsimp only [SymT.v] at *
  by_cases c0 : hit sec off ⟨nm, se, va, sz, bi, ki⟩
  · rw [decide_eq_true c0] at hc
    by_cases c1 : yv < va
    · rw [decide_eq_true (show hit sec off ⟨nm, se, va, sz, bi, ki⟩ ∧ near ⟨nm, se, va, sz, bi, ki⟩ ⟨ym, ys, yv, yz, yb, yk⟩ from ⟨c0, .inl c1⟩)]
      go_enter Tryz.func49, Tryz.ntmps49
      go_wp2_with (first | (go_at_call 47; refine (hc _).mono ?_; rintro e w1 ⟨rfl, hb⟩; have k0 := (hb.cell (p := ⟨W.heap.size, 0, none⟩) (by simp)).trans (new_cell W _ 68 0 _ rfl); have k1 := (hb.cell (p := ⟨W.heap.size, 1, none⟩) (by simp)).trans (new_cell W _ 68 1 _ rfl); have k2 := (hb.cell (p := ⟨W.heap.size, 2, none⟩) (by simp)).trans (new_cell W _ 68 2 _ rfl); have k3 := (hb.cell (p := ⟨W.heap.size, 3, none⟩) (by simp)).trans (new_cell W _ 68 3 _ rfl); have k4 := (hb.cell (low_of_cell (q4 _))).trans (q4 _); have k5 := (hb.cell (low_of_cell (q5 _))).trans (q5 _)))
      all_goals (go_ret; exact ⟨rfl, bel_then (z1 _) (Nat.le_refl _) hb⟩)
    · by_cases c2 : va = yv
      · subst c2
        have c2' : (va == va) = true := by simp
        by_cases c3 : sz < yz
        · rw [decide_eq_true (show hit sec off ⟨nm, se, va, sz, bi, ki⟩ ∧ near ⟨nm, se, va, sz, bi, ki⟩ ⟨ym, ys, va, yz, yb, yk⟩ from ⟨c0, .inr ⟨rfl, c3⟩⟩)]
          go_enter Tryz.func49, Tryz.ntmps49
          go_wp2_with (first | (go_at_call 47; refine (hc _).mono ?_; rintro e w1 ⟨rfl, hb⟩; have k0 := (hb.cell (p := ⟨W.heap.size, 0, none⟩) (by simp)).trans (new_cell W _ 68 0 _ rfl); have k1 := (hb.cell (p := ⟨W.heap.size, 1, none⟩) (by simp)).trans (new_cell W _ 68 1 _ rfl); have k2 := (hb.cell (p := ⟨W.heap.size, 2, none⟩) (by simp)).trans (new_cell W _ 68 2 _ rfl); have k3 := (hb.cell (p := ⟨W.heap.size, 3, none⟩) (by simp)).trans (new_cell W _ 68 3 _ rfl); have k4 := (hb.cell (low_of_cell (q4 _))).trans (q4 _); have k5 := (hb.cell (low_of_cell (q5 _))).trans (q5 _)))
          all_goals (go_ret; exact ⟨rfl, bel_then (z1 _) (Nat.le_refl _) hb⟩)
        · have cd3 : decide (sz < yz) = false := decide_eq_false c3
          have cd1 : decide (va < va) = false := decide_eq_false c1
          rw [decide_eq_false (show ¬ (hit sec off ⟨nm, se, va, sz, bi, ki⟩ ∧ near ⟨nm, se, va, sz, bi, ki⟩ ⟨ym, ys, va, yz, yb, yk⟩) from fun h => by have := h.2; unfold near at this; dsimp only at this; omega)]
          go_enter Tryz.func49, Tryz.ntmps49
          go_wp2_with (first | (go_at_call 47; refine (hc _).mono ?_; rintro e w1 ⟨rfl, hb⟩; have k0 := (hb.cell (p := ⟨W.heap.size, 0, none⟩) (by simp)).trans (new_cell W _ 68 0 _ rfl); have k1 := (hb.cell (p := ⟨W.heap.size, 1, none⟩) (by simp)).trans (new_cell W _ 68 1 _ rfl); have k2 := (hb.cell (p := ⟨W.heap.size, 2, none⟩) (by simp)).trans (new_cell W _ 68 2 _ rfl); have k3 := (hb.cell (p := ⟨W.heap.size, 3, none⟩) (by simp)).trans (new_cell W _ 68 3 _ rfl); have k4 := (hb.cell (low_of_cell (q4 _))).trans (q4 _); have k5 := (hb.cell (low_of_cell (q5 _))).trans (q5 _)))
          all_goals (go_ret; exact ⟨rfl, bel_then (z1 _) (Nat.le_refl _) hb⟩)
      · have c2' : (va == yv) = false := beq_eq_false_iff_ne.2 c2
        have cd1 : decide (yv < va) = false := decide_eq_false c1
        rw [decide_eq_false (show ¬ (hit sec off ⟨nm, se, va, sz, bi, ki⟩ ∧ near ⟨nm, se, va, sz, bi, ki⟩ ⟨ym, ys, yv, yz, yb, yk⟩) from fun h => by have := h.2; unfold near at this; dsimp only at this; omega)]
        go_enter Tryz.func49, Tryz.ntmps49
        go_wp2_with (first | (go_at_call 47; refine (hc _).mono ?_; rintro e w1 ⟨rfl, hb⟩; have k0 := (hb.cell (p := ⟨W.heap.size, 0, none⟩) (by simp)).trans (new_cell W _ 68 0 _ rfl); have k1 := (hb.cell (p := ⟨W.heap.size, 1, none⟩) (by simp)).trans (new_cell W _ 68 1 _ rfl); have k2 := (hb.cell (p := ⟨W.heap.size, 2, none⟩) (by simp)).trans (new_cell W _ 68 2 _ rfl); have k3 := (hb.cell (p := ⟨W.heap.size, 3, none⟩) (by simp)).trans (new_cell W _ 68 3 _ rfl); have k4 := (hb.cell (low_of_cell (q4 _))).trans (q4 _); have k5 := (hb.cell (low_of_cell (q5 _))).trans (q5 _)))
        all_goals (go_ret; exact ⟨rfl, bel_then (z1 _) (Nat.le_refl _) hb⟩)
  · rw [decide_eq_false c0] at hc
    rw [decide_eq_false (show ¬ (hit sec off ⟨nm, se, va, sz, bi, ki⟩ ∧ near ⟨nm, se, va, sz, bi, ki⟩ ⟨ym, ys, yv, yz, yb, yk⟩) from fun h => c0 h.1)]
    clear c0
    go_enter Tryz.func49, Tryz.ntmps49
    go_wp2_with (first | (go_at_call 47; refine (hc _).mono ?_; rintro e w1 ⟨rfl, hb⟩))
    all_goals (go_ret; exact ⟨rfl, bel_then (z1 _) (Nat.le_refl _) hb⟩)
end Go.Ev
