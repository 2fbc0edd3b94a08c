import Derived.Test.YtepopmplcjhfbaaGreatObCc
set_option linter.unusedSectionVars false
set_option linter.unusedVariables false
set_option linter.unusedSimpArgs false
set_option linter.unnecessarySimpa false
/-
  Stage 3: one symbol, the symbols.
-/
namespace Go.Ev
open Go.RowKit Go.Proofs Go.Rw
/-- What a symbol's check answers. -/
def SymR (n : Nat) (x : SymT) (w : World) (e : Ending) (w' : World) : Prop := ∃ r : Bool, e = .returned (.bool r) ∧ Below w.heap.size w w' ∧ (r = true → x.sec < (n : Int))
theorem sym_end {n : Nat} {x : SymT} {w w' : World} {r : Bool} (h : Below w.heap.size w w') (h' : r = true → x.sec < (n : Int)) : SymR n x w (.returned (.bool r)) w' := ⟨r, rfl, h, h'⟩
set_option maxRecDepth 100000 in
set_option maxHeartbeats 2000000 in
theorem symbol_b {w : World} {v : Value} {o : ObjT} (h : ObjAt w v o) (hR : o.R) (x : SymT) (hx : x.R) :
    Calls Tryz.prog 219 #[v, x.v] w (SymR (o.secs.length) x w) := by
  obtain ⟨s1, s2, s3, s4, s5, rfl, k1, k2, k3, k4, k5⟩ := h
  obtain ⟨a1, c1, rfl⟩ := rows_slice k1
  obtain ⟨xn, xs, xv, xz, xb, xk⟩ := x
  obtain ⟨r1, r2, r3, r4, r5, r6⟩ := hx
  obtain ⟨q1, q2, q3, q4, q5, q6, q7, q8, q9, q10⟩ := hR
  dsimp only [SymT.v] at *
  unfold inI64 inU32 at *
  go_enter Tryz.func219, Tryz.ntmps219
  have z1 : ∀ A B, Below w.heap.size w ((w.alloc A).alloc B) := fun A B => ((Below.refl w.heap.size w).alloc (Nat.le_refl _) A).alloc (by simp) B
  have z3 : ∀ A B C, Below w.heap.size w (((w.alloc A).alloc B).alloc C) := fun A B C => (z1 A B).alloc (by rw [World.size_alloc, World.size_alloc]; omega) C
  by_cases hlt : (0 : Int) ≤ xs ∧ xs < (o.secs.length : Int)
  · obtain ⟨k, rfl⟩ : ∃ k : Nat, xs = (k : Int) := ⟨xs.toNat, by omega⟩
    have hk : k < o.secs.length := by omega
    obtain ⟨b, of, rfl⟩ := rows_some2 k1 hk
    obtain ⟨y, hy⟩ : ∃ y, o.secs[k]? = some y := ⟨o.secs[k], by simp [hk]⟩
    have hyR := q1 y (List.mem_of_getElem? hy)
    have g0 := fun A B => (rows_sec (k1.below (z1 A B)) hy).1
    have g1 := fun A B => (rows_sec (k1.below (z1 A B)) hy).2.1
    have g2 := fun A B => (rows_sec (k1.below (z1 A B)) hy).2.2.1
    have g3 := fun A B => (rows_sec (k1.below (z1 A B)) hy).2.2.2.1
    have g4 := fun A B => (rows_sec (k1.below (z1 A B)) hy).2.2.2.2
    have hlen := fun w => len_c (w := w) y hyR
    obtain ⟨yn, yr, ya, yb, yl, yc, yz⟩ := y
    obtain ⟨t0, t1, t2, t3, t4⟩ := id hyR
    dsimp only [SecT.v] at g0 g1 g2 g3 g4 t0 t1 t2 t3 t4 hlen
    unfold inI64 at t0 t1 t3
    have hy := Lib.hid hy
    go_wp2
    all_goals try (go_ret; exact sym_end (z1 _ _) (fun _ => hlt.2))
    by_cases c1 : xz < 0
    · go_quiet (fail)
      go_wp2
      go_ret
      exact sym_end (below_drewN ((z1 _ _).alloc (by simp; omega) _) _) (fun h => by cases h)
    · by_cases c2 : 65536 < xz
      · go_quiet (fail)
        go_wp2
        go_ret
        exact sym_end (below_drewN ((z1 _ _).alloc (by simp; omega) _) _) (fun h => by cases h)
      · have hz0 : (0 : Int) ≤ xz := by omega
        have hz1 : xz ≤ (65536 : Int) := by omega
        clear z1 g0 g1 g2 g3 g4
        have nw := fun (A B : Obj) (i : Nat) (u : Value) (h : (#[Value.string yn, .int .i64 yr, .int .i64 ya, .slice yb yl yc, .int .i64 yz] : Array Value)[i]? = some u) => (show ((( w.alloc A).alloc B).alloc (.cells #[Value.string yn, .int .i64 yr, .int .i64 ya, .slice yb yl yc, .int .i64 yz] 66)).cell? ⟨w.heap.size + 2, i, none⟩ = some u from by
          have := new_cell ((w.alloc A).alloc B) #[Value.string yn, .int .i64 yr, .int .i64 ya, .slice yb yl yc, .int .i64 yz] 66 i u h
          rw [World.size_alloc, World.size_alloc] at this
          exact this)
        have n0 := fun A B => nw A B 0 _ rfl
        have n1 := fun A B => nw A B 1 _ rfl
        have n2 := fun A B => nw A B 2 _ rfl
        have n3 := fun A B => nw A B 3 _ rfl
        have n4 := fun A B => nw A B 4 _ rfl
        clear nw
        go_region_held3 (fun w' => w'.cell? ⟨w.heap.size + 1, 2, none⟩ = some (.int .u32 xv) ∧ w'.cell? ⟨w.heap.size + 1, 3, none⟩ = some (.int .i64 xz) ∧ w'.cell? ⟨w.heap.size + 1, 5, none⟩ = some (.int .i64 xk) ∧ w'.cell? ⟨w.heap.size + 2, 0, none⟩ = some (.string yn) ∧ w'.cell? ⟨w.heap.size + 2, 1, none⟩ = some (.int .i64 yr) ∧ w'.cell? ⟨w.heap.size + 2, 2, none⟩ = some (.int .i64 ya) ∧
            w'.cell? ⟨w.heap.size + 2, 3, none⟩ = some (.slice yb yl yc) ∧ w'.cell? ⟨w.heap.size + 2, 4, none⟩ = some (.int .i64 yz))
          (first
            | go_keep
            | (go_split_ands
               refine ⟨?_, ?_, ?_, ?_, ?_, ?_, ?_, ?_⟩ <;> (rw [hb2.cell (low_of_cell (by assumption))]; assumption)))
          (first
            | (go_simp; go_at_call 46; refine (hlen _).mono ?_; rintro e w2 ⟨rfl, hb2⟩))
        all_goals go_wp2
        all_goals (go_ret; exact sym_end (bel_then (z3 _ _ _).drew (Nat.le_refl _) hb2) (fun _ => hlt.2))
  · go_wp2
    all_goals try (go_ret; exact sym_end (z1 _ _) (fun h => by first | cases h | (dsimp only; omega)))
end Go.Ev
