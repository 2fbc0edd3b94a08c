import Derived.Test.YtepopmplcjhfbaaGreatObHk5
import Derived.Lib.QuietBelow
import Derived.Test.YtepopmplcjhfbaaGreatObHc1
import Derived.Deep.LoopGhost
set_option linter.unusedSectionVars false
set_option linter.unusedVariables false
set_option linter.unusedSimpArgs false
set_option linter.unnecessarySimpa false
/-
  Stage 3: a symbol, in the specification, exactly.
-/
namespace Go.Ev
open Go.RowKit Go.Proofs Go.Rw
def SymB (l : List SecT) (x : SymT) : Prop := (0 ≤ x.bind ∧ x.bind ≤ 2) ∧ (0 ≤ x.kind ∧ x.kind ≤ 2) ∧ DefOk l x
set_option maxRecDepth 100000 in
set_option maxHeartbeats 8000000 in
/-- The specification's symbol. -/
theorem rsym_c {w : World} {v : Value} {o : ObjT} (h : ObjAt w v o) (hs : ∀ y ∈ o.secs, SecOk y ∧ y.R ∧ (y.bn : Int) + y.zero ≤ 65536) (hl : o.secs.length ≤ 140737488351232) (x : SymT) (hx : x.R) :
    Calls Tryz.prog 219 #[v, .agg #[.string x.name, .int .i64 x.sec, .int .u32 x.val, .int .i64 x.size, .int .i64 x.bind, .int .i64 x.kind]] w (BelR (dec (SymB o.secs x)) w) := by
  obtain ⟨s1, s2, s3, s4, s5, rfl, k1, k2, k3, k4, k5⟩ := h
  obtain ⟨a1, c1, rfl⟩ := rows_slice k1
  obtain ⟨r, hr0⟩ : ∃ r, r = dec (SymB o.secs x) := ⟨_, rfl⟩
  rw [← hr0]
  have hrr := Lib.hid hr0
  clear hr0 k2 k3 k4 k5
  have z1 : ∀ A B, Below w.heap.size w ((w.alloc A).alloc B) := fun A B => ((Below.refl w.heap.size w).alloc (Nat.le_refl _) A).alloc (by simp) B
  have z3 : ∀ A B C, Below w.heap.size w (((w.alloc A).alloc B).alloc C) := fun A B C => (z1 A B).alloc (by rw [World.size_alloc, World.size_alloc]; omega) C
  obtain ⟨xn, xs, xv, xz, xb, xk⟩ := x
  obtain ⟨r1, r2, r3, r4, r5, r6⟩ := hx
  dsimp only at *
  unfold inI64 inU32 at *
  by_cases c2 : (0 ≤ xb ∧ xb ≤ 2) ∧ (0 ≤ xk ∧ xk ≤ 2)
  · obtain ⟨⟨c21, c22⟩, c23, c24⟩ := c2
    by_cases e1 : xs = -1
    · subst e1
      have hl1 : (-1 : Int) < (o.secs.length : Int) := by omega
      by_cases d : xb ≠ 0 ∧ xv = 0 ∧ xz = 0
      · have hres := Lib.hid (show r = true by rw [hrr.out]; exact dec_yes ⟨⟨c21, c22⟩, ⟨c23, c24⟩, .inl ⟨rfl, d⟩⟩)
        obtain ⟨d1, d2, d3⟩ := d
        have hb1 : (xb != 0) = true := bne_iff_ne.2 d1
        subst d2
        subst d3
        clear d1
        go_enter Tryz.func219, Tryz.ntmps219
        go_wp2
        all_goals first
          | (go_ret; exact ⟨by rw [hres.out]; rfl, z1 _ _⟩)
          | (exfalso; omega)
      · have hres := Lib.hid (show r = false by rw [hrr.out]; exact dec_no fun h => by rcases h.2.2 with h | h | h <;> dsimp only at h <;> omega)
        by_cases d1 : xb = 0
        · have hb1 : (xb != 0) = false := by simp [d1]
          clear d d1
          go_enter Tryz.func219, Tryz.ntmps219
          go_wp2
          all_goals first
            | (go_ret; exact ⟨by rw [hres.out]; rfl, z1 _ _⟩)
            | (exfalso; omega)
        · have hb1 : (xb != 0) = true := bne_iff_ne.2 d1
          by_cases d2 : xv = 0
          · have hb2 : (xv == 0) = true := beq_iff_eq.2 d2
            have hb3 : (xz == 0) = false := beq_eq_false_iff_ne.2 (fun e => d ⟨d1, d2, e⟩)
            clear d d1 d2
            go_enter Tryz.func219, Tryz.ntmps219
            go_wp2
            all_goals first
              | (go_ret; exact ⟨by rw [hres.out]; rfl, z1 _ _⟩)
              | (exfalso; omega)
          · have hb2 : (xv == 0) = false := beq_eq_false_iff_ne.2 d2
            clear d d1 d2
            go_enter Tryz.func219, Tryz.ntmps219
            go_wp2
            all_goals first
              | (go_ret; exact ⟨by rw [hres.out]; rfl, z1 _ _⟩)
              | (exfalso; omega)
    · have f1 : (xs == -1) = false := beq_eq_false_iff_ne.2 e1
      by_cases e2 : xs = -2
      · subst e2
        have hl1 : (-2 : Int) < (o.secs.length : Int) := by omega
        by_cases d3 : xz = 0
        · have hres := Lib.hid (show r = true by rw [hrr.out]; exact dec_yes ⟨⟨c21, c22⟩, ⟨c23, c24⟩, .inr (.inl ⟨rfl, d3⟩)⟩)
          have hb3 : (xz == 0) = true := beq_iff_eq.2 d3
          clear d3
          go_enter Tryz.func219, Tryz.ntmps219
          go_wp2
          all_goals first
            | (go_ret; exact ⟨by rw [hres.out]; rfl, z1 _ _⟩)
            | (exfalso; omega)
        · have hres := Lib.hid (show r = false by rw [hrr.out]; exact dec_no fun h => by rcases h.2.2 with h | h | h <;> dsimp only at h <;> omega)
          have hb3 : (xz == 0) = false := beq_eq_false_iff_ne.2 d3
          clear d3
          go_enter Tryz.func219, Tryz.ntmps219
          go_wp2
          all_goals first
            | (go_ret; exact ⟨by rw [hres.out]; rfl, z1 _ _⟩)
            | (exfalso; omega)
      · have f2 : (xs == -2) = false := beq_eq_false_iff_ne.2 e2
        by_cases hlt : (0 : Int) ≤ xs ∧ xs < (o.secs.length : Int)
        · obtain ⟨k, rfl⟩ : ∃ k : Nat, xs = (k : Int) := ⟨xs.toNat, by omega⟩
          have hk : k < o.secs.length := by omega
          obtain ⟨b, of, rfl⟩ := rows_some2 k1 hk
          obtain ⟨y, hy⟩ : ∃ y, o.secs[k]? = some y := ⟨o.secs[k], by simp [hk]⟩
          obtain ⟨hyO, hyR, h64⟩ := hs y (List.mem_of_getElem? hy)
          have hP := fun W => len_c (w := W) y hyR
          have hDef := Lib.hid (show DefOk o.secs ⟨xn, (k : Int), xv, xz, xb, xk⟩ ↔ ((0 ≤ xz ∧ xz ≤ (y.bn : Int) + y.zero - xv) ∧ (xk ≠ 1 ∨ bits .and .i64 y.rights 4 ≠ 0)) from by
            constructor
            · rintro (⟨h, _⟩ | ⟨h, _⟩ | ⟨_, y', hy', h⟩)
              · exact absurd h e1
              · exact absurd h e2
              · dsimp only at hy' h
                rw [Int.toNat_natCast, hy] at hy'
                cases hy'
                exact h
            · intro h
              exact .inr (.inr ⟨Int.natCast_nonneg _, y, by dsimp only; rw [Int.toNat_natCast]; exact hy, h⟩))
          have hklt : (k : Int) < (o.secs.length : Int) := hlt.2
          have g0 := fun A B => (rows_sec (k1.below (z1 A B)) hy).1
          have g1 := fun A B => (rows_sec (k1.below (z1 A B)) hy).2.1
          have g2 := fun A B => (rows_sec (k1.below (z1 A B)) hy).2.2.1
          have g3 := fun A B => (rows_sec (k1.below (z1 A B)) hy).2.2.2.1
          have g4 := fun A B => (rows_sec (k1.below (z1 A B)) hy).2.2.2.2
          have hO := hyO.2.2.2.2
          have hYb := hyR.2.2.1
          clear hs k1 hy hyO hyR
          obtain ⟨yn, yr, ya, yb, yl, yc, yz⟩ := y
          dsimp only [SecT.v] at hP g0 g1 g2 g3 g4 hDef hO hYb h64
          obtain ⟨B, hB⟩ : ∃ B, B = bits .and .i64 yr 4 := ⟨_, rfl⟩
          have hB2 := hB.symm
          rw [← hB] at hDef
          clear hB
          obtain ⟨L, hL⟩ : ∃ L : Int, L = (yl : Int) + yz := ⟨_, rfl⟩
          have hL0 : 0 ≤ L ∧ L ≤ 65536 := by omega
          have hLw : wrap64 ((yl : Int) + yz) = L := by rw [← hL]; exact wrap_id64 (by omega) (by omega)
          simp only [hLw] at hP
          rw [← hL] at hDef
          clear hL hLw h64 hO
          have fk1 : ((k : Int) == -1) = false := f1
          have fk2 : ((k : Int) == -2) = false := f2
          have nx := fun (i : Nat) (u : Value) (h : (#[Value.string yn, .int .i64 yr, .int .i64 ya, .slice yb yl yc, .int .i64 yz] : Array Value)[i]? = some u) (A B : Obj) => (show (((w.alloc A).alloc B).alloc (.cells #[Value.string yn, .int .i64 yr, .int .i64 ya, .slice yb yl yc, .int .i64 yz] 66)).cell? ⟨w.heap.size + 1 + 1, i, none⟩ = some u from by
            have := new_cell ((w.alloc A).alloc B) #[Value.string yn, .int .i64 yr, .int .i64 ya, .slice yb yl yc, .int .i64 yz] 66 i u h
            rw [World.size_alloc, World.size_alloc] at this
            exact this)
          go_enter Tryz.func219, Tryz.ntmps219
          go_wp2_with fail
          have nB := fun (i : Nat) (u : Value) (h : (#[Value.string xn, .int .i64 (k : Int), .int .u32 xv, .int .i64 xz, .int .i64 xb, .int .i64 xk] : Array Value)[i]? = some u) (A C : Obj) => (show (((w.alloc A).alloc (.cells #[Value.string xn, .int .i64 (k : Int), .int .u32 xv, .int .i64 xz, .int .i64 xb, .int .i64 xk] 68)).alloc C).cell? ⟨w.heap.size + 1, i, none⟩ = some u from by
            have := new_cell (w.alloc A) #[Value.string xn, .int .i64 (k : Int), .int .u32 xv, .int .i64 xz, .int .i64 xb, .int .i64 xk] 68 i u h
            rw [World.size_alloc] at this
            exact (World.cell?_alloc_lt _ C _ (low_of_cell this)).trans this)
          have m2 := nB 2 _ rfl
          have m3 := nB 3 _ rfl
          have m5 := nB 5 _ rfl
          have x0 := nx 0 _ rfl
          have x1 := nx 1 _ rfl
          have x2 := nx 2 _ rfl
          have x3 := nx 3 _ rfl
          have x4 := nx 4 _ rfl
          have hbW := fun A B C => z3 A B C
          have m2 := m2 (.cells #[.slice (some ⟨b, of, none⟩) o.secs.length c1, s2, s3, s4, s5] 28) (.cells #[.string yn, .int .i64 yr, .int .i64 ya, .slice yb yl yc, .int .i64 yz] 66)
          have m3 := m3 (.cells #[.slice (some ⟨b, of, none⟩) o.secs.length c1, s2, s3, s4, s5] 28) (.cells #[.string yn, .int .i64 yr, .int .i64 ya, .slice yb yl yc, .int .i64 yz] 66)
          have m5 := m5 (.cells #[.slice (some ⟨b, of, none⟩) o.secs.length c1, s2, s3, s4, s5] 28) (.cells #[.string yn, .int .i64 yr, .int .i64 ya, .slice yb yl yc, .int .i64 yz] 66)
          have x0 := x0 (.cells #[.slice (some ⟨b, of, none⟩) o.secs.length c1, s2, s3, s4, s5] 28) (.cells #[.string xn, .int .i64 (k : Int), .int .u32 xv, .int .i64 xz, .int .i64 xb, .int .i64 xk] 68)
          have x1 := x1 (.cells #[.slice (some ⟨b, of, none⟩) o.secs.length c1, s2, s3, s4, s5] 28) (.cells #[.string xn, .int .i64 (k : Int), .int .u32 xv, .int .i64 xz, .int .i64 xb, .int .i64 xk] 68)
          have x2 := x2 (.cells #[.slice (some ⟨b, of, none⟩) o.secs.length c1, s2, s3, s4, s5] 28) (.cells #[.string xn, .int .i64 (k : Int), .int .u32 xv, .int .i64 xz, .int .i64 xb, .int .i64 xk] 68)
          have x3 := x3 (.cells #[.slice (some ⟨b, of, none⟩) o.secs.length c1, s2, s3, s4, s5] 28) (.cells #[.string xn, .int .i64 (k : Int), .int .u32 xv, .int .i64 xz, .int .i64 xb, .int .i64 xk] 68)
          have x4 := x4 (.cells #[.slice (some ⟨b, of, none⟩) o.secs.length c1, s2, s3, s4, s5] 28) (.cells #[.string xn, .int .i64 (k : Int), .int .u32 xv, .int .i64 xz, .int .i64 xb, .int .i64 xk] 68)
          have hbW := z3 (.cells #[.slice (some ⟨b, of, none⟩) o.secs.length c1, s2, s3, s4, s5] 28) (.cells #[.string xn, .int .i64 (k : Int), .int .u32 xv, .int .i64 xz, .int .i64 xb, .int .i64 xk] 68) (.cells #[.string yn, .int .i64 yr, .int .i64 ya, .slice yb yl yc, .int .i64 yz] 66)
          clear g0 g1 g2 g3 g4 nx nB z1 z3
          generalize ((w.alloc (.cells #[.slice (some ⟨b, of, none⟩) o.secs.length c1, s2, s3, s4, s5] 28)).alloc (.cells #[.string xn, .int .i64 (k : Int), .int .u32 xv, .int .i64 xz, .int .i64 xb, .int .i64 xk] 68)).alloc (.cells #[.string yn, .int .i64 yr, .int .i64 ya, .slice yb yl yc, .int .i64 yz] 66) = Wx at *
          have t2 := fun d os => cell_regrown m2 d os
          have t3 := fun d os => cell_regrown m3 d os
          have t5 := fun d os => cell_regrown m5 d os
          have u0 := fun d os => cell_regrown x0 d os
          have u1 := fun d os => cell_regrown x1 d os
          have u2 := fun d os => cell_regrown x2 d os
          have u3 := fun d os => cell_regrown x3 d os
          have u4 := fun d os => cell_regrown x4 d os
          by_cases p1 : xz < 0
          · have p1d : decide (xz < 0) = true := decide_eq_true p1
            have hres := Lib.hid (show r = false by rw [hrr.out]; exact dec_no fun h => by have := (hDef.out.1 h.2.2).1; omega)
            refine wp_region_quiet_below (by kernel_rfl) (by kernel_rfl) ?_
            repeat (go_big_quiet_step (exact Calls.regrown_of (hP _)))
            refine wpQuiet_nil ?_
            intro _ hw'
            obtain ⟨⟨dq, osq⟩, hw''⟩ := hw'
            subst hw''
            have hb2 := bel_then hbW (Nat.le_refl _) (below_regrown Wx dq osq)
            go_wp2
            go_ret
            exact ⟨by rw [hres.out]; rfl, hb2⟩
          · have p1d : decide (xz < 0) = false := decide_eq_false p1
            by_cases p2 : 65536 < xz
            · have p2d : decide (65536 < xz) = true := decide_eq_true p2
              have hres := Lib.hid (show r = false by rw [hrr.out]; exact dec_no fun h => by have := (hDef.out.1 h.2.2).1; omega)
              refine wp_region_quiet_below (by kernel_rfl) (by kernel_rfl) ?_
              repeat (go_big_quiet_step (exact Calls.regrown_of (hP _)))
              refine wpQuiet_nil ?_
              intro _ hw'
              obtain ⟨⟨dq, osq⟩, hw''⟩ := hw'
              subst hw''
              have hb2 := bel_then hbW (Nat.le_refl _) (below_regrown Wx dq osq)
              go_wp2
              go_ret
              exact ⟨by rw [hres.out]; rfl, hb2⟩
            · have p2d : decide (65536 < xz) = false := decide_eq_false p2
              by_cases p3 : L < xv + xz
              · have p3d : decide (L < xv + xz) = true := decide_eq_true p3
                have hres := Lib.hid (show r = false by rw [hrr.out]; exact dec_no fun h => by have := (hDef.out.1 h.2.2).1; omega)
                refine wp_region_quiet_below (by kernel_rfl) (by kernel_rfl) ?_
                repeat (go_big_quiet_step (exact Calls.regrown_of (hP _)))
                refine wpQuiet_nil ?_
                intro _ hw'
                obtain ⟨⟨dq, osq⟩, hw''⟩ := hw'
                subst hw''
                have hb2 := bel_then hbW (Nat.le_refl _) (below_regrown Wx dq osq)
                go_wp2
                go_ret
                exact ⟨by rw [hres.out]; rfl, hb2⟩
              · have p3d : decide (L < xv + xz) = false := decide_eq_false p3
                refine wp_region_quiet_below (by kernel_rfl) (by kernel_rfl) ?_
                repeat (go_big_quiet_step (exact Calls.regrown_of (hP _)))
                refine wpQuiet_nil ?_
                intro _ hw'
                obtain ⟨⟨dq, osq⟩, hw''⟩ := hw'
                subst hw''
                have hb2 := bel_then hbW (Nat.le_refl _) (below_regrown Wx dq osq)
                by_cases ck : xk = 1
                · have hk1 : (xk != 1) = false := by simp [ck]
                  by_cases cB : B = 0
                  · have hB3 : (B != 0) = false := by simp [cB]
                    have hres := Lib.hid (show r = false by
                      rw [hrr.out]
                      exact dec_no fun h => by rcases (hDef.out.1 h.2.2).2 with h | h; exact h ck; exact h cB)
                    clear ck cB
                    go_wp2
                    go_ret
                    exact ⟨by rw [hres.out]; rfl, hb2⟩
                  · have hB3 : (B != 0) = true := bne_iff_ne.2 cB
                    have hres := Lib.hid (show r = true by
                      rw [hrr.out]
                      exact dec_yes ⟨⟨c21, c22⟩, ⟨c23, c24⟩, hDef.out.2 ⟨by omega, .inr cB⟩⟩)
                    clear ck cB
                    go_wp2
                    go_ret
                    exact ⟨by rw [hres.out]; rfl, hb2⟩
                · have hk1 : (xk != 1) = true := bne_iff_ne.2 ck
                  have hres := Lib.hid (show r = true by
                    rw [hrr.out]
                    exact dec_yes ⟨⟨c21, c22⟩, ⟨c23, c24⟩, hDef.out.2 ⟨by omega, .inl ck⟩⟩)
                  clear ck
                  go_wp2
                  go_ret
                  exact ⟨by rw [hres.out]; rfl, hb2⟩
        · have hres := Lib.hid (show r = false by
            rw [hrr.out]
            refine dec_no fun h => ?_
            rcases h.2.2 with ⟨h, _⟩ | ⟨h, _⟩ | ⟨h, y, hy, _⟩
            · exact e1 h
            · exact e2 h
            · dsimp only at h hy
              have := (List.getElem?_eq_some_iff.1 hy).1
              omega)
          clear hs k1
          by_cases q1 : xs < -2
          · have q2 : decide (xs < -2) = true := decide_eq_true q1
            go_enter Tryz.func219, Tryz.ntmps219
            go_wp2
            all_goals first
              | (go_ret; exact ⟨by rw [hres.out]; rfl, z1 _ _⟩)
              | (exfalso; omega)
          · have q2 : decide (xs < -2) = false := decide_eq_false q1
            have q3 : decide ((o.secs.length : Int) ≤ xs) = true := decide_eq_true (by omega)
            go_enter Tryz.func219, Tryz.ntmps219
            go_wp2
            all_goals first
              | (go_ret; exact ⟨by rw [hres.out]; rfl, z1 _ _⟩)
              | (exfalso; omega)
  · have hres := Lib.hid (show r = false by rw [hrr.out]; exact dec_no fun h => c2 ⟨h.1, h.2.1⟩)
    go_enter Tryz.func219, Tryz.ntmps219
    go_wp2
    all_goals first
      | (go_ret; exact ⟨by rw [hres.out]; rfl, z1 _ _⟩)
      | (exfalso; omega)
      | trace_state
end Go.Ev

/-
  Stage 3: the symbols of an object, in the specification, exactly.
-/
namespace Go.Ev
open Go.RowKit Go.Proofs Go.Rw
theorem ynames_snoc {l : List SymT} {k : Nat} {x : SymT} (hx : l[k]? = some x) (hn : ((l.take k).map (·.name)).Nodup) (hd : ∀ j y, j < k → l[j]? = some y → y.name ≠ x.name) : ((l.take (k + 1)).map (·.name)).Nodup := by
  rw [show l.take (k + 1) = l.take k ++ [x] by rw [List.take_add_one, hx]; rfl, List.map_append, List.nodup_append]
  refine ⟨hn, by simp, fun a ha b hb => ?_⟩
  rw [List.map_cons, List.map_nil, List.mem_singleton] at hb
  rw [hb]
  obtain ⟨y, hy, rfl⟩ := List.mem_map.1 ha
  obtain ⟨j, hj⟩ := List.getElem?_of_mem hy
  have hjl := (List.getElem?_eq_some_iff.1 hj).1
  rw [List.length_take] at hjl
  rw [List.getElem?_take_of_lt (by omega)] at hj
  exact hd j y (by omega) hj
theorem ynames_not {l : List SymT} {j k : Nat} {x y : SymT} (hx : l[k]? = some x) (hy : l[j]? = some y) (e : y.name = x.name) (hjk : j < k) : ¬ (l.map (·.name)).Nodup := fun h => by
  have h1 := (List.getElem?_eq_some_iff.1 hx).1
  have h2 := (List.getElem?_eq_some_iff.1 hy).1
  exact List.pairwise_iff_getElem.1 h j k (by simpa using h2) (by simpa using h1) hjk (by simp [(List.getElem?_eq_some_iff.1 hy).2, (List.getElem?_eq_some_iff.1 hx).2, e])
set_option maxRecDepth 100000 in
set_option maxHeartbeats 4000000 in
theorem rsyms_c {w : World} {v : Value} {o : ObjT} (h : ObjAt w v o) (hR : o.R) (hs : ∀ y ∈ o.secs, SecOk y ∧ y.R ∧ (y.bn : Int) + y.zero ≤ 65536) : Calls Tryz.prog 136 #[v] w (BelR (dec (SymsOk o)) w) := by
  obtain ⟨s1, s2, s3, s4, s5, rfl, k1, k2, k3, k4, k5⟩ := id h
  obtain ⟨a2, c2, rfl⟩ := rows_slice k2
  have hR2 := hR.2.1
  have hn1 := hR.2.2.2.2.2.1
  have hn2 := hR.2.2.2.2.2.2.1
  have z1 : ∀ A, Below w.heap.size w (w.alloc A) := fun A => (Below.refl w.heap.size w).alloc (Nat.le_refl _) A
  obtain ⟨r, hr0⟩ : ∃ r, r = dec (SymsOk o) := ⟨_, rfl⟩
  rw [← hr0]
  have hrr := Lib.hid hr0
  clear k1 k3 k4 k5 hr0
  by_cases h500 : o.syms.length ≤ 500
  · have h500' : (o.syms.length : Int) ≤ 500 := by omega
    go_enter Tryz.func136, Tryz.ntmps136
    go_wp2
    go_loopg [3] o.syms.length (fun gn i wr => ∃ k : Nat, gn + k = o.syms.length ∧ k ≤ o.syms.length ∧ i = .int .i64 k ∧ Below (w.alloc (.cells #[s1, .slice a2 o.syms.length c2, s3, s4, s5] 28)).heap.size (w.alloc (.cells #[s1, .slice a2 o.syms.length c2, s3, s4, s5] 28)) wr ∧ (∀ j x, j < k → o.syms[j]? = some x → SymOk o.secs x) ∧ ((o.syms.take k).map (·.name)).Nodup)
    case atStart => exact ⟨0, by omega, by omega, rfl, Below.refl _ _, fun j x hj => by omega, by simp⟩
    case round =>
      obtain ⟨k, hgk, hk, rfl, hbl, h1, hN⟩ := hrel
      have hA := Lib.hid h1
      have hNd := Lib.hid hN
      clear h1 hN
      have hbw := bel_then (z1 _) (Nat.le_refl _) hbl
      have b0 := (hbl.cell (p := ⟨w.heap.size, 0, none⟩) (by simp)).trans (new_cell w _ 28 0 _ rfl)
      have b1 := (hbl.cell (p := ⟨w.heap.size, 1, none⟩) (by simp)).trans (new_cell w _ 28 1 _ rfl)
      have b2 := (hbl.cell (p := ⟨w.heap.size, 2, none⟩) (by simp)).trans (new_cell w _ 28 2 _ rfl)
      have b3 := (hbl.cell (p := ⟨w.heap.size, 3, none⟩) (by simp)).trans (new_cell w _ 28 3 _ rfl)
      have b4 := (hbl.cell (p := ⟨w.heap.size, 4, none⟩) (by simp)).trans (new_cell w _ 28 4 _ rfl)
      by_cases hlt : k < o.syms.length
      · obtain ⟨b, of, rfl⟩ := rows_some2 k2 hlt
        obtain ⟨⟨xn, xs, xv, xz, xb, xk⟩, hx⟩ : ∃ x, o.syms[k]? = some x := ⟨o.syms[k], by simp [hlt]⟩
        have hxR := hR2 _ (List.mem_of_getElem? hx)
        have hlt' : (k : Int) < (o.syms.length : Int) := by omega
        have hO := h.below hbw
        obtain ⟨g0, g1, g2, g3, g4, g5⟩ := rows_sym (k2.below hbw) hx
        dsimp only at g0 g1 g2 g3 g4 g5
        have hsym0 := fun w' (hw : ObjAt w' (.agg #[s1, .slice (some ⟨b, of, none⟩) o.syms.length c2, s3, s4, s5]) o) => rsym_c hw hs hn1 _ hxR
        dsimp only at hsym0
        have hnm0 := fun w' => is_name (w := w') xn hxR.2.2.2.2.2
        unfold NmR at hnm0
        have hxH := Lib.hid hx
        have hno := Lib.hid (fun (hf : ¬ SymOk o.secs ⟨xn, xs, xv, xz, xb, xk⟩) => show r = false by rw [hrr.out]; exact dec_no fun h => hf (h.2.1 _ (List.mem_of_getElem? hx)))
        clear hx hs
        have hOd : ObjAt wr.drew _ o := hO.below (Below.refl _ _).drew
        by_cases c1 : NameOk xn
        · have hnm := fun (W : World) => (hnm0 W).mono (fun e w' hh => (⟨by rw [hh.1]; unfold nameV; rw [@decide_eq_true _ (Classical.propDecidable _) c1], hh.2⟩ : e = .returned (.bool true) ∧ w' = W))
          clear hnm0
          by_cases cB : SymB o.secs ⟨xn, xs, xv, xz, xb, xk⟩
          · have hsym := fun w' hw => (hsym0 w' hw).mono (fun e w2 hh => (⟨by rw [hh.1, dec_yes cB], hh.2⟩ : e = .returned (.bool true) ∧ Below w'.heap.size w' w2))
            have hok := Lib.hid (show SymOk o.secs ⟨xn, xs, xv, xz, xb, xk⟩ from ⟨c1, cB.1, cB.2.1, cB.2.2⟩)
            clear hsym0 c1 cB hno
            go_wp2_with fail
            go_region_held3 (fun w' => w'.cell? ⟨w.heap.size, 0, none⟩ = some s1 ∧ w'.cell? ⟨w.heap.size, 1, none⟩ = some (.slice (some ⟨b, of, none⟩) o.syms.length c2) ∧ w'.cell? ⟨w.heap.size, 2, none⟩ = some s3 ∧ w'.cell? ⟨w.heap.size, 3, none⟩ = some s4 ∧ w'.cell? ⟨w.heap.size, 4, none⟩ = some s5 ∧
              w'.cell? ⟨b, of + k * 6, none⟩ = some (.string xn) ∧ w'.cell? ⟨b, of + k * 6 + 1, none⟩ = some (.int .i64 xs) ∧ w'.cell? ⟨b, of + k * 6 + 2, none⟩ = some (.int .u32 xv) ∧ w'.cell? ⟨b, of + k * 6 + 3, none⟩ = some (.int .i64 xz) ∧ w'.cell? ⟨b, of + k * 6 + 4, none⟩ = some (.int .i64 xb) ∧ w'.cell? ⟨b, of + k * 6 + 5, none⟩ = some (.int .i64 xk))
            (first
              | go_keep
              | (go_split_ands
                 refine ⟨?_, ?_, ?_, ?_, ?_, ?_, ?_, ?_, ?_, ?_, ?_⟩ <;> (rw [hb2.cell (low_of_cell (by assumption))]; assumption)))
            (first
              | (go_simp; go_at_call 218; refine (hnm _).mono ?_; rintro e w2 ⟨rfl, rfl⟩)
              | (go_simp; go_at_call 219; refine (hsym _ (by assumption)).mono ?_; rintro e w2 ⟨rfl, hb2⟩))
            all_goals go_wp2
            have hbl2 := bel_then hbl.drew (Nat.le_refl _) (hb2.mono (by have := hbl.size; simpa using this))
            clear hb2 hbl b0 b1 b2 b3 b4 g0 g1 g2 g3 g4 g5 hO hOd hsym hnm hbw
            obtain ⟨wo, rfl⟩ : ∃ wo : World, wo = wr := ⟨_, rfl⟩
            obtain ⟨gO, rfl⟩ : ∃ gO : Nat, gO = gk := ⟨_, rfl⟩
            go_loopg [4] k (fun gn i wr => ∃ j : Nat, gn + j = k ∧ j ≤ k ∧ i = .int .i64 j ∧ Below (w.alloc (.cells #[s1, .slice (some ⟨b, of, none⟩) o.syms.length c2, s3, s4, s5] 28)).heap.size (w.alloc (.cells #[s1, .slice (some ⟨b, of, none⟩) o.syms.length c2, s3, s4, s5] 28)) wr ∧ (∀ j' y, j' < j → o.syms[j']? = some y → y.name ≠ xn))
            case atStart => exact ⟨0, by omega, by omega, rfl, hbl2, fun j' y hj' => by omega⟩
            case round =>
              obtain ⟨j, hgj, hj, rfl, hbj, hD0⟩ := hrel
              have hD := Lib.hid hD0
              clear hD0
              have hbw := bel_then (z1 _) (Nat.le_refl _) hbj
              have b1 := (hbj.cell (p := ⟨w.heap.size, 1, none⟩) (by simp)).trans (new_cell w _ 28 1 _ rfl)
              by_cases hjk : j < k
              · obtain ⟨⟨yn, ys, yv, yz, yb, yk⟩, hy⟩ : ∃ y, o.syms[j]? = some y := ⟨o.syms[j], by simp [Nat.lt_trans hjk hlt]⟩
                obtain ⟨p0, _, _, _, _, _⟩ := rows_sym (k2.below hbw) hy
                obtain ⟨q0, _, _, _, _, _⟩ := rows_sym (k2.below hbw) hxH.out
                dsimp only at p0 q0
                have hj' : (j : Int) < (o.syms.length : Int) := by omega
                have hyH := Lib.hid hy
                clear hy
                by_cases e : yn = xn
                · have hf := Lib.hid (show r = false by rw [hrr.out]; exact dec_no fun h => ynames_not hxH.out hyH.out e hjk h.2.2)
                  subst e
                  go_wp2
                  go_quiet (fail)
                  go_wp2
                  go_ret
                  exact ⟨by rw [hf.out]; rfl, below_drewN hbw _⟩
                · have e2 := bytes_ne e
                  have eH := Lib.hid e
                  go_wp2
                  go_quiet (fail)
                  go_wp2
                  go_roundg (gk - 1)
                  case measure => omega
                  case rel =>
                    refine ⟨j + 1, by omega, by omega, by go_num, below_drewN hbj _, fun j' z hj' hz => ?_⟩
                    by_cases e' : j' < j
                    · exact hD.out j' z e' hz
                    · obtain rfl : j' = j := by omega
                      rw [hyH.out] at hz
                      cases hz
                      exact eH.out
              · obtain rfl : j = k := by omega
                have hN2 := Lib.hid (ynames_snoc hxH.out hNd.out hD.out)
                have hA2 := Lib.hid (show ∀ j' z, j' < j + 1 → o.syms[j']? = some z → SymOk o.secs z from fun j' z hj' hz => by
                  by_cases e' : j' < j
                  · exact hA.out j' z e' hz
                  · obtain rfl : j' = j := by omega
                    rw [hxH.out] at hz
                    cases hz
                    exact hok.out)
                go_wp2
                go_roundg (gO - 1)
                case measure => omega
                case rel => exact ⟨j + 1, by omega, by omega, by go_num, hbj, hA2.out, hN2.out⟩
          · have hsym := fun w' hw => (hsym0 w' hw).mono (fun e w2 hh => (⟨by rw [hh.1, dec_no cB], hh.2⟩ : e = .returned (.bool false) ∧ Below w'.heap.size w' w2))
            have hf := Lib.hid (hno.out (fun h => cB ⟨h.2.1, h.2.2.1, h.2.2.2⟩))
            clear hsym0 c1 cB hno
            go_wp2_with fail
            go_region_held3 (fun w' => w'.cell? ⟨w.heap.size, 0, none⟩ = some s1 ∧ w'.cell? ⟨w.heap.size, 1, none⟩ = some (.slice (some ⟨b, of, none⟩) o.syms.length c2) ∧ w'.cell? ⟨w.heap.size, 2, none⟩ = some s3 ∧ w'.cell? ⟨w.heap.size, 3, none⟩ = some s4 ∧ w'.cell? ⟨w.heap.size, 4, none⟩ = some s5 ∧
              w'.cell? ⟨b, of + k * 6, none⟩ = some (.string xn) ∧ w'.cell? ⟨b, of + k * 6 + 1, none⟩ = some (.int .i64 xs) ∧ w'.cell? ⟨b, of + k * 6 + 2, none⟩ = some (.int .u32 xv) ∧ w'.cell? ⟨b, of + k * 6 + 3, none⟩ = some (.int .i64 xz) ∧ w'.cell? ⟨b, of + k * 6 + 4, none⟩ = some (.int .i64 xb) ∧ w'.cell? ⟨b, of + k * 6 + 5, none⟩ = some (.int .i64 xk))
            (first
              | go_keep
              | (go_split_ands
                 refine ⟨?_, ?_, ?_, ?_, ?_, ?_, ?_, ?_, ?_, ?_, ?_⟩ <;> (rw [hb2.cell (low_of_cell (by assumption))]; assumption)))
            (first
              | (go_simp; go_at_call 218; refine (hnm _).mono ?_; rintro e w2 ⟨rfl, rfl⟩)
              | (go_simp; go_at_call 219; refine (hsym _ (by assumption)).mono ?_; rintro e w2 ⟨rfl, hb2⟩))
            all_goals go_wp2
            go_ret
            exact ⟨by rw [hf.out]; rfl, bel_then hbw.drew (Nat.le_refl _) hb2⟩
        · have hnm := fun (W : World) => (hnm0 W).mono (fun e w' hh => (⟨by rw [hh.1]; unfold nameV; rw [@decide_eq_false _ (Classical.propDecidable _) c1], hh.2⟩ : e = .returned (.bool false) ∧ w' = W))
          have hf := Lib.hid (hno.out (fun h => c1 h.1))
          clear hnm0 hsym0 c1 hno
          go_wp2_with fail
          go_quiet (exact Calls.quiet_of_same (hnm _))
          go_wp2
          go_ret
          exact ⟨by rw [hf.out]; rfl, below_drewN hbw _⟩
      · obtain rfl : k = o.syms.length := by omega
        have hres := Lib.hid (show r = true by
          rw [hrr.out]
          have hN2 := hNd.out
          rw [List.take_length] at hN2
          refine dec_yes ⟨h500, fun x hx => ?_, hN2⟩
          obtain ⟨j, hj⟩ := List.getElem?_of_mem hx
          exact hA.out j x (List.getElem?_eq_some_iff.1 hj).1 hj)
        go_wp2
        go_ret
        exact ⟨by rw [hres.out]; rfl, hbw⟩
  · have h500' : ¬ (o.syms.length : Int) ≤ 500 := by omega
    have hf := Lib.hid (show r = false by rw [hrr.out]; exact dec_no fun h => h500 h.1)
    go_enter Tryz.func136, Tryz.ntmps136
    go_wp2
    go_ret
    exact ⟨by rw [hf.out]; rfl, z1 _⟩
end Go.Ev

