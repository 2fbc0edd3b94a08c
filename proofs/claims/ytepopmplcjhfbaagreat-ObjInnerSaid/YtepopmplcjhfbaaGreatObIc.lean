import Derived.Test.YtepopmplcjhfbaaGreatObIb
set_option linter.unusedSectionVars false
set_option linter.unusedVariables false
set_option linter.unusedSimpArgs false
set_option linter.unnecessarySimpa false
/-
  Stage 3: the program's SymbolAt.
-/
namespace Go.Ev
open Go.RowKit Go.Proofs Go.Rw
/-- What the first k symbols have led to. -/
def SbI (l : List SymT) (sec off : Int) (k best : Nat) (fd : Bool) : Prop :=
  (fd = false ∧ best = 0 ∧ ∀ i, i < k → ∀ s, l[i]? = some s → ¬ hit sec off s) ∨
  (fd = true ∧ best < k ∧ ∃ y, l[best]? = some y ∧ hit sec off y ∧ ∀ i, i < k → ∀ s, l[i]? = some s → hit sec off s → ¬ near s y)
theorem sbI_start (l : List SymT) (sec off : Int) : SbI l sec off 0 0 false := .inl ⟨rfl, rfl, fun i h => by omega⟩
theorem sbI_none {l : List SymT} {sec off : Int} (h : ∀ s ∈ l, ¬ hit sec off s) : SbI l sec off l.length 0 false := .inl ⟨rfl, rfl, fun _ _ s hs => h s (List.mem_of_getElem? hs)⟩
theorem sbI_keep {l : List SymT} {sec off : Int} {k best : Nat} {fd : Bool} {x : SymT} (h : SbI l sec off k best fd) (hx : l[k]? = some x) (hn : ¬ hit sec off x) : SbI l sec off (k + 1) best fd := by
  rcases h with ⟨h1, h2, h3⟩ | ⟨h1, h2, y, h3, h4, h5⟩
  · refine .inl ⟨h1, h2, fun i hi s hs => ?_⟩
    by_cases hik : i < k
    · exact h3 i hik s hs
    · obtain rfl : i = k := by omega
      rw [hx] at hs; cases hs; exact hn
  · refine .inr ⟨h1, by omega, y, h3, h4, fun i hi s hs hh => ?_⟩
    by_cases hik : i < k
    · exact h5 i hik s hs hh
    · obtain rfl : i = k := by omega
      rw [hx] at hs; cases hs; exact absurd hh hn
theorem near_irrefl (x : SymT) : ¬ near x x := by unfold near; omega
theorem sbI_first {l : List SymT} {sec off : Int} {k best : Nat} {x : SymT} (h : SbI l sec off k best false) (hx : l[k]? = some x) (hh : hit sec off x) : SbI l sec off (k + 1) k true := by
  rcases h with ⟨_, h2, h3⟩ | ⟨h1, _⟩
  · refine .inr ⟨rfl, by omega, x, hx, hh, fun i hi s hs hs' => ?_⟩
    by_cases hik : i < k
    · exact absurd hs' (h3 i hik s hs)
    · obtain rfl : i = k := by omega
      rw [hx] at hs; cases hs; exact near_irrefl _
  · cases h1
theorem sbI_near {l : List SymT} {sec off : Int} {k best : Nat} {x y : SymT} (h : SbI l sec off k best true) (hx : l[k]? = some x) (hy : l[best]? = some y) (hh : hit sec off x) (hn : near x y) : SbI l sec off (k + 1) k true := by
  rcases h with ⟨h1, _⟩ | ⟨_, h2, y', h3, h4, h5⟩
  · cases h1
  · rw [hy] at h3; cases h3
    refine .inr ⟨rfl, by omega, x, hx, hh, fun i hi s hs hs' => ?_⟩
    by_cases hik : i < k
    · have := h5 i hik s hs hs'
      unfold near at *
      omega
    · obtain rfl : i = k := by omega
      rw [hx] at hs; cases hs; exact near_irrefl _
theorem sbI_far {l : List SymT} {sec off : Int} {k best : Nat} {x y : SymT} (h : SbI l sec off k best true) (hx : l[k]? = some x) (hy : l[best]? = some y) (hn : ¬ near x y) : SbI l sec off (k + 1) best true := by
  rcases h with ⟨h1, _⟩ | ⟨_, h2, y', h3, h4, h5⟩
  · cases h1
  · rw [hy] at h3; cases h3
    refine .inr ⟨rfl, by omega, y, hy, h4, fun i hi s hs hs' => ?_⟩
    by_cases hik : i < k
    · exact h5 i hik s hs hs'
    · obtain rfl : i = k := by omega
      rw [hx] at hs; cases hs; exact hn
def SaR (l : List SymT) (sec off : Int) (w : World) (e : Ending) (w' : World) : Prop := ∃ (best : Nat) (fd : Bool), e = .returned (.tuple #[.int .i64 best, .bool fd]) ∧ Below w.heap.size w w' ∧ SbI l sec off l.length best fd
theorem isIndex_no {w : World} (i : Int) (a : Option Addr) (n c : Nat) (h : i < 0 ∨ (n : Int) ≤ i) : Calls Tryz.prog 107 #[.int .i64 i, .slice a n c] w fun e w' => e = .returned (.bool false) ∧ w' = w := by
  go_enter Tryz.func107, Tryz.ntmps107
  by_cases h0 : i < 0
  · go_wp2
    go_ret
    exact ⟨rfl, rfl⟩
  · have h1 : (n : Int) ≤ i := by omega
    have hd : decide (i < (n : Int)) = false := decide_eq_false (by omega)
    go_wp2
    go_ret
    exact ⟨rfl, rfl⟩
set_option maxRecDepth 100000 in
set_option maxHeartbeats 4000000 in
theorem symbolAt_c {w : World} {v : Value} {o : ObjT} (h : ObjAt w v o) (hR : o.R) (hK : o.Ok) {sec off : Int} (hs : inI64 sec) (ho : inI64 off) : Calls Tryz.prog 35 #[v, .int .i64 sec, .int .i64 off] w (SaR o.syms sec off w) := by
  obtain ⟨s1, s2, s3, s4, s5, rfl, k1, k2, k3, k4, k5⟩ := id h
  obtain ⟨a1, c1, rfl⟩ := rows_slice k1
  obtain ⟨a2, c2, rfl⟩ := rows_slice k2
  obtain ⟨hR1, hR2, -, -, -, hn1, hn2, -, -, -⟩ := id hR
  have z1 : ∀ A, Below w.heap.size w (w.alloc A) := fun A => (Below.refl w.heap.size w).alloc (Nat.le_refl _) A
  obtain ⟨A, hA⟩ : ∃ A : Obj, A = .cells #[.slice a1 o.secs.length c1, .slice a2 o.syms.length c2, s3, s4, s5] 28 := ⟨_, rfl⟩
  have bx : ∀ wr, Below (w.alloc A).heap.size (w.alloc A) wr → wr.cell? ⟨w.heap.size, 0, none⟩ = some (.slice a1 o.secs.length c1) ∧ wr.cell? ⟨w.heap.size, 1, none⟩ = some (.slice a2 o.syms.length c2) := fun wr hb => by
    subst hA
    exact ⟨(hb.cell (p := ⟨w.heap.size, 0, none⟩) (by simp)).trans (new_cell w _ 28 0 _ rfl), (hb.cell (p := ⟨w.heap.size, 1, none⟩) (by simp)).trans (new_cell w _ 28 1 _ rfl)⟩
  by_cases hin : 0 ≤ sec ∧ sec < (o.secs.length : Int)
  · obtain ⟨hin0, hin1⟩ := hin
    go_enter Tryz.func35, Tryz.ntmps35
    go_wp2_with fail
    refine (isIndex_c _ _ _ _ hin0 hin1).mono ?_
    rintro e w1 ⟨rfl, rfl⟩
    rw [← hA]
    obtain ⟨b0, b1⟩ := bx _ (Below.refl _ _)
    go_wp2_with fail
    go_loopw [20, 8, 9] (fun i b f wr => ∃ (k best : Nat) (fd : Bool), k ≤ o.syms.length ∧ i = .int .i64 k ∧ b = .int .i64 best ∧ f = .bool fd ∧ Below (w.alloc A).heap.size (w.alloc A) wr ∧ SbI o.syms sec off k best fd) (fun i _ _ _ => o.syms.length - (intOf i).toNat)
    case atStart => exact ⟨0, 0, false, by omega, rfl, rfl, rfl, by subst hA; exact Below.refl _ _, sbI_start _ _ _⟩
    case round =>
      obtain ⟨k, best, fd, hk, rfl, rfl, rfl, hbl, hI⟩ := hrel
      clear b0 b1
      have hI := Lib.hid hI
      have hbw := bel_then (z1 A) (Nat.le_refl _) hbl
      obtain ⟨b0, b1⟩ := bx _ hbl
      by_cases hlt : k < o.syms.length
      · obtain ⟨b, of, rfl⟩ := rows_some2 k2 hlt
        obtain ⟨x, hx⟩ : ∃ x, o.syms[k]? = some x := ⟨o.syms[k], by simp [hlt]⟩
        have hxR := hR2 _ (List.mem_of_getElem? hx)
        have hb1 := hbl
        obtain ⟨g0, g1, g2, g3, g4, g5⟩ := rows_sym (k2.below hbw) hx
        have hlt' : (k : Int) < (o.syms.length : Int) := by omega
        have hx := Lib.hid hx
        have hB := hbw.size
        have hB4 : (w.alloc A).heap.size ≤ wr.heap.size := hbl.size
        have e1 := fun o => (World.cell?_alloc_lt wr o _ (low_of_cell b1)).trans b1
        have hcov := fun w => covers_c (w := w) x hxR off ho
        obtain ⟨xn, xs, xv, xz, xb, xk⟩ := x
        dsimp only [SymT.v] at g0 g1 g2 g3 g4 g5 hcov
        obtain ⟨X, hX⟩ : ∃ X : Array Value, X = #[.string xn, .int .i64 xs, .int .u32 xv, .int .i64 xz, .int .i64 xb, .int .i64 xk] := ⟨_, rfl⟩
        have x0 := fun d os => cell_regrown (new_cell wr #[.string xn, .int .i64 xs, .int .u32 xv, .int .i64 xz, .int .i64 xb, .int .i64 xk] 68 0 _ rfl) d os
        have x1 := fun d os => cell_regrown (new_cell wr #[.string xn, .int .i64 xs, .int .u32 xv, .int .i64 xz, .int .i64 xb, .int .i64 xk] 68 1 _ rfl) d os
        have x2 := fun d os => cell_regrown (new_cell wr #[.string xn, .int .i64 xs, .int .u32 xv, .int .i64 xz, .int .i64 xb, .int .i64 xk] 68 2 _ rfl) d os
        have x3 := fun d os => cell_regrown (new_cell wr #[.string xn, .int .i64 xs, .int .u32 xv, .int .i64 xz, .int .i64 xb, .int .i64 xk] 68 3 _ rfl) d os
        have x4 := fun d os => cell_regrown (new_cell wr #[.string xn, .int .i64 xs, .int .u32 xv, .int .i64 xz, .int .i64 xb, .int .i64 xk] 68 4 _ rfl) d os
        have x5 := fun d os => cell_regrown (new_cell wr #[.string xn, .int .i64 xs, .int .u32 xv, .int .i64 xz, .int .i64 xb, .int .i64 xk] 68 5 _ rfl) d os
        have y1 := fun d os => cell_regrown (e1 (.cells #[.string xn, .int .i64 xs, .int .u32 xv, .int .i64 xz, .int .i64 xb, .int .i64 xk] 68)) d os
        clear e1
        by_cases hs1 : xs = sec
        · subst hs1
          by_cases hc : covS off ⟨xn, xs, xv, xz, xb, xk⟩
          · rw [decide_eq_true hc] at hcov
            cases fd
            · go_wp2_with fail
              refine wp_region_quiet_below (by kernel_rfl) (by kernel_rfl) ?_
              repeat (go_big_quiet_step (exact Calls.regrown_of (hcov _)))
              refine wpQuiet_nil ?_
              intro _ hw'
              obtain ⟨⟨dq, osq⟩, hw''⟩ := hw'
              subst hw''
              have hb2 := below_regrown (wr.alloc (.cells #[.string xn, .int .i64 xs, .int .u32 xv, .int .i64 xz, .int .i64 xb, .int .i64 xk] 68)) dq osq
              go_wp2
              all_goals (go_roundw; (case rel => exact ⟨k + 1, k, true, by omega, by go_num, rfl, rfl, bel_then (hbl.alloc hB4 _) (Nat.le_refl _) hb2, sbI_first hI.out hx.out ⟨hin0, rfl, hc⟩⟩); (case measure => simp [intOf]; omega))
            · obtain ⟨y, hbk, hy⟩ : ∃ y, best < k ∧ o.syms[best]? = some y := by
                rcases hI.out with ⟨h, _⟩ | ⟨_, hbk, y, hy, _⟩
                · cases h
                · exact ⟨y, hbk, hy⟩
              have hbk' : (best : Int) < (o.syms.length : Int) := by omega
              have hyR := hR2 _ (List.mem_of_getElem? hy)
              have hnear := fun w => nearer_c (w := w) ⟨xn, xs, xv, xz, xb, xk⟩ y hxR hyR
              have p0 := fun A => (rows_sym (k2.below (hbw.alloc hB A)) hy).1
              have p1 := fun A => (rows_sym (k2.below (hbw.alloc hB A)) hy).2.1
              have p2 := fun A => (rows_sym (k2.below (hbw.alloc hB A)) hy).2.2.1
              have p3 := fun A => (rows_sym (k2.below (hbw.alloc hB A)) hy).2.2.2.1
              have p4 := fun A => (rows_sym (k2.below (hbw.alloc hB A)) hy).2.2.2.2.1
              have p5 := fun A => (rows_sym (k2.below (hbw.alloc hB A)) hy).2.2.2.2.2
              have u0 := fun d os => cell_regrown (p0 (.cells #[.string xn, .int .i64 xs, .int .u32 xv, .int .i64 xz, .int .i64 xb, .int .i64 xk] 68)) d os
              have u1 := fun d os => cell_regrown (p1 (.cells #[.string xn, .int .i64 xs, .int .u32 xv, .int .i64 xz, .int .i64 xb, .int .i64 xk] 68)) d os
              have u2 := fun d os => cell_regrown (p2 (.cells #[.string xn, .int .i64 xs, .int .u32 xv, .int .i64 xz, .int .i64 xb, .int .i64 xk] 68)) d os
              have u3 := fun d os => cell_regrown (p3 (.cells #[.string xn, .int .i64 xs, .int .u32 xv, .int .i64 xz, .int .i64 xb, .int .i64 xk] 68)) d os
              have u4 := fun d os => cell_regrown (p4 (.cells #[.string xn, .int .i64 xs, .int .u32 xv, .int .i64 xz, .int .i64 xb, .int .i64 xk] 68)) d os
              have u5 := fun d os => cell_regrown (p5 (.cells #[.string xn, .int .i64 xs, .int .u32 xv, .int .i64 xz, .int .i64 xb, .int .i64 xk] 68)) d os
              clear p0 p1 p2 p3 p4 p5
              have hy := Lib.hid hy
              by_cases hn : near ⟨xn, xs, xv, xz, xb, xk⟩ y
              · rw [decide_eq_true hn] at hnear
                have hn := Lib.hid hn
                obtain ⟨yn, ys, yv, yz, yb, yk⟩ := y
                dsimp only [SymT.v] at hnear u0 u1 u2 u3 u4 u5
                go_wp2_with fail
                refine wp_region_quiet_below (by kernel_rfl) (by kernel_rfl) ?_
                repeat (go_big_quiet_step (first | exact Calls.regrown_of (hcov _) | exact Calls.regrown_of (hnear _)))
                refine wpQuiet_nil ?_
                intro _ hw'
                obtain ⟨⟨dq, osq⟩, hw''⟩ := hw'
                subst hw''
                have hb2 := below_regrown (wr.alloc (.cells #[.string xn, .int .i64 xs, .int .u32 xv, .int .i64 xz, .int .i64 xb, .int .i64 xk] 68)) dq osq
                go_wp2
                all_goals (go_roundw; (case rel => exact ⟨k + 1, k, true, by omega, by go_num, rfl, rfl, bel_then (hbl.alloc hB4 _) (Nat.le_refl _) hb2, sbI_near hI.out hx.out hy.out ⟨hin0, rfl, hc⟩ hn.out⟩); (case measure => simp [intOf]; omega))
              · rw [decide_eq_false hn] at hnear
                have hn := Lib.hid hn
                obtain ⟨yn, ys, yv, yz, yb, yk⟩ := y
                dsimp only [SymT.v] at hnear u0 u1 u2 u3 u4 u5
                go_wp2_with fail
                refine wp_region_quiet_below (by kernel_rfl) (by kernel_rfl) ?_
                repeat (go_big_quiet_step (first | exact Calls.regrown_of (hcov _) | exact Calls.regrown_of (hnear _)))
                refine wpQuiet_nil ?_
                intro _ hw'
                obtain ⟨⟨dq, osq⟩, hw''⟩ := hw'
                subst hw''
                have hb2 := below_regrown (wr.alloc (.cells #[.string xn, .int .i64 xs, .int .u32 xv, .int .i64 xz, .int .i64 xb, .int .i64 xk] 68)) dq osq
                go_wp2
                all_goals (go_roundw; (case rel => exact ⟨k + 1, best, true, by omega, by go_num, rfl, rfl, bel_then (hbl.alloc hB4 _) (Nat.le_refl _) hb2, sbI_far hI.out hx.out hy.out hn.out⟩); (case measure => simp [intOf]; omega))
          · rw [decide_eq_false hc] at hcov
            go_wp2_with fail
            refine wp_region_quiet_below (by kernel_rfl) (by kernel_rfl) ?_
            repeat (go_big_quiet_step (exact Calls.regrown_of (hcov _)))
            refine wpQuiet_nil ?_
            intro _ hw'
            obtain ⟨⟨dq, osq⟩, hw''⟩ := hw'
            subst hw''
            have hb2 := below_regrown (wr.alloc (.cells #[.string xn, .int .i64 xs, .int .u32 xv, .int .i64 xz, .int .i64 xb, .int .i64 xk] 68)) dq osq
            go_wp2
            all_goals (go_roundw; (case rel => exact ⟨k + 1, best, fd, by omega, by go_num, rfl, rfl, bel_then (hbl.alloc hB4 _) (Nat.le_refl _) hb2, sbI_keep hI.out hx.out (fun h => hc h.2.2)⟩); (case measure => simp [intOf]; omega))
        · have hs1' : (xs == sec) = false := beq_eq_false_iff_ne.2 hs1
          go_wp2_with fail
          refine wp_region_quiet_below (by kernel_rfl) (by kernel_rfl) ?_
          repeat (go_big_quiet_step (exact Calls.regrown_of (hcov _)))
          refine wpQuiet_nil ?_
          intro _ hw'
          obtain ⟨⟨dq, osq⟩, hw''⟩ := hw'
          subst hw''
          have hb2 := below_regrown (wr.alloc (.cells #[.string xn, .int .i64 xs, .int .u32 xv, .int .i64 xz, .int .i64 xb, .int .i64 xk] 68)) dq osq
          go_wp2
          all_goals (go_roundw; (case rel => exact ⟨k + 1, best, fd, by omega, by go_num, rfl, rfl, bel_then (hbl.alloc hB4 _) (Nat.le_refl _) hb2, sbI_keep hI.out hx.out (fun h => hs1 h.2.1)⟩); (case measure => simp [intOf]; omega))
      · have : k = o.syms.length := by omega
        subst this
        go_wp2
        go_ret2
        exact ⟨_, _, rfl, hbw, hI.out⟩
  · have hno := sbI_none (sec := sec) (off := off) (l := o.syms) fun s hs' hh => hin ⟨hh.1, by have := hK.sym s hs'; have := hh.2.1; omega⟩
    go_enter Tryz.func35, Tryz.ntmps35
    go_wp2_with fail
    refine (isIndex_no _ _ _ _ (by omega)).mono ?_
    rintro e w1 ⟨rfl, rfl⟩
    go_wp2
    go_ret2
    exact ⟨_, _, rfl, z1 _, hno⟩
end Go.Ev
