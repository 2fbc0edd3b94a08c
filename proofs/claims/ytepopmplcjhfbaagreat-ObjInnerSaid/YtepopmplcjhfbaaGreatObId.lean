import Derived.Test.YtepopmplcjhfbaaGreatObIc
import Derived.Test.YtepopmplcjhfbaaGreatObSane
import Derived.Shelf.Abstract
import Derived.Laws.EntriesVeiled
set_option linter.unusedSectionVars false
set_option linter.unusedVariables false
set_option linter.unusedSimpArgs false
set_option linter.unnecessarySimpa false
/-
  Stage 3: ObjInner's law.
-/
namespace Go.Ev
open Go.RowKit Go.Proofs Go.Rw
def TrueN (w : World) (e : Ending) (w' : World) : Prop := e = .returned (.bool true) ∧ Below w.heap.size w w'
theorem enters47 : ∀ args w, (callFunc 47 args).run Tryz.prog w = .ok (.enter 47 args) w := enters_of Tryz.func47 (by kernel_rfl) rfl
theorem enters49 : ∀ args w, (callFunc 49 args).run Tryz.prog w = .ok (.enter 49 args) w := enters_of Tryz.func49 (by kernel_rfl) rfl
set_option maxRecDepth 100000 in
set_option maxHeartbeats 4000000 in
theorem inner_calls {w : World} {v : Value} {o : ObjT} (h : ObjAt w v o) (hR : o.R) {sec off : Int} (hs : inI64 sec) (ho : inI64 off) : Calls Tryz.prog 11 #[v, .int .i64 sec, .int .i64 off] w (TrueN w) := by
  obtain ⟨s1, s2, s3, s4, s5, rfl, k1, k2, k3, k4, k5⟩ := id h
  obtain ⟨a2, c2, rfl⟩ := rows_slice k2
  obtain ⟨hR1, hR2, -, -, -, hn1, hn2, -, -, -⟩ := id hR
  obtain ⟨A, hA⟩ : ∃ A : Obj, A = .cells #[s1, .slice a2 o.syms.length c2, s3, s4, s5] 28 := ⟨_, rfl⟩
  obtain ⟨W0, hW0⟩ : ∃ W0 : World, W0 = ((w.alloc A).alloc (.cells #[.int .i64 sec] 3)).alloc (.cells #[.int .i64 off] 3) := ⟨_, rfl⟩
  have z0 : Below w.heap.size w W0 := by
    rw [hW0]
    exact (((Below.refl w.heap.size w).alloc (Nat.le_refl _) A).alloc (by simp) _).alloc (by simp; omega) _
  have zs : W0.heap.size = w.heap.size + 3 := by rw [hW0]; simp
  have q0 : ∀ i u, (#[s1, .slice a2 o.syms.length c2, s3, s4, s5] : Array Value)[i]? = some u → W0.cell? ⟨w.heap.size, i, none⟩ = some u := fun i u hu => by
    rw [hW0, World.cell?_alloc_lt _ _ _ (by simp only [World.size_alloc]; omega), World.cell?_alloc_lt _ _ _ (by simp only [World.size_alloc]; omega), hA]
    exact new_cell w _ 28 i u hu
  have q1 : W0.cell? ⟨w.heap.size + 1, 0, none⟩ = some (.int .i64 sec) := by
    rw [hW0, World.cell?_alloc_lt _ _ _ (by simp only [World.size_alloc]; omega)]
    have := new_cell (w.alloc A) #[.int .i64 sec] 3 0 _ rfl
    rwa [World.size_alloc] at this
  have q2 : W0.cell? ⟨w.heap.size + 2, 0, none⟩ = some (.int .i64 off) := by
    rw [hW0]
    have := new_cell ((w.alloc A).alloc (.cells #[.int .i64 sec] 3)) #[.int .i64 off] 3 0 _ rfl
    rwa [World.size_alloc, World.size_alloc] at this
  have bx : ∀ wr, Below W0.heap.size W0 wr → wr.cell? ⟨w.heap.size, 0, none⟩ = some s1 ∧ wr.cell? ⟨w.heap.size, 1, none⟩ = some (.slice a2 o.syms.length c2) ∧ wr.cell? ⟨w.heap.size, 2, none⟩ = some s3 ∧ wr.cell? ⟨w.heap.size, 3, none⟩ = some s4 ∧ wr.cell? ⟨w.heap.size, 4, none⟩ = some s5 ∧ wr.cell? ⟨w.heap.size + 1, 0, none⟩ = some (.int .i64 sec) ∧ wr.cell? ⟨w.heap.size + 2, 0, none⟩ = some (.int .i64 off) := fun wr hb =>
    ⟨(hb.cell (p := ⟨w.heap.size, 0, none⟩) (by simp; omega)).trans (q0 0 _ rfl), (hb.cell (p := ⟨w.heap.size, 1, none⟩) (by simp; omega)).trans (q0 1 _ rfl), (hb.cell (p := ⟨w.heap.size, 2, none⟩) (by simp; omega)).trans (q0 2 _ rfl), (hb.cell (p := ⟨w.heap.size, 3, none⟩) (by simp; omega)).trans (q0 3 _ rfl), (hb.cell (p := ⟨w.heap.size, 4, none⟩) (by simp; omega)).trans (q0 4 _ rfl),
      (hb.cell (p := ⟨w.heap.size + 1, 0, none⟩) (by simp; omega)).trans q1, (hb.cell (p := ⟨w.heap.size + 2, 0, none⟩) (by simp; omega)).trans q2⟩
  clear q0 q1 q2
  go_enter Tryz.func11, Tryz.ntmps11
  go_wp2_with fail
  rw [← hA, ← hW0]
  have hW0 := Lib.hid hW0
  refine (sane_calls _).mono ?_
  rintro e w1 ⟨rfl, hb1⟩
  have hbw := bel_then z0 (by omega) hb1
  obtain ⟨b0, b1, b2, b3, b4, b5, b6⟩ := bx _ hb1
  go_wp2_with fail
  refine (small_b (h.below hbw) hR).mono ?_
  rintro e w2 ⟨r, rfl, hb2⟩
  have hb1 := bel_then hb1 (Nat.le_refl _) hb2
  clear hb2 hbw b0 b1 b2 b3 b4 b5 b6
  have hbw := bel_then z0 (by omega) hb1
  obtain ⟨b0, b1, b2, b3, b4, b5, b6⟩ := bx _ hb1
  cases r
  · go_wp2
    go_ret
    exact ⟨rfl, hbw⟩
  go_wp2_with fail
  refine (is_b (h.below hbw) hR).mono ?_
  rintro e w3 ⟨r, rfl, hb2, hok⟩
  have hb1 := bel_then hb1 (Nat.le_refl _) hb2
  clear hb2 hbw b0 b1 b2 b3 b4 b5 b6
  have hbw := bel_then z0 (by omega) hb1
  obtain ⟨b0, b1, b2, b3, b4, b5, b6⟩ := bx _ hb1
  cases r
  · go_wp2
    go_ret
    exact ⟨rfl, hbw⟩
  have hok2 := Lib.hid (hok rfl)
  clear hok
  have hB := hbw.size
  have hB0 : W0.heap.size ≤ w3.heap.size := hb1.size
  have e0 := fun o => (World.cell?_alloc_lt w3 o _ (low_of_cell b0)).trans b0
  have e1 := fun o => (World.cell?_alloc_lt w3 o _ (low_of_cell b1)).trans b1
  have e2 := fun o => (World.cell?_alloc_lt w3 o _ (low_of_cell b2)).trans b2
  have e3 := fun o => (World.cell?_alloc_lt w3 o _ (low_of_cell b3)).trans b3
  have e4 := fun o => (World.cell?_alloc_lt w3 o _ (low_of_cell b4)).trans b4
  have e5 := fun o => (World.cell?_alloc_lt w3 o _ (low_of_cell b5)).trans b5
  have e6 := fun o => (World.cell?_alloc_lt w3 o _ (low_of_cell b6)).trans b6
  go_wp2_with fail
  refine (symbolAt_c (h.below (hbw.alloc hB _)) hR hok2.out hs ho).mono ?_
  rintro e w4 ⟨best, fd, rfl, hb4, hI⟩
  have hF := (hb4.cell (p := ⟨w3.heap.size, 0, none⟩) (by simp)).trans (new_cell w3 _ 69 0 _ rfl)
  have hb3 := bel_then (hb1.alloc hB0 _) (Nat.le_refl _) hb4
  clear hb4 hbw b0 b1 b2 b3 b4 b5 b6 e0 e1 e2 e3 e4 e5 e6 hb1
  have hbw := bel_then z0 (by omega) hb3
  obtain ⟨b0, b1, b2, b3, b4, b5, b6⟩ := bx _ hb3
  have hc47 := fun W (hW : Below w4.heap.size w4 W) x hx => closure47 (W := W) (B1 := w.heap.size + 1) (B2 := w.heap.size + 2) x (hR2 x hx) sec off hs ho ((hW.cell (low_of_cell b5)).trans b5) ((hW.cell (low_of_cell b6)).trans b6)
  have hI := Lib.hid hI
  cases fd
  · obtain ⟨rfl, hno⟩ : best = 0 ∧ ∀ x ∈ o.syms, ¬ hit sec off x := by
      rcases hI.out with ⟨_, h0, h1⟩ | ⟨h1, _⟩
      · exact ⟨h0, fun x hx => by
          obtain ⟨j, hj⟩ := List.getElem?_of_mem hx
          exact h1 j (List.getElem?_eq_some_iff.1 hj).1 x hj⟩
      · cases h1
    have hno := Lib.hid hno
    go_wp2_with fail
    refine (contains_no (k2.below hbw) hn2 47 _ enters47 (fun W hW x hx => by
      have := hc47 W hW x hx
      rw [decide_eq_false (hno.out x hx)] at this
      exact this)).mono ?_
    rintro e w5 ⟨rfl, hb5⟩
    have hbw := bel_then hbw (Nat.le_refl _) hb5
    go_wp2
    go_ret
    exact ⟨rfl, hbw⟩
  · obtain ⟨y, hbk, hy, hyh, hyn⟩ : ∃ y, best < o.syms.length ∧ o.syms[best]? = some y ∧ hit sec off y ∧ ∀ x ∈ o.syms, ¬ (hit sec off x ∧ near x y) := by
      rcases hI.out with ⟨h1, _⟩ | ⟨_, h0, y, h1, h2, h3⟩
      · cases h1
      · exact ⟨y, h0, h1, h2, fun x hx hh => by
          obtain ⟨j, hj⟩ := List.getElem?_of_mem hx
          exact h3 j (List.getElem?_eq_some_iff.1 hj).1 x hj hh.1 hh.2⟩
    have hyn := Lib.hid hyn
    have hyh := Lib.hid hyh
    have hyR := hR2 _ (List.mem_of_getElem? hy)
    have hbk' : (best : Int) < (o.syms.length : Int) := by omega
    have hd0 : decide ((best : Int) < 0) = false := decide_eq_false (by omega)
    have hd1 : decide ((o.syms.length : Int) ≤ (best : Int)) = false := decide_eq_false (by omega)
    have hd2 : decide (o.syms.length ≤ best) = false := decide_eq_false (by omega)
    obtain ⟨b, of, rfl⟩ := rows_some2 k2 hbk
    obtain ⟨g0, g1, g2, g3, g4, g5⟩ := rows_sym (k2.below hbw) hy
    have hcy := fun W hW => hc47 W hW y (List.mem_of_getElem? hy)
    simp only [decide_eq_true hyh.out] at hcy
    have hy := Lib.hid hy
    obtain ⟨yn, ys, yv, yz, yb, yk⟩ := y
    dsimp only [SymT.v] at g0 g1 g2 g3 g4 g5 hcy
    have r0 := fun d os => cell_regrown g0 d os
    have r1 := fun d os => cell_regrown g1 d os
    have r2 := fun d os => cell_regrown g2 d os
    have r3 := fun d os => cell_regrown g3 d os
    have r4 := fun d os => cell_regrown g4 d os
    have r5 := fun d os => cell_regrown g5 d os
    have t1 := fun d os => cell_regrown b1 d os
    have tF := fun d os => cell_regrown hF d os
    go_wp2_with fail
    refine wp_region_quiet_below (by kernel_rfl) (by kernel_rfl) ?_
    repeat (go_big_quiet_step (exact Calls.regrown_of (hcy _ (below_regrown _ _ _))))
    refine wpQuiet_nil ?_
    intro _ hw'
    obtain ⟨⟨dq, osq⟩, hw''⟩ := hw'
    subst hw''
    have hb5 := below_regrown w4 dq osq
    generalize hw5 : Go.Sort.grow (redrawn w4 dq) osq = w5 at *
    clear hw5
    have hbw := bel_then hbw (Nat.le_refl _) hb5
    have hb3 := bel_then hb3 (Nat.le_refl _) hb5
    have hF := (hb5.cell (low_of_cell hF)).trans hF
    clear hcy hc47 r0 r1 r2 r3 r4 r5 t1 tF b0 b1 b2 b3 b4 b5 b6 g0 g1 g2 g3 g4 g5
    obtain ⟨b0, b1, b2, b3, b4, b5, b6⟩ := bx _ hb3
    obtain ⟨g0, g1, g2, g3, g4, g5⟩ := rows_sym (k2.below hbw) hy.out
    dsimp only at g0 g1 g2 g3 g4 g5
    have hB5 := hbw.size
    have f1 := fun o => (World.cell?_alloc_lt w5 o _ (low_of_cell b1)).trans b1
    have f5 := fun o => (World.cell?_alloc_lt w5 o _ (low_of_cell b5)).trans b5
    have f6 := fun o => (World.cell?_alloc_lt w5 o _ (low_of_cell b6)).trans b6
    have fF := fun o => (World.cell?_alloc_lt w5 o _ (low_of_cell hF)).trans hF
    have y2 := new_cell w5 #[.string yn, .int .i64 ys, .int .u32 yv, .int .i64 yz, .int .i64 yb, .int .i64 yk] 68 2 _ rfl
    have y3 := new_cell w5 #[.string yn, .int .i64 ys, .int .u32 yv, .int .i64 yz, .int .i64 yb, .int .i64 yk] 68 3 _ rfl
    go_wp2_with fail
    refine (contains_no (k2.below (hbw.alloc hB5 _)) hn2 49 _ enters49 (fun W hW x hx => by
      have := closure49 (W := W) (B1 := w.heap.size + 1) (B2 := w.heap.size + 2) (B3 := w3.heap.size) (B4 := w5.heap.size) x ⟨yn, ys, yv, yz, yb, yk⟩ (hR2 x hx) hyR sec off hs ho
        ((hW.cell (low_of_cell (f5 _))).trans (f5 _)) ((hW.cell (low_of_cell (f6 _))).trans (f6 _)) ((hW.cell (low_of_cell (fF _))).trans (fF _)) ((hW.cell (low_of_cell y2)).trans y2) ((hW.cell (low_of_cell y3)).trans y3)
      rw [decide_eq_false (hyn.out x hx)] at this
      exact this)).mono ?_
    rintro e w6 ⟨rfl, hb6⟩
    have hbw := bel_then (hbw.alloc hB5 _) (Nat.le_refl _) hb6
    go_wp2
    go_ret
    exact ⟨rfl, hbw⟩
end Go.Ev
