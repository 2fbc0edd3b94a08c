import Derived.Test.YtepopmplcjhfbaaGreatObLb
import Derived.Test.YtepopmplcjhfbaaGreatObSane
set_option linter.unusedSectionVars false
set_option linter.unusedVariables false
set_option linter.unusedSimpArgs false
set_option linter.unnecessarySimpa false
/-
  Stage 3: ObCovered's law.
-/
namespace Go.Ev
open Go.RowKit Go.Proofs Go.Rw
theorem rem_nat (p : Int) {n : Nat} (h0 : 0 < n) (h1 : n ≤ 140737488421888) : ∃ k : Nat, k < n ∧ wrap64 ((IntKind.u64.wrap p).tmod (n : Int)) = (k : Int) := by
  have hP : 0 ≤ IntKind.u64.wrap p := by
    have : IntKind.u64.wrap p = p % 18446744073709551616 := by simp [IntKind.wrap, IntKind.signed, IntKind.bits]
    omega
  generalize IntKind.u64.wrap p = P at hP
  rw [Int.tmod_eq_emod_of_nonneg hP]
  have h2 := Int.emod_nonneg P (b := (n : Int)) (by omega)
  have h3 := Int.emod_lt_of_pos P (b := (n : Int)) (by omega)
  refine ⟨(P % (n : Int)).toNat, by omega, ?_⟩
  unfold wrap64
  omega
theorem la_zero {x : LineT} {w w' : World} {e : Ending} (h : LaR x w e w') (hx : x.line = 0) : e = .returned (.tuple #[.agg #[.int .i64 0, .int .i64 0, .int .i64 0, .int .i64 0], .bool false]) ∧ Below w.heap.size w w' := by
  obtain ⟨h1, h2⟩ := h
  rw [if_pos hx] at h1
  refine ⟨?_, h2⟩
  rw [h1, hx]
  rfl
theorem la_some {x : LineT} {w w' : World} {e : Ending} (h : LaR x w e w') (hx : x.line ≠ 0) : e = .returned (.tuple #[.agg #[.int .i64 x.sec, .int .i64 x.off, .int .i64 x.file, .int .i64 x.line], .bool true]) ∧ Below w.heap.size w w' := by
  obtain ⟨h1, h2⟩ := h
  rw [if_neg hx] at h1
  refine ⟨?_, h2⟩
  rw [h1]
  simp [hx, LineT.v]
def TrueR (w : World) (e : Ending) (w' : World) : Prop := e = .returned (.bool true) ∧ Below w.heap.size w w'
set_option maxRecDepth 100000 in
set_option maxHeartbeats 4000000 in
theorem covered_calls {w : World} {v : Value} {o : ObjT} (h : ObjAt w v o) (hR : o.R) {p q : Int} (hp : inI64 p) (hq : inI64 q) : Calls Tryz.prog 10 #[v, .int .i64 p, .int .i64 q] w (TrueR w) := by
  obtain ⟨s1, s2, s3, s4, s5, rfl, k1, k2, k3, k4, k5⟩ := id h
  obtain ⟨a1, c1, rfl⟩ := rows_slice k1
  obtain ⟨a5, c5, rfl⟩ := rows_slice k5
  obtain ⟨hR1, -, -, -, hR5, hn1, -, -, -, hn5⟩ := id hR
  unfold inI64 at hp hq
  have z1 : ∀ A, Below w.heap.size w (w.alloc A) := fun A => (Below.refl w.heap.size w).alloc (Nat.le_refl _) A
  obtain ⟨A, hA⟩ : ∃ A : Obj, A = .cells #[.slice a1 o.secs.length c1, s2, s3, s4, .slice a5 o.lines.length c5] 28 := ⟨_, rfl⟩
  have bx : ∀ wr, Below (w.alloc A).heap.size (w.alloc A) wr → wr.cell? ⟨w.heap.size, 0, none⟩ = some (.slice a1 o.secs.length c1) ∧ wr.cell? ⟨w.heap.size, 1, none⟩ = some s2 ∧ wr.cell? ⟨w.heap.size, 2, none⟩ = some s3 ∧ wr.cell? ⟨w.heap.size, 3, none⟩ = some s4 ∧ wr.cell? ⟨w.heap.size, 4, none⟩ = some (.slice a5 o.lines.length c5) := fun wr hb => by
    subst hA
    exact ⟨(hb.cell (p := ⟨w.heap.size, 0, none⟩) (by simp)).trans (new_cell w _ 28 0 _ rfl), (hb.cell (p := ⟨w.heap.size, 1, none⟩) (by simp)).trans (new_cell w _ 28 1 _ rfl), (hb.cell (p := ⟨w.heap.size, 2, none⟩) (by simp)).trans (new_cell w _ 28 2 _ rfl), (hb.cell (p := ⟨w.heap.size, 3, none⟩) (by simp)).trans (new_cell w _ 28 3 _ rfl), (hb.cell (p := ⟨w.heap.size, 4, none⟩) (by simp)).trans (new_cell w _ 28 4 _ rfl)⟩
  go_enter Tryz.func10, Tryz.ntmps10
  go_wp2_with fail
  rw [← hA]
  refine (sane_calls _).mono ?_
  rintro e w1 ⟨rfl, hb1⟩
  have hbw := bel_then (z1 A) (Nat.le_refl _) hb1
  obtain ⟨b0, b1, b2, b3, b4⟩ := bx _ hb1
  go_wp2_with fail
  refine (small_b (h.below hbw) hR).mono ?_
  rintro e w2 ⟨r, rfl, hb2⟩
  have hb1 := bel_then hb1 (Nat.le_refl _) hb2
  clear hb2 hbw b0 b1 b2 b3 b4
  have hbw := bel_then (z1 A) (Nat.le_refl _) hb1
  obtain ⟨b0, b1, b2, b3, b4⟩ := bx _ hb1
  cases r
  · go_wp2
    go_ret
    exact ⟨rfl, hbw⟩
  go_wp2_with fail
  refine (is_b (h.below hbw) hR).mono ?_
  rintro e w3 ⟨r, rfl, hb2, hok⟩
  have hb1 := bel_then hb1 (Nat.le_refl _) hb2
  clear hb2 hbw b0 b1 b2 b3 b4
  have hbw := bel_then (z1 A) (Nat.le_refl _) hb1
  obtain ⟨b0, b1, b2, b3, b4⟩ := bx _ hb1
  cases r
  · go_wp2
    go_ret
    exact ⟨rfl, hbw⟩
  have hok2 := Lib.hid (hok rfl)
  clear hok
  by_cases hl : o.lines.length = 0
  · have hl' : (o.lines.length : Int) = 0 := by omega
    go_wp2
    all_goals (go_ret; exact ⟨rfl, hbw⟩)
  · have hl' : (0 : Int) < (o.lines.length : Int) := by omega
    have hl2 : ((o.lines.length : Int) == 0) = false := beq_eq_false_iff_ne.2 (by omega)
    obtain ⟨k, hkn, hke⟩ := rem_nat p (n := o.lines.length) (by omega) (by omega)
    have hkn' : (k : Int) < (o.lines.length : Int) := by omega
    obtain ⟨b, of, rfl⟩ := rows_some2 k5 hkn
    obtain ⟨x, hx⟩ : ∃ x, o.lines[k]? = some x := ⟨o.lines[k], List.getElem?_eq_getElem hkn⟩
    have hxm := List.mem_of_getElem? hx
    obtain ⟨j, y, hxj, hy, hoff⟩ := hok2.out.inside x hxm
    have hbest := best_at hok2.out.steps hx (a := x.off) (Int.le_refl _)
    obtain ⟨q0, q1, q2, q3, q4, q5⟩ := hok2.out.line x hxm
    obtain ⟨g0, g1, g2, g3⟩ := rows_line (k5.below hbw) hx
    have hj : j < o.secs.length := (List.getElem?_eq_some_iff.1 hy).1
    have hj' : (j : Int) < (o.secs.length : Int) := by omega
    obtain ⟨bs, os, rfl⟩ := rows_some2 k1 hj
    have hym := List.mem_of_getElem? hy
    have hyR := hR1 _ hym
    have hyz := hok2.out.zero _ hym
    have hyn := hyR.2.2.1
    have hlen := fun w => len_c (w := w) y hyR
    rw [len_in y hyR hyz.1 hyz.2] at hlen
    obtain ⟨L, hL⟩ : ∃ L : Int, L = (y.bn : Int) + y.zero := ⟨_, rfl⟩
    rw [← hL] at hlen hoff
    have hL1 : L ≤ 140737488416768 := by omega
    have hL2 := Lib.hid hL
    clear hL
    have hB := hbw.size
    have p0 := fun A => (rows_sec (k1.below (hbw.alloc hB A)) hy).1
    have p1 := fun A => (rows_sec (k1.below (hbw.alloc hB A)) hy).2.1
    have p2 := fun A => (rows_sec (k1.below (hbw.alloc hB A)) hy).2.2.1
    have p3 := fun A => (rows_sec (k1.below (hbw.alloc hB A)) hy).2.2.2.1
    have p4 := fun A => (rows_sec (k1.below (hbw.alloc hB A)) hy).2.2.2.2
    have e0 := fun o => (World.cell?_alloc_lt w3 o _ (low_of_cell b0)).trans b0
    have e1 := fun o => (World.cell?_alloc_lt w3 o _ (low_of_cell b1)).trans b1
    have e2 := fun o => (World.cell?_alloc_lt w3 o _ (low_of_cell b2)).trans b2
    have e3 := fun o => (World.cell?_alloc_lt w3 o _ (low_of_cell b3)).trans b3
    have e4 := fun o => (World.cell?_alloc_lt w3 o _ (low_of_cell b4)).trans b4
    have hx2 := Lib.hid hx
    have hy2 := Lib.hid hy
    clear hx hy hxm hym
    have hbest2 := Lib.hid hbest
    clear hbest
    dsimp only [SecT.v] at hlen
    obtain ⟨xs, xo, xf, xl⟩ := x
    dsimp only at hxj hoff q0 q1 q2 q3 q4 q5 g0 g1 g2 g3
    subst hxj
    go_wp2_with fail
    refine (hlen _).mono ?_
    rintro e w4 ⟨rfl, hb2⟩
    have hb3 := bel_then (hb1.alloc hb1.size _) (Nat.le_refl _) hb2
    have x0 := (hb2.cell (p := ⟨w3.heap.size, 0, none⟩) (by simp)).trans (new_cell w3 _ 48 0 _ rfl)
    have x1 := (hb2.cell (p := ⟨w3.heap.size, 1, none⟩) (by simp)).trans (new_cell w3 _ 48 1 _ rfl)
    have x2 := (hb2.cell (p := ⟨w3.heap.size, 2, none⟩) (by simp)).trans (new_cell w3 _ 48 2 _ rfl)
    have x3 := (hb2.cell (p := ⟨w3.heap.size, 3, none⟩) (by simp)).trans (new_cell w3 _ 48 3 _ rfl)
    clear hb2 hbw b0 b1 b2 b3 b4 e0 e1 e2 e3 e4 p0 p1 p2 p3 p4 g0 g1 g2 g3 hlen hb1 hB
    have hbw := bel_then (z1 A) (Nat.le_refl _) hb3
    obtain ⟨b0, b1, b2, b3, b4⟩ := bx _ hb3
    have hO4 := Lib.hid (h.below hbw)
    by_cases hn : (k : Int) + 1 < (o.lines.length : Int)
    · obtain ⟨⟨zs, zo, zf, zl⟩, hz⟩ : ∃ z, o.lines[k + 1]? = some z := ⟨o.lines[k + 1], List.getElem?_eq_getElem (by omega)⟩
      obtain ⟨g0, g1, g2, g3⟩ := rows_line (k5.below hbw) hz
      have hst := hok2.out.steps k _ _ hx2.out hz
      have hin := hok2.out.inside _ (List.mem_of_getElem? hz)
      dsimp only at g0 g1 g2 g3 hst hin
      by_cases hzs : zs = (j : Int)
      · have hE1 : xo < zo := by omega
        have hE2 : zo < L := by
          obtain ⟨j', s', e1, e2, e3⟩ := hin
          have : j' = j := by omega
          subst this
          rw [hy2.out] at e2
          cases e2
          rw [hL2.out]
          exact e3
        have hnx := Lib.hid (show ∀ z', o.lines[k + 1]? = some z' → z'.sec = (j : Int) → zo ≤ z'.off from fun z' h1 h2 => by rw [hz] at h1; cases h1; exact Int.le_refl _)
        clear hin hst hz
        subst hzs
        go_wp2_with fail
        go_quiet (fail)
        go_wp2_with fail
        obtain ⟨d, hd⟩ : ∃ d : Nat, zo - xo = (d : Int) := ⟨(zo - xo).toNat, by omega⟩
        have hd0 : 0 < d := by omega
        obtain ⟨m, hm, hme⟩ := rem_nat q hd0 (by omega)
        have hm' : xo + (m : Int) < zo := by omega
        go_quiet (fail)
        go_wp2_with fail
        have hv1 := best_at hok2.out.steps hx2.out (a := xo) (Int.le_refl _) (fun z' h1 h2 => by have := hnx.out z' h1 h2; omega) o.lines.length hkn (Nat.le_refl _)
        have hv2 := best_at hok2.out.steps hx2.out (a := xo + (m : Int)) (by show xo ≤ xo + (m : Int); omega) (fun z' h1 h2 => by have := hnx.out z' h1 h2; omega) o.lines.length hkn (Nat.le_refl _)
        dsimp only at hv1 hv2
        have la1 := fun W hW => lineAt_c (w := W) (v := .agg #[.slice (some ⟨bs, os, none⟩) o.secs.length c1, s2, s3, s4, .slice (some ⟨b, of, none⟩) o.lines.length c5]) hW hR hy2.out (at' := xo) q2 (by omega) (by have := hL2.out; omega)
        have la2 := fun W hW => lineAt_c (w := W) (v := .agg #[.slice (some ⟨bs, os, none⟩) o.secs.length c1, s2, s3, s4, .slice (some ⟨b, of, none⟩) o.lines.length c5]) hW hR hy2.out (at' := xo + (m : Int)) (by omega) (by omega) (by have := hL2.out; omega)
        rw [hv1] at la1
        rw [hv2] at la2
        have la1 := Lib.hid la1
        have la2 := Lib.hid la2
        refine (la1.out _ (h.below (below_drewN hbw _))).mono ?_
        intro e w5 hla
        by_cases hxl : xl = 0
        · obtain ⟨rfl, hb5⟩ := la_zero hla hxl
          have hbw5 := bel_then (below_drewN hbw _) (Nat.le_refl _) hb5
          have hb35 := bel_then (below_drewN hb3 _) (Nat.le_refl _) hb5
          have x0 := (hb5.cell (p := ⟨w3.heap.size, 0, none⟩) (low_of_cell x0)).trans x0
          have x1 := (hb5.cell (p := ⟨w3.heap.size, 1, none⟩) (low_of_cell x1)).trans x1
          have x2 := (hb5.cell (p := ⟨w3.heap.size, 2, none⟩) (low_of_cell x2)).trans x2
          have x3 := (hb5.cell (p := ⟨w3.heap.size, 3, none⟩) (low_of_cell x3)).trans x3
          obtain ⟨b0, b1, b2, b3, b4⟩ := bx _ hb35
          have b0 := fun o => (World.cell?_alloc_lt w5 o _ (low_of_cell b0)).trans b0
          have b1 := fun o => (World.cell?_alloc_lt w5 o _ (low_of_cell b1)).trans b1
          have b2 := fun o => (World.cell?_alloc_lt w5 o _ (low_of_cell b2)).trans b2
          have b3 := fun o => (World.cell?_alloc_lt w5 o _ (low_of_cell b3)).trans b3
          have b4 := fun o => (World.cell?_alloc_lt w5 o _ (low_of_cell b4)).trans b4
          have x0 := fun o => (World.cell?_alloc_lt w5 o _ (low_of_cell x0)).trans x0
          have x1 := fun o => (World.cell?_alloc_lt w5 o _ (low_of_cell x1)).trans x1
          have x2 := fun o => (World.cell?_alloc_lt w5 o _ (low_of_cell x2)).trans x2
          have x3 := fun o => (World.cell?_alloc_lt w5 o _ (low_of_cell x3)).trans x3
          clear hb5 hb35 hla
          go_wp2_with fail
          refine (la2.out _ (h.below (hbw5.alloc hbw5.size _))).mono ?_
          intro e w6 hlb
          obtain ⟨rfl, hb6⟩ := la_zero hlb hxl
          have hbw6 := bel_then (hbw5.alloc hbw5.size _) (Nat.le_refl _) hb6
          have u0 := (hb6.cell (p := ⟨w5.heap.size, 0, none⟩) (by simp)).trans (new_cell w5 _ 48 0 _ rfl)
          have u1 := (hb6.cell (p := ⟨w5.heap.size, 1, none⟩) (by simp)).trans (new_cell w5 _ 48 1 _ rfl)
          have u2 := (hb6.cell (p := ⟨w5.heap.size, 2, none⟩) (by simp)).trans (new_cell w5 _ 48 2 _ rfl)
          have u3 := (hb6.cell (p := ⟨w5.heap.size, 3, none⟩) (by simp)).trans (new_cell w5 _ 48 3 _ rfl)
          have x0 := (hb6.cell (low_of_cell (x0 _))).trans (x0 _)
          have x1 := (hb6.cell (low_of_cell (x1 _))).trans (x1 _)
          have x2 := (hb6.cell (low_of_cell (x2 _))).trans (x2 _)
          have x3 := (hb6.cell (low_of_cell (x3 _))).trans (x3 _)
          have u0 := fun o => (World.cell?_alloc_lt w6 o _ (low_of_cell u0)).trans u0
          have u1 := fun o => (World.cell?_alloc_lt w6 o _ (low_of_cell u1)).trans u1
          have u2 := fun o => (World.cell?_alloc_lt w6 o _ (low_of_cell u2)).trans u2
          have u3 := fun o => (World.cell?_alloc_lt w6 o _ (low_of_cell u3)).trans u3
          have x0 := fun o => (World.cell?_alloc_lt w6 o _ (low_of_cell x0)).trans x0
          have x1 := fun o => (World.cell?_alloc_lt w6 o _ (low_of_cell x1)).trans x1
          have x2 := fun o => (World.cell?_alloc_lt w6 o _ (low_of_cell x2)).trans x2
          have x3 := fun o => (World.cell?_alloc_lt w6 o _ (low_of_cell x3)).trans x3
          have hxl' : (xl == 0) = true := beq_iff_eq.2 hxl
          clear b0 b1 b2 b3 b4
          go_wp2
          all_goals (go_ret; exact ⟨rfl, hbw6.alloc hbw6.size _⟩)
        · obtain ⟨rfl, hb5⟩ := la_some hla hxl
          have hbw5 := bel_then (below_drewN hbw _) (Nat.le_refl _) hb5
          have hb35 := bel_then (below_drewN hb3 _) (Nat.le_refl _) hb5
          have x0 := (hb5.cell (p := ⟨w3.heap.size, 0, none⟩) (low_of_cell x0)).trans x0
          have x1 := (hb5.cell (p := ⟨w3.heap.size, 1, none⟩) (low_of_cell x1)).trans x1
          have x2 := (hb5.cell (p := ⟨w3.heap.size, 2, none⟩) (low_of_cell x2)).trans x2
          have x3 := (hb5.cell (p := ⟨w3.heap.size, 3, none⟩) (low_of_cell x3)).trans x3
          obtain ⟨b0, b1, b2, b3, b4⟩ := bx _ hb35
          have b0 := fun o => (World.cell?_alloc_lt w5 o _ (low_of_cell b0)).trans b0
          have b1 := fun o => (World.cell?_alloc_lt w5 o _ (low_of_cell b1)).trans b1
          have b2 := fun o => (World.cell?_alloc_lt w5 o _ (low_of_cell b2)).trans b2
          have b3 := fun o => (World.cell?_alloc_lt w5 o _ (low_of_cell b3)).trans b3
          have b4 := fun o => (World.cell?_alloc_lt w5 o _ (low_of_cell b4)).trans b4
          have x0 := fun o => (World.cell?_alloc_lt w5 o _ (low_of_cell x0)).trans x0
          have x1 := fun o => (World.cell?_alloc_lt w5 o _ (low_of_cell x1)).trans x1
          have x2 := fun o => (World.cell?_alloc_lt w5 o _ (low_of_cell x2)).trans x2
          have x3 := fun o => (World.cell?_alloc_lt w5 o _ (low_of_cell x3)).trans x3
          clear hb5 hb35 hla
          go_wp2_with fail
          refine (la2.out _ (h.below (hbw5.alloc hbw5.size _))).mono ?_
          intro e w6 hlb
          obtain ⟨rfl, hb6⟩ := la_some hlb hxl
          have hbw6 := bel_then (hbw5.alloc hbw5.size _) (Nat.le_refl _) hb6
          have u0 := (hb6.cell (p := ⟨w5.heap.size, 0, none⟩) (by simp)).trans (new_cell w5 _ 48 0 _ rfl)
          have u1 := (hb6.cell (p := ⟨w5.heap.size, 1, none⟩) (by simp)).trans (new_cell w5 _ 48 1 _ rfl)
          have u2 := (hb6.cell (p := ⟨w5.heap.size, 2, none⟩) (by simp)).trans (new_cell w5 _ 48 2 _ rfl)
          have u3 := (hb6.cell (p := ⟨w5.heap.size, 3, none⟩) (by simp)).trans (new_cell w5 _ 48 3 _ rfl)
          have x0 := (hb6.cell (low_of_cell (x0 _))).trans (x0 _)
          have x1 := (hb6.cell (low_of_cell (x1 _))).trans (x1 _)
          have x2 := (hb6.cell (low_of_cell (x2 _))).trans (x2 _)
          have x3 := (hb6.cell (low_of_cell (x3 _))).trans (x3 _)
          have u0 := fun o => (World.cell?_alloc_lt w6 o _ (low_of_cell u0)).trans u0
          have u1 := fun o => (World.cell?_alloc_lt w6 o _ (low_of_cell u1)).trans u1
          have u2 := fun o => (World.cell?_alloc_lt w6 o _ (low_of_cell u2)).trans u2
          have u3 := fun o => (World.cell?_alloc_lt w6 o _ (low_of_cell u3)).trans u3
          have x0 := fun o => (World.cell?_alloc_lt w6 o _ (low_of_cell x0)).trans x0
          have x1 := fun o => (World.cell?_alloc_lt w6 o _ (low_of_cell x1)).trans x1
          have x2 := fun o => (World.cell?_alloc_lt w6 o _ (low_of_cell x2)).trans x2
          have x3 := fun o => (World.cell?_alloc_lt w6 o _ (low_of_cell x3)).trans x3
          have hxl' : (xl == 0) = false := beq_eq_false_iff_ne.2 hxl
          have hxl2 : (xl != 0) = true := bne_iff_ne.2 hxl
          clear b0 b1 b2 b3 b4
          go_wp2
          all_goals (go_ret; exact ⟨rfl, hbw6.alloc hbw6.size _⟩)
      · have hzs' : (zs == (j : Int)) = false := beq_eq_false_iff_ne.2 hzs
        have hnx := Lib.hid (show ∀ z', o.lines[k + 1]? = some z' → z'.sec = (j : Int) → L ≤ z'.off from fun z' h1 h2 => by rw [hz] at h1; cases h1; exact absurd h2 hzs)
        clear hin hst hz
        go_wp2_with fail
        go_quiet (fail)
        go_wp2_with fail
        obtain ⟨d, hd⟩ : ∃ d : Nat, L - xo = (d : Int) := ⟨(L - xo).toNat, by omega⟩
        have hd0 : 0 < d := by omega
        obtain ⟨m, hm, hme⟩ := rem_nat q hd0 (by omega)
        have hm' : xo + (m : Int) < L := by omega
        go_quiet (fail)
        go_wp2_with fail
        have hv1 := best_at hok2.out.steps hx2.out (a := xo) (Int.le_refl _) (fun z' h1 h2 => by have := hnx.out z' h1 h2; omega) o.lines.length hkn (Nat.le_refl _)
        have hv2 := best_at hok2.out.steps hx2.out (a := xo + (m : Int)) (by show xo ≤ xo + (m : Int); omega) (fun z' h1 h2 => by have := hnx.out z' h1 h2; omega) o.lines.length hkn (Nat.le_refl _)
        dsimp only at hv1 hv2
        have la1 := fun W hW => lineAt_c (w := W) (v := .agg #[.slice (some ⟨bs, os, none⟩) o.secs.length c1, s2, s3, s4, .slice (some ⟨b, of, none⟩) o.lines.length c5]) hW hR hy2.out (at' := xo) q2 (by omega) (by have := hL2.out; omega)
        have la2 := fun W hW => lineAt_c (w := W) (v := .agg #[.slice (some ⟨bs, os, none⟩) o.secs.length c1, s2, s3, s4, .slice (some ⟨b, of, none⟩) o.lines.length c5]) hW hR hy2.out (at' := xo + (m : Int)) (by omega) (by omega) (by have := hL2.out; omega)
        rw [hv1] at la1
        rw [hv2] at la2
        have la1 := Lib.hid la1
        have la2 := Lib.hid la2
        refine (la1.out _ (h.below (below_drewN hbw _))).mono ?_
        intro e w5 hla
        by_cases hxl : xl = 0
        · obtain ⟨rfl, hb5⟩ := la_zero hla hxl
          have hbw5 := bel_then (below_drewN hbw _) (Nat.le_refl _) hb5
          have hb35 := bel_then (below_drewN hb3 _) (Nat.le_refl _) hb5
          have x0 := (hb5.cell (p := ⟨w3.heap.size, 0, none⟩) (low_of_cell x0)).trans x0
          have x1 := (hb5.cell (p := ⟨w3.heap.size, 1, none⟩) (low_of_cell x1)).trans x1
          have x2 := (hb5.cell (p := ⟨w3.heap.size, 2, none⟩) (low_of_cell x2)).trans x2
          have x3 := (hb5.cell (p := ⟨w3.heap.size, 3, none⟩) (low_of_cell x3)).trans x3
          obtain ⟨b0, b1, b2, b3, b4⟩ := bx _ hb35
          have b0 := fun o => (World.cell?_alloc_lt w5 o _ (low_of_cell b0)).trans b0
          have b1 := fun o => (World.cell?_alloc_lt w5 o _ (low_of_cell b1)).trans b1
          have b2 := fun o => (World.cell?_alloc_lt w5 o _ (low_of_cell b2)).trans b2
          have b3 := fun o => (World.cell?_alloc_lt w5 o _ (low_of_cell b3)).trans b3
          have b4 := fun o => (World.cell?_alloc_lt w5 o _ (low_of_cell b4)).trans b4
          have x0 := fun o => (World.cell?_alloc_lt w5 o _ (low_of_cell x0)).trans x0
          have x1 := fun o => (World.cell?_alloc_lt w5 o _ (low_of_cell x1)).trans x1
          have x2 := fun o => (World.cell?_alloc_lt w5 o _ (low_of_cell x2)).trans x2
          have x3 := fun o => (World.cell?_alloc_lt w5 o _ (low_of_cell x3)).trans x3
          clear hb5 hb35 hla
          go_wp2_with fail
          refine (la2.out _ (h.below (hbw5.alloc hbw5.size _))).mono ?_
          intro e w6 hlb
          obtain ⟨rfl, hb6⟩ := la_zero hlb hxl
          have hbw6 := bel_then (hbw5.alloc hbw5.size _) (Nat.le_refl _) hb6
          have u0 := (hb6.cell (p := ⟨w5.heap.size, 0, none⟩) (by simp)).trans (new_cell w5 _ 48 0 _ rfl)
          have u1 := (hb6.cell (p := ⟨w5.heap.size, 1, none⟩) (by simp)).trans (new_cell w5 _ 48 1 _ rfl)
          have u2 := (hb6.cell (p := ⟨w5.heap.size, 2, none⟩) (by simp)).trans (new_cell w5 _ 48 2 _ rfl)
          have u3 := (hb6.cell (p := ⟨w5.heap.size, 3, none⟩) (by simp)).trans (new_cell w5 _ 48 3 _ rfl)
          have x0 := (hb6.cell (low_of_cell (x0 _))).trans (x0 _)
          have x1 := (hb6.cell (low_of_cell (x1 _))).trans (x1 _)
          have x2 := (hb6.cell (low_of_cell (x2 _))).trans (x2 _)
          have x3 := (hb6.cell (low_of_cell (x3 _))).trans (x3 _)
          have u0 := fun o => (World.cell?_alloc_lt w6 o _ (low_of_cell u0)).trans u0
          have u1 := fun o => (World.cell?_alloc_lt w6 o _ (low_of_cell u1)).trans u1
          have u2 := fun o => (World.cell?_alloc_lt w6 o _ (low_of_cell u2)).trans u2
          have u3 := fun o => (World.cell?_alloc_lt w6 o _ (low_of_cell u3)).trans u3
          have x0 := fun o => (World.cell?_alloc_lt w6 o _ (low_of_cell x0)).trans x0
          have x1 := fun o => (World.cell?_alloc_lt w6 o _ (low_of_cell x1)).trans x1
          have x2 := fun o => (World.cell?_alloc_lt w6 o _ (low_of_cell x2)).trans x2
          have x3 := fun o => (World.cell?_alloc_lt w6 o _ (low_of_cell x3)).trans x3
          have hxl' : (xl == 0) = true := beq_iff_eq.2 hxl
          clear b0 b1 b2 b3 b4
          go_wp2
          all_goals (go_ret; exact ⟨rfl, hbw6.alloc hbw6.size _⟩)
        · obtain ⟨rfl, hb5⟩ := la_some hla hxl
          have hbw5 := bel_then (below_drewN hbw _) (Nat.le_refl _) hb5
          have hb35 := bel_then (below_drewN hb3 _) (Nat.le_refl _) hb5
          have x0 := (hb5.cell (p := ⟨w3.heap.size, 0, none⟩) (low_of_cell x0)).trans x0
          have x1 := (hb5.cell (p := ⟨w3.heap.size, 1, none⟩) (low_of_cell x1)).trans x1
          have x2 := (hb5.cell (p := ⟨w3.heap.size, 2, none⟩) (low_of_cell x2)).trans x2
          have x3 := (hb5.cell (p := ⟨w3.heap.size, 3, none⟩) (low_of_cell x3)).trans x3
          obtain ⟨b0, b1, b2, b3, b4⟩ := bx _ hb35
          have b0 := fun o => (World.cell?_alloc_lt w5 o _ (low_of_cell b0)).trans b0
          have b1 := fun o => (World.cell?_alloc_lt w5 o _ (low_of_cell b1)).trans b1
          have b2 := fun o => (World.cell?_alloc_lt w5 o _ (low_of_cell b2)).trans b2
          have b3 := fun o => (World.cell?_alloc_lt w5 o _ (low_of_cell b3)).trans b3
          have b4 := fun o => (World.cell?_alloc_lt w5 o _ (low_of_cell b4)).trans b4
          have x0 := fun o => (World.cell?_alloc_lt w5 o _ (low_of_cell x0)).trans x0
          have x1 := fun o => (World.cell?_alloc_lt w5 o _ (low_of_cell x1)).trans x1
          have x2 := fun o => (World.cell?_alloc_lt w5 o _ (low_of_cell x2)).trans x2
          have x3 := fun o => (World.cell?_alloc_lt w5 o _ (low_of_cell x3)).trans x3
          clear hb5 hb35 hla
          go_wp2_with fail
          refine (la2.out _ (h.below (hbw5.alloc hbw5.size _))).mono ?_
          intro e w6 hlb
          obtain ⟨rfl, hb6⟩ := la_some hlb hxl
          have hbw6 := bel_then (hbw5.alloc hbw5.size _) (Nat.le_refl _) hb6
          have u0 := (hb6.cell (p := ⟨w5.heap.size, 0, none⟩) (by simp)).trans (new_cell w5 _ 48 0 _ rfl)
          have u1 := (hb6.cell (p := ⟨w5.heap.size, 1, none⟩) (by simp)).trans (new_cell w5 _ 48 1 _ rfl)
          have u2 := (hb6.cell (p := ⟨w5.heap.size, 2, none⟩) (by simp)).trans (new_cell w5 _ 48 2 _ rfl)
          have u3 := (hb6.cell (p := ⟨w5.heap.size, 3, none⟩) (by simp)).trans (new_cell w5 _ 48 3 _ rfl)
          have x0 := (hb6.cell (low_of_cell (x0 _))).trans (x0 _)
          have x1 := (hb6.cell (low_of_cell (x1 _))).trans (x1 _)
          have x2 := (hb6.cell (low_of_cell (x2 _))).trans (x2 _)
          have x3 := (hb6.cell (low_of_cell (x3 _))).trans (x3 _)
          have u0 := fun o => (World.cell?_alloc_lt w6 o _ (low_of_cell u0)).trans u0
          have u1 := fun o => (World.cell?_alloc_lt w6 o _ (low_of_cell u1)).trans u1
          have u2 := fun o => (World.cell?_alloc_lt w6 o _ (low_of_cell u2)).trans u2
          have u3 := fun o => (World.cell?_alloc_lt w6 o _ (low_of_cell u3)).trans u3
          have x0 := fun o => (World.cell?_alloc_lt w6 o _ (low_of_cell x0)).trans x0
          have x1 := fun o => (World.cell?_alloc_lt w6 o _ (low_of_cell x1)).trans x1
          have x2 := fun o => (World.cell?_alloc_lt w6 o _ (low_of_cell x2)).trans x2
          have x3 := fun o => (World.cell?_alloc_lt w6 o _ (low_of_cell x3)).trans x3
          have hxl' : (xl == 0) = false := beq_eq_false_iff_ne.2 hxl
          have hxl2 : (xl != 0) = true := bne_iff_ne.2 hxl
          clear b0 b1 b2 b3 b4
          go_wp2
          all_goals (go_ret; exact ⟨rfl, hbw6.alloc hbw6.size _⟩)
    · have hnd : decide ((k : Int) + 1 < (o.lines.length : Int)) = false := decide_eq_false hn
      have hn2 : ¬ (k + 1 < o.lines.length) := by omega
      have hn3 : decide (k + 1 < o.lines.length) = false := decide_eq_false hn2
      have hnx := Lib.hid (show ∀ z', o.lines[k + 1]? = some z' → z'.sec = (j : Int) → L ≤ z'.off from fun z' h1 h2 => absurd (List.getElem?_eq_some_iff.1 h1).1 hn2)
      go_wp2_with fail
      go_quiet (fail)
      go_wp2_with fail
      obtain ⟨d, hd⟩ : ∃ d : Nat, L - xo = (d : Int) := ⟨(L - xo).toNat, by omega⟩
      have hd0 : 0 < d := by omega
      obtain ⟨m, hm, hme⟩ := rem_nat q hd0 (by omega)
      have hm' : xo + (m : Int) < L := by omega
      go_quiet (fail)
      go_wp2_with fail
      have hv1 := best_at hok2.out.steps hx2.out (a := xo) (Int.le_refl _) (fun z' h1 h2 => by have := hnx.out z' h1 h2; omega) o.lines.length hkn (Nat.le_refl _)
      have hv2 := best_at hok2.out.steps hx2.out (a := xo + (m : Int)) (by show xo ≤ xo + (m : Int); omega) (fun z' h1 h2 => by have := hnx.out z' h1 h2; omega) o.lines.length hkn (Nat.le_refl _)
      dsimp only at hv1 hv2
      have la1 := fun W hW => lineAt_c (w := W) (v := .agg #[.slice (some ⟨bs, os, none⟩) o.secs.length c1, s2, s3, s4, .slice (some ⟨b, of, none⟩) o.lines.length c5]) hW hR hy2.out (at' := xo) q2 (by omega) (by have := hL2.out; omega)
      have la2 := fun W hW => lineAt_c (w := W) (v := .agg #[.slice (some ⟨bs, os, none⟩) o.secs.length c1, s2, s3, s4, .slice (some ⟨b, of, none⟩) o.lines.length c5]) hW hR hy2.out (at' := xo + (m : Int)) (by omega) (by omega) (by have := hL2.out; omega)
      rw [hv1] at la1
      rw [hv2] at la2
      have la1 := Lib.hid la1
      have la2 := Lib.hid la2
      refine (la1.out _ (h.below (below_drewN hbw _))).mono ?_
      intro e w5 hla
      by_cases hxl : xl = 0
      · obtain ⟨rfl, hb5⟩ := la_zero hla hxl
        have hbw5 := bel_then (below_drewN hbw _) (Nat.le_refl _) hb5
        have hb35 := bel_then (below_drewN hb3 _) (Nat.le_refl _) hb5
        have x0 := (hb5.cell (p := ⟨w3.heap.size, 0, none⟩) (low_of_cell x0)).trans x0
        have x1 := (hb5.cell (p := ⟨w3.heap.size, 1, none⟩) (low_of_cell x1)).trans x1
        have x2 := (hb5.cell (p := ⟨w3.heap.size, 2, none⟩) (low_of_cell x2)).trans x2
        have x3 := (hb5.cell (p := ⟨w3.heap.size, 3, none⟩) (low_of_cell x3)).trans x3
        obtain ⟨b0, b1, b2, b3, b4⟩ := bx _ hb35
        have b0 := fun o => (World.cell?_alloc_lt w5 o _ (low_of_cell b0)).trans b0
        have b1 := fun o => (World.cell?_alloc_lt w5 o _ (low_of_cell b1)).trans b1
        have b2 := fun o => (World.cell?_alloc_lt w5 o _ (low_of_cell b2)).trans b2
        have b3 := fun o => (World.cell?_alloc_lt w5 o _ (low_of_cell b3)).trans b3
        have b4 := fun o => (World.cell?_alloc_lt w5 o _ (low_of_cell b4)).trans b4
        have x0 := fun o => (World.cell?_alloc_lt w5 o _ (low_of_cell x0)).trans x0
        have x1 := fun o => (World.cell?_alloc_lt w5 o _ (low_of_cell x1)).trans x1
        have x2 := fun o => (World.cell?_alloc_lt w5 o _ (low_of_cell x2)).trans x2
        have x3 := fun o => (World.cell?_alloc_lt w5 o _ (low_of_cell x3)).trans x3
        clear hb5 hb35 hla
        go_wp2_with fail
        refine (la2.out _ (h.below (hbw5.alloc hbw5.size _))).mono ?_
        intro e w6 hlb
        obtain ⟨rfl, hb6⟩ := la_zero hlb hxl
        have hbw6 := bel_then (hbw5.alloc hbw5.size _) (Nat.le_refl _) hb6
        have u0 := (hb6.cell (p := ⟨w5.heap.size, 0, none⟩) (by simp)).trans (new_cell w5 _ 48 0 _ rfl)
        have u1 := (hb6.cell (p := ⟨w5.heap.size, 1, none⟩) (by simp)).trans (new_cell w5 _ 48 1 _ rfl)
        have u2 := (hb6.cell (p := ⟨w5.heap.size, 2, none⟩) (by simp)).trans (new_cell w5 _ 48 2 _ rfl)
        have u3 := (hb6.cell (p := ⟨w5.heap.size, 3, none⟩) (by simp)).trans (new_cell w5 _ 48 3 _ rfl)
        have x0 := (hb6.cell (low_of_cell (x0 _))).trans (x0 _)
        have x1 := (hb6.cell (low_of_cell (x1 _))).trans (x1 _)
        have x2 := (hb6.cell (low_of_cell (x2 _))).trans (x2 _)
        have x3 := (hb6.cell (low_of_cell (x3 _))).trans (x3 _)
        have u0 := fun o => (World.cell?_alloc_lt w6 o _ (low_of_cell u0)).trans u0
        have u1 := fun o => (World.cell?_alloc_lt w6 o _ (low_of_cell u1)).trans u1
        have u2 := fun o => (World.cell?_alloc_lt w6 o _ (low_of_cell u2)).trans u2
        have u3 := fun o => (World.cell?_alloc_lt w6 o _ (low_of_cell u3)).trans u3
        have x0 := fun o => (World.cell?_alloc_lt w6 o _ (low_of_cell x0)).trans x0
        have x1 := fun o => (World.cell?_alloc_lt w6 o _ (low_of_cell x1)).trans x1
        have x2 := fun o => (World.cell?_alloc_lt w6 o _ (low_of_cell x2)).trans x2
        have x3 := fun o => (World.cell?_alloc_lt w6 o _ (low_of_cell x3)).trans x3
        have hxl' : (xl == 0) = true := beq_iff_eq.2 hxl
        clear b0 b1 b2 b3 b4
        go_wp2
        all_goals (go_ret; exact ⟨rfl, hbw6.alloc hbw6.size _⟩)
      · obtain ⟨rfl, hb5⟩ := la_some hla hxl
        have hbw5 := bel_then (below_drewN hbw _) (Nat.le_refl _) hb5
        have hb35 := bel_then (below_drewN hb3 _) (Nat.le_refl _) hb5
        have x0 := (hb5.cell (p := ⟨w3.heap.size, 0, none⟩) (low_of_cell x0)).trans x0
        have x1 := (hb5.cell (p := ⟨w3.heap.size, 1, none⟩) (low_of_cell x1)).trans x1
        have x2 := (hb5.cell (p := ⟨w3.heap.size, 2, none⟩) (low_of_cell x2)).trans x2
        have x3 := (hb5.cell (p := ⟨w3.heap.size, 3, none⟩) (low_of_cell x3)).trans x3
        obtain ⟨b0, b1, b2, b3, b4⟩ := bx _ hb35
        have b0 := fun o => (World.cell?_alloc_lt w5 o _ (low_of_cell b0)).trans b0
        have b1 := fun o => (World.cell?_alloc_lt w5 o _ (low_of_cell b1)).trans b1
        have b2 := fun o => (World.cell?_alloc_lt w5 o _ (low_of_cell b2)).trans b2
        have b3 := fun o => (World.cell?_alloc_lt w5 o _ (low_of_cell b3)).trans b3
        have b4 := fun o => (World.cell?_alloc_lt w5 o _ (low_of_cell b4)).trans b4
        have x0 := fun o => (World.cell?_alloc_lt w5 o _ (low_of_cell x0)).trans x0
        have x1 := fun o => (World.cell?_alloc_lt w5 o _ (low_of_cell x1)).trans x1
        have x2 := fun o => (World.cell?_alloc_lt w5 o _ (low_of_cell x2)).trans x2
        have x3 := fun o => (World.cell?_alloc_lt w5 o _ (low_of_cell x3)).trans x3
        clear hb5 hb35 hla
        go_wp2_with fail
        refine (la2.out _ (h.below (hbw5.alloc hbw5.size _))).mono ?_
        intro e w6 hlb
        obtain ⟨rfl, hb6⟩ := la_some hlb hxl
        have hbw6 := bel_then (hbw5.alloc hbw5.size _) (Nat.le_refl _) hb6
        have u0 := (hb6.cell (p := ⟨w5.heap.size, 0, none⟩) (by simp)).trans (new_cell w5 _ 48 0 _ rfl)
        have u1 := (hb6.cell (p := ⟨w5.heap.size, 1, none⟩) (by simp)).trans (new_cell w5 _ 48 1 _ rfl)
        have u2 := (hb6.cell (p := ⟨w5.heap.size, 2, none⟩) (by simp)).trans (new_cell w5 _ 48 2 _ rfl)
        have u3 := (hb6.cell (p := ⟨w5.heap.size, 3, none⟩) (by simp)).trans (new_cell w5 _ 48 3 _ rfl)
        have x0 := (hb6.cell (low_of_cell (x0 _))).trans (x0 _)
        have x1 := (hb6.cell (low_of_cell (x1 _))).trans (x1 _)
        have x2 := (hb6.cell (low_of_cell (x2 _))).trans (x2 _)
        have x3 := (hb6.cell (low_of_cell (x3 _))).trans (x3 _)
        have u0 := fun o => (World.cell?_alloc_lt w6 o _ (low_of_cell u0)).trans u0
        have u1 := fun o => (World.cell?_alloc_lt w6 o _ (low_of_cell u1)).trans u1
        have u2 := fun o => (World.cell?_alloc_lt w6 o _ (low_of_cell u2)).trans u2
        have u3 := fun o => (World.cell?_alloc_lt w6 o _ (low_of_cell u3)).trans u3
        have x0 := fun o => (World.cell?_alloc_lt w6 o _ (low_of_cell x0)).trans x0
        have x1 := fun o => (World.cell?_alloc_lt w6 o _ (low_of_cell x1)).trans x1
        have x2 := fun o => (World.cell?_alloc_lt w6 o _ (low_of_cell x2)).trans x2
        have x3 := fun o => (World.cell?_alloc_lt w6 o _ (low_of_cell x3)).trans x3
        have hxl' : (xl == 0) = false := beq_eq_false_iff_ne.2 hxl
        have hxl2 : (xl != 0) = true := bne_iff_ne.2 hxl
        clear b0 b1 b2 b3 b4
        go_wp2
        all_goals (go_ret; exact ⟨rfl, hbw6.alloc hbw6.size _⟩)
end Go.Ev
