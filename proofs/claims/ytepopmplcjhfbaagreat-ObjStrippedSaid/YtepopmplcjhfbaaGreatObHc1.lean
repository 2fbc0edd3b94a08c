import Derived.Test.YtepopmplcjhfbaaGreatObGca
set_option linter.unusedSectionVars false
set_option linter.unusedVariables false
set_option linter.unusedSimpArgs false
set_option linter.unnecessarySimpa false
/-
  Stage 3: the sections, in the specification.
-/
namespace Go.Ev
open Go.RowKit Go.Proofs Go.Rw
/-- What the sections' check answers. -/
def SecsR (l : List SecT) (w : World) (e : Ending) (w' : World) : Prop := ∃ r : Bool, e = .returned (.bool r) ∧ Below w.heap.size w w' ∧ (r = true → l.length ≤ 16 ∧ ∀ x ∈ l, 0 ≤ x.zero ∧ x.zero ≤ 65536)
theorem secs_no {l : List SecT} {w w' : World} (h : Below w.heap.size w w') : SecsR l w (.returned (.bool false)) w' := ⟨_, rfl, h, by simp⟩
set_option maxRecDepth 100000 in
set_option maxHeartbeats 2000000 in
theorem secs_b {w : World} {s : Value} {l : List SecT} (h : RowsAt w s SecT.cells 5 l) (hr : ∀ x ∈ l, x.R) (hl : l.length ≤ 140737488351232) :
    Calls Tryz.prog 135 #[s] w (SecsR l w) := by
  obtain ⟨a, c, rfl⟩ := rows_slice h
  go_enter Tryz.func135, Tryz.ntmps135
  go_wp2
  all_goals try (go_ret; exact secs_no (Below.refl _ _))
  have hl4 : l.length ≤ 16 := by omega
  go_loopw [3, 4] (fun n i wr => ∃ (k : Nat) (t : Int), k ≤ l.length ∧ n = .int .i64 t ∧ i = .int .i64 k ∧ Below w.heap.size w wr ∧ (∀ j x, j < k → l[j]? = some x → 0 ≤ x.zero ∧ x.zero ≤ 65536)) (fun _ i _ => l.length - (intOf i).toNat)
  case atStart => exact ⟨0, 0, by omega, rfl, rfl, Below.refl _ _, fun j x hj => by omega⟩
  case round =>
    obtain ⟨k, t, hk, rfl, rfl, hbl, h1⟩ := hrel
    by_cases hlt : k < l.length
    · obtain ⟨b, o, rfl⟩ := rows_some2 h hlt
      obtain ⟨x, hx⟩ : ∃ x, l[k]? = some x := ⟨l[k], by simp [hlt]⟩
      obtain ⟨g0, g1, g2, g3, g4⟩ := rows_sec (h.below hbl) hx
      have hxR := hr _ (List.mem_of_getElem? hx)
      have hlen := fun w => len_c (w := w) x hxR
      obtain ⟨xn, xr, xa, xb, xl, xc, xz⟩ := x
      obtain ⟨r0, r1, r2, r3, r4⟩ := id hxR
      dsimp only [SecT.v] at g0 g1 g2 g3 g4 r0 r1 r2 r3 r4 hlen
      unfold inI64 at r0 r1 r3
      have hB := hbl.size
      have hx := Lib.hid hx
      have h1 := Lib.hid h1
      go_wp2_with fail
      refine (is_name xn r4).mono ?_
      rintro e w1 ⟨rfl, rfl⟩
      cases nameV xn
      · go_wp2
        go_ret
        exact secs_no (hbl.alloc hB _)
      · go_wp2
        all_goals try (go_ret; exact secs_no ((hbl.alloc hB _)))
        rename (_ ∧ _) ∧ (256 % _ != 0) = false => hq
        clear hq
        obtain ⟨wo, rfl⟩ : ∃ wo : World, wo = wr := ⟨_, rfl⟩
        go_loopw [6] (fun i wr => ∃ j : Nat, j ≤ k ∧ i = .int .i64 j ∧ Below (wo.alloc (.cells #[.string xn, .int .i64 xr, .int .i64 xa, .slice xb xl xc, .int .i64 xz] 66)).heap.size (wo.alloc (.cells #[.string xn, .int .i64 xr, .int .i64 xa, .slice xb xl xc, .int .i64 xz] 66)) wr) (fun i _ => k - (intOf i).toNat)
        case atStart => exact ⟨0, by omega, rfl, Below.refl _ _⟩
        case round =>
          obtain ⟨j, hj, rfl, hbj⟩ := hrel
          have hbw := bel_then (hbl.alloc hB _) (Nat.le_refl _) hbj
          have c0 := (hbj.cell (p := ⟨wo.heap.size, 0, none⟩) (by simp)).trans (new_cell wo _ 66 0 _ rfl)
          have c1 := (hbj.cell (p := ⟨wo.heap.size, 1, none⟩) (by simp)).trans (new_cell wo _ 66 1 _ rfl)
          have c2 := (hbj.cell (p := ⟨wo.heap.size, 2, none⟩) (by simp)).trans (new_cell wo _ 66 2 _ rfl)
          have c3 := (hbj.cell (p := ⟨wo.heap.size, 3, none⟩) (by simp)).trans (new_cell wo _ 66 3 _ rfl)
          have c4 := (hbj.cell (p := ⟨wo.heap.size, 4, none⟩) (by simp)).trans (new_cell wo _ 66 4 _ rfl)
          by_cases hjk : j < k
          · obtain ⟨⟨yn, yr, ya, yb, yl, yc, yz⟩, hy⟩ : ∃ y, l[j]? = some y := ⟨l[j], by simp [Nat.lt_trans hjk hlt]⟩
            obtain ⟨p0, _, _, _, _⟩ := rows_sec (h.below hbw) hy
            dsimp only at p0
            have hj' : (j : Int) < (l.length : Int) := by omega
            clear hlen
            go_wp2
            go_quiet (fail)
            go_wp2
            · go_ret
              exact secs_no (below_drewN hbw _)
            · go_roundw
              case rel => exact ⟨j + 1, by omega, by go_num, below_drewN hbj _⟩
              case measure => simp [intOf]; omega
          · go_wp2_with fail
            refine (hlen wr).mono ?_
            rintro e w2 ⟨rfl, hb2⟩
            have hbw2 := bel_then hbw (Nat.le_refl _) hb2
            go_wp2
            go_roundw
            case rel =>
              refine ⟨k + 1, _, by omega, rfl, by go_num, hbw2, fun i x hi hx' => ?_⟩
              by_cases hik : i < k
              · exact h1.out i x hik hx'
              · obtain rfl : i = k := by omega
                rw [hx.out] at hx'
                cases hx'
                exact ⟨by dsimp only; omega, by dsimp only; omega⟩
            case measure => simp [intOf]; omega
    · have : k = l.length := by omega
      subst this
      go_wp2
      go_ret
      refine ⟨_, rfl, hbl, fun _ => ⟨hl4, fun x hx => ?_⟩⟩
      obtain ⟨j, hj⟩ := List.getElem?_of_mem hx
      exact h1 j x (List.getElem?_eq_some_iff.1 hj).1 hj
end Go.Ev

/-
  Stage 3: one symbol, the symbols.
-/
namespace Go.Ev
open Go.RowKit Go.Proofs Go.Rw
/-- What a symbol's check answers. -/
def SymR (n : Nat) (x : SymT) (w : World) (e : Ending) (w' : World) : Prop := ∃ r : Bool, e = .returned (.bool r) ∧ Below w.heap.size w w' ∧ (r = true → x.sec < (n : Int))
theorem sym_end {n : Nat} {x : SymT} {w w' : World} {r : Bool} (h : Below w.heap.size w w') (h' : r = true → x.sec < (n : Int)) : SymR n x w (.returned (.bool r)) w' := ⟨r, rfl, h, h'⟩
set_option maxRecDepth 100000 in
set_option maxHeartbeats 2000000 in
theorem symbol_b {w : World} {v : Value} {o : ObjT} (h : ObjAt w v o) (hR : o.R) (x : SymT) (hx : x.R) :
    Calls Tryz.prog 219 #[v, x.v] w (SymR (o.secs.length) x w) := by
  obtain ⟨s1, s2, s3, s4, s5, rfl, k1, k2, k3, k4, k5⟩ := h
  obtain ⟨a1, c1, rfl⟩ := rows_slice k1
  obtain ⟨xn, xs, xv, xz, xb, xk⟩ := x
  obtain ⟨r1, r2, r3, r4, r5, r6⟩ := hx
  obtain ⟨q1, q2, q3, q4, q5, q6, q7, q8, q9, q10⟩ := hR
  dsimp only [SymT.v] at *
  unfold inI64 inU32 at *
  go_enter Tryz.func219, Tryz.ntmps219
  have z1 : ∀ A B, Below w.heap.size w ((w.alloc A).alloc B) := fun A B => ((Below.refl w.heap.size w).alloc (Nat.le_refl _) A).alloc (by simp) B
  have z3 : ∀ A B C, Below w.heap.size w (((w.alloc A).alloc B).alloc C) := fun A B C => (z1 A B).alloc (by rw [World.size_alloc, World.size_alloc]; omega) C
  by_cases hlt : (0 : Int) ≤ xs ∧ xs < (o.secs.length : Int)
  · obtain ⟨k, rfl⟩ : ∃ k : Nat, xs = (k : Int) := ⟨xs.toNat, by omega⟩
    have hk : k < o.secs.length := by omega
    obtain ⟨b, of, rfl⟩ := rows_some2 k1 hk
    obtain ⟨y, hy⟩ : ∃ y, o.secs[k]? = some y := ⟨o.secs[k], by simp [hk]⟩
    have hyR := q1 y (List.mem_of_getElem? hy)
    have g0 := fun A B => (rows_sec (k1.below (z1 A B)) hy).1
    have g1 := fun A B => (rows_sec (k1.below (z1 A B)) hy).2.1
    have g2 := fun A B => (rows_sec (k1.below (z1 A B)) hy).2.2.1
    have g3 := fun A B => (rows_sec (k1.below (z1 A B)) hy).2.2.2.1
    have g4 := fun A B => (rows_sec (k1.below (z1 A B)) hy).2.2.2.2
    have hlen := fun w => len_c (w := w) y hyR
    obtain ⟨yn, yr, ya, yb, yl, yc, yz⟩ := y
    obtain ⟨t0, t1, t2, t3, t4⟩ := id hyR
    dsimp only [SecT.v] at g0 g1 g2 g3 g4 t0 t1 t2 t3 t4 hlen
    unfold inI64 at t0 t1 t3
    have hy := Lib.hid hy
    go_wp2
    all_goals try (go_ret; exact sym_end (z1 _ _) (fun _ => hlt.2))
    by_cases c1 : xz < 0
    · go_quiet (fail)
      go_wp2
      go_ret
      exact sym_end (below_drewN ((z1 _ _).alloc (by simp; omega) _) _) (fun h => by cases h)
    · by_cases c2 : 65536 < xz
      · go_quiet (fail)
        go_wp2
        go_ret
        exact sym_end (below_drewN ((z1 _ _).alloc (by simp; omega) _) _) (fun h => by cases h)
      · have hz0 : (0 : Int) ≤ xz := by omega
        have hz1 : xz ≤ (65536 : Int) := by omega
        clear z1 g0 g1 g2 g3 g4
        have nw := fun (A B : Obj) (i : Nat) (u : Value) (h : (#[Value.string yn, .int .i64 yr, .int .i64 ya, .slice yb yl yc, .int .i64 yz] : Array Value)[i]? = some u) => (show ((( w.alloc A).alloc B).alloc (.cells #[Value.string yn, .int .i64 yr, .int .i64 ya, .slice yb yl yc, .int .i64 yz] 66)).cell? ⟨w.heap.size + 2, i, none⟩ = some u from by
          have := new_cell ((w.alloc A).alloc B) #[Value.string yn, .int .i64 yr, .int .i64 ya, .slice yb yl yc, .int .i64 yz] 66 i u h
          rw [World.size_alloc, World.size_alloc] at this
          exact this)
        have n0 := fun A B => nw A B 0 _ rfl
        have n1 := fun A B => nw A B 1 _ rfl
        have n2 := fun A B => nw A B 2 _ rfl
        have n3 := fun A B => nw A B 3 _ rfl
        have n4 := fun A B => nw A B 4 _ rfl
        clear nw
        go_region_held3 (fun w' => w'.cell? ⟨w.heap.size + 1, 2, none⟩ = some (.int .u32 xv) ∧ w'.cell? ⟨w.heap.size + 1, 3, none⟩ = some (.int .i64 xz) ∧ w'.cell? ⟨w.heap.size + 1, 5, none⟩ = some (.int .i64 xk) ∧ w'.cell? ⟨w.heap.size + 2, 0, none⟩ = some (.string yn) ∧ w'.cell? ⟨w.heap.size + 2, 1, none⟩ = some (.int .i64 yr) ∧ w'.cell? ⟨w.heap.size + 2, 2, none⟩ = some (.int .i64 ya) ∧
            w'.cell? ⟨w.heap.size + 2, 3, none⟩ = some (.slice yb yl yc) ∧ w'.cell? ⟨w.heap.size + 2, 4, none⟩ = some (.int .i64 yz))
          (first
            | go_keep
            | (go_split_ands
               refine ⟨?_, ?_, ?_, ?_, ?_, ?_, ?_, ?_⟩ <;> (rw [hb2.cell (low_of_cell (by assumption))]; assumption)))
          (first
            | (go_simp; go_at_call 46; refine (hlen _).mono ?_; rintro e w2 ⟨rfl, hb2⟩))
        all_goals go_wp2
        all_goals (go_ret; exact sym_end (bel_then (z3 _ _ _).drew (Nat.le_refl _) hb2) (fun _ => hlt.2))
  · go_wp2
    all_goals try (go_ret; exact sym_end (z1 _ _) (fun h => by first | cases h | (dsimp only; omega)))
end Go.Ev

/-
  Stage 3: the symbols.
-/
namespace Go.Ev
open Go.RowKit Go.Proofs Go.Rw
/-- What the symbols' check answers. -/
def SymsR (o : ObjT) (w : World) (e : Ending) (w' : World) : Prop := ∃ r : Bool, e = .returned (.bool r) ∧ Below w.heap.size w w' ∧ (r = true → o.syms.length ≤ 500 ∧ ∀ x ∈ o.syms, x.sec < (o.secs.length : Int))
theorem syms_no {o : ObjT} {w w' : World} (h : Below w.heap.size w w') : SymsR o w (.returned (.bool false)) w' := ⟨_, rfl, h, by simp⟩
set_option maxRecDepth 100000 in
set_option maxHeartbeats 2000000 in
theorem symbols_b {w : World} {v : Value} {o : ObjT} (h : ObjAt w v o) (hR : o.R) : Calls Tryz.prog 136 #[v] w (SymsR o w) := by
  obtain ⟨s1, s2, s3, s4, s5, rfl, k1, k2, k3, k4, k5⟩ := id h
  obtain ⟨a2, c2, rfl⟩ := rows_slice k2
  have hR2 := hR.2.1
  have hn2 := hR.2.2.2.2.2.2.1
  have z1 : ∀ A, Below w.heap.size w (w.alloc A) := fun A => (Below.refl w.heap.size w).alloc (Nat.le_refl _) A
  clear k1 k3 k4 k5
  go_enter Tryz.func136, Tryz.ntmps136
  go_wp2
  all_goals try (go_ret; exact syms_no (z1 _))
  have hl5 : o.syms.length ≤ 500 := by omega
  go_loopw [3] (fun i wr => ∃ k : Nat, k ≤ o.syms.length ∧ i = .int .i64 k ∧ Below (w.alloc (.cells #[s1, .slice a2 o.syms.length c2, s3, s4, s5] 28)).heap.size (w.alloc (.cells #[s1, .slice a2 o.syms.length c2, s3, s4, s5] 28)) wr ∧ (∀ j x, j < k → o.syms[j]? = some x → x.sec < (o.secs.length : Int))) (fun i _ => o.syms.length - (intOf i).toNat)
  case atStart => exact ⟨0, by omega, rfl, Below.refl _ _, fun j x hj => by omega⟩
  case round =>
    obtain ⟨k, hk, rfl, hbl, h1⟩ := hrel
    have hbw := bel_then (z1 _) (Nat.le_refl _) hbl
    have b0 := (hbl.cell (p := ⟨w.heap.size, 0, none⟩) (by simp)).trans (new_cell w _ 28 0 _ rfl)
    have b1 := (hbl.cell (p := ⟨w.heap.size, 1, none⟩) (by simp)).trans (new_cell w _ 28 1 _ rfl)
    have b2 := (hbl.cell (p := ⟨w.heap.size, 2, none⟩) (by simp)).trans (new_cell w _ 28 2 _ rfl)
    have b3 := (hbl.cell (p := ⟨w.heap.size, 3, none⟩) (by simp)).trans (new_cell w _ 28 3 _ rfl)
    have b4 := (hbl.cell (p := ⟨w.heap.size, 4, none⟩) (by simp)).trans (new_cell w _ 28 4 _ rfl)
    by_cases hlt : k < o.syms.length
    · obtain ⟨b, of, rfl⟩ := rows_some2 k2 hlt
      obtain ⟨⟨xn, xs, xv, xz, xb, xk⟩, hx⟩ : ∃ x, o.syms[k]? = some x := ⟨o.syms[k], by simp [hlt]⟩
      have hxR := hR2 _ (List.mem_of_getElem? hx)
      have hlt' : (k : Int) < (o.syms.length : Int) := by omega
      have hO := h.below hbw
      obtain ⟨g0, g1, g2, g3, g4, g5⟩ := rows_sym (k2.below hbw) hx
      dsimp only at g0 g1 g2 g3 g4 g5
      have hsym := fun w' (hw : ObjAt w' (.agg #[s1, .slice (some ⟨b, of, none⟩) o.syms.length c2, s3, s4, s5]) o) => symbol_b hw hR _ hxR
      dsimp only [SymT.v] at hsym
      have hnm := fun w' => is_name (w := w') xn hxR.2.2.2.2.2
      unfold NmR at hnm
      generalize nameV xn = nv at hnm
      have hx := Lib.hid hx
      have h1 := Lib.hid h1
      have hOd : ObjAt wr.drew _ o := hO.below (Below.refl _ _).drew
      go_wp2_with fail
      cases nv
      · go_quiet (exact Calls.quiet_of_same (hnm _))
        go_wp2
        go_ret
        exact syms_no (below_drewN hbw _)
      · go_region_held3 (fun w' => w'.cell? ⟨w.heap.size, 0, none⟩ = some s1 ∧ w'.cell? ⟨w.heap.size, 1, none⟩ = some (.slice (some ⟨b, of, none⟩) o.syms.length c2) ∧ w'.cell? ⟨w.heap.size, 2, none⟩ = some s3 ∧ w'.cell? ⟨w.heap.size, 3, none⟩ = some s4 ∧ w'.cell? ⟨w.heap.size, 4, none⟩ = some s5 ∧
              w'.cell? ⟨b, of + k * 6, none⟩ = some (.string xn) ∧ w'.cell? ⟨b, of + k * 6 + 1, none⟩ = some (.int .i64 xs) ∧ w'.cell? ⟨b, of + k * 6 + 2, none⟩ = some (.int .u32 xv) ∧ w'.cell? ⟨b, of + k * 6 + 3, none⟩ = some (.int .i64 xz) ∧ w'.cell? ⟨b, of + k * 6 + 4, none⟩ = some (.int .i64 xb) ∧ w'.cell? ⟨b, of + k * 6 + 5, none⟩ = some (.int .i64 xk))
            (first
              | go_keep
              | (go_split_ands
                 refine ⟨?_, ?_, ?_, ?_, ?_, ?_, ?_, ?_, ?_, ?_, ?_⟩ <;> (rw [hb2.cell (low_of_cell (by assumption))]; assumption)))
            (first
              | (go_simp; go_at_call 218; refine (hnm _).mono ?_; rintro e w2 ⟨rfl, rfl⟩)
              | (go_simp; go_at_call 219; refine (hsym _ (by assumption)).mono ?_; rintro e w2 ⟨r2, rfl, hb2, hr2⟩))
        all_goals go_wp2
        · go_ret
          exact syms_no (bel_then hbw.drew (Nat.le_refl _) hb2)
        · obtain rfl : r2 = true := by cases r2 <;> simp_all
          have hr2 := hr2 rfl
          have hbl2 := bel_then hbl.drew (Nat.le_refl _) (hb2.mono (by have := hbl.size; simpa using this))
          clear hb2 hbl b0 b1 b2 b3 b4 g0 g1 g2 g3 g4 g5 hO hOd hsym hnm hbw
          obtain ⟨wo, rfl⟩ : ∃ wo : World, wo = wr := ⟨_, rfl⟩
          go_loopw [4] (fun i wr => ∃ j : Nat, j ≤ k ∧ i = .int .i64 j ∧ Below (w.alloc (.cells #[s1, .slice (some ⟨b, of, none⟩) o.syms.length c2, s3, s4, s5] 28)).heap.size (w.alloc (.cells #[s1, .slice (some ⟨b, of, none⟩) o.syms.length c2, s3, s4, s5] 28)) wr) (fun i _ => k - (intOf i).toNat)
          case atStart => exact ⟨0, by omega, rfl, hbl2⟩
          case round =>
            obtain ⟨j, hj, rfl, hbj⟩ := hrel
            have hbw := bel_then (z1 _) (Nat.le_refl _) hbj
            have b1 := (hbj.cell (p := ⟨w.heap.size, 1, none⟩) (by simp)).trans (new_cell w _ 28 1 _ rfl)
            by_cases hjk : j < k
            · obtain ⟨⟨yn, ys, yv, yz, yb, yk⟩, hy⟩ : ∃ y, o.syms[j]? = some y := ⟨o.syms[j], by simp [Nat.lt_trans hjk hlt]⟩
              obtain ⟨p0, _, _, _, _, _⟩ := rows_sym (k2.below hbw) hy
              obtain ⟨q0, _, _, _, _, _⟩ := rows_sym (k2.below hbw) hx.out
              dsimp only at p0 q0
              have hj' : (j : Int) < (o.syms.length : Int) := by omega
              go_wp2
              go_quiet (fail)
              go_wp2
              · go_ret
                exact syms_no (below_drewN hbw _)
              · go_roundw
                case rel => (repeat apply Exists.intro); refine ⟨⟨j + 1, by omega, ?hh, below_drewN hbj _⟩, ?ff⟩; (case ff => rfl); (case hh => go_num)
                case measure => simp [intOf]; omega
            · go_wp2
              go_roundw
              case rel =>
                refine ⟨k + 1, by omega, by go_num, hbj, fun i x hi hx' => ?_⟩
                by_cases hik : i < k
                · exact h1.out i x hik hx'
                · obtain rfl : i = k := by omega
                  rw [hx.out] at hx'
                  cases hx'
                  exact hr2
              case measure => simp [intOf]; omega
    · have : k = o.syms.length := by omega
      subst this
      go_wp2
      go_ret
      refine ⟨_, rfl, hbw, fun _ => ⟨hl5, fun x hx => ?_⟩⟩
      obtain ⟨j, hj⟩ := List.getElem?_of_mem hx
      exact h1 j x (List.getElem?_eq_some_iff.1 hj).1 hj
end Go.Ev

