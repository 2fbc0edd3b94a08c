import Derived.Test.YtepopmplcjhfbaaGreatObG07
import Derived.Test.YtepopmplcjhfbaaGreatObG06
import Derived.Test.YtepopmplcjhfbaaGreatObG05
import Derived.Deep.LoopGhost
import Derived.Laws.StructEq
set_option linter.unusedSectionVars false
set_option linter.unusedVariables false
set_option linter.unusedSimpArgs false
set_option linter.unnecessarySimpa false
namespace Go.Ev
open Go.RowKit Go.Proofs Go.Rw
def RSteps (l : List RelT) : Prop := ∀ (j : Nat) (x y : RelT), l[j]? = some x → l[j + 1]? = some y → x.sec < y.sec ∨ (x.sec = y.sec ∧ x.off + widthV x.kind ≤ y.off)
set_option maxRecDepth 100000 in
set_option maxHeartbeats 4000000 in
theorem fieldOf_c {w : World} (s o k y a : Int) : Calls Tryz.prog 130 #[.agg #[.int .i64 s, .int .i64 o, .int .i64 k, .int .i64 y, .int .i64 a]] w fun e w' => e = .returned (.agg #[.int .i64 s, .int .i64 o, .int .i64 (widthV k)]) ∧ Below w.heap.size w w' := by
  have hS := fun W => size_x (w := W) k
  generalize widthV k = z at hS ⊢
  have z2 : ∀ A B, Below w.heap.size w ((w.alloc A).alloc B) := fun A B => (one_below w A).alloc (by simp) B
  go_enter Tryz.func130, Tryz.ntmps130
  go_wp2_with fail
  go_region_with (go_at_call 145; refine (hS _).mono ?_; rintro e w1 ⟨rfl, rfl⟩)
  all_goals (try go_wp2_with fail)
  all_goals (
    refine bodyPost_ret (v := .agg #[.int .i64 s, .int .i64 o, .int .i64 z]) (by simp [results, Tryz.f130, go_sem]) rfl ?_
    refine ⟨rfl, ?_⟩
    first
      | exact (z2 _ _).drew
      | exact z2 _ _
      | exact ((z2 _ _).drew).setCell (p := ⟨w.heap.size + 1, 0, none⟩) (by simp) _
      | trace_state)
theorem enters130 : ∀ args w, (callFunc 130 args).run Tryz.prog w = .ok (.enter 130 args) w := enters_of Tryz.func130 (by kernel_rfl) rfl
set_option maxRecDepth 100000 in
set_option maxHeartbeats 1000000 in
theorem apart_rel {w : World} {s : Value} {l : List RelT} (h : RowsAt w s RelT.cells 5 l) (hl : l.length ≤ 140737488351232) (hr : ∀ x ∈ l, (inI64 x.off ∧ -140737488351232 ≤ x.off ∧ x.off ≤ 140737488351232)) :
    Calls Tryz.prog 163 #[s, .func (.func 130) #[] #[]] w fun e w' => e = .returned (.bool (dec (RSteps l))) ∧ Below w.heap.size w w' := by
  obtain ⟨a, c, rfl⟩ := rows_slice h
  obtain ⟨r, hrr⟩ : ∃ r, r = dec (RSteps l) := ⟨_, rfl⟩
  rw [← hrr]
  have hrr := Lib.hid hrr
  have e130 := enters130
  go_enter Tryz.func163, Tryz.ntmps163
  go_wp2
  go_loopw [8] (fun i wr => ∃ k : Nat, k ≤ l.length ∧ i = .int .i64 k ∧ Below w.heap.size w wr ∧ (∀ (j : Nat) (x y : RelT), j + 1 < k → l[j]? = some x → l[j + 1]? = some y → x.sec < y.sec ∨ (x.sec = y.sec ∧ x.off + widthV x.kind ≤ y.off))) (fun i _ => l.length - (intOf i).toNat)
  case atStart => exact ⟨0, by omega, rfl, Below.refl _ _, fun j x y hj => by omega⟩
  case round =>
    obtain ⟨k, hk, rfl, hbl, hA⟩ := hrel
    have hA := Lib.hid hA
    by_cases hlt : k < l.length
    · obtain ⟨b, of, rfl⟩ := rows_some2 h hlt
      have hlt' : (k : Int) < (l.length : Int) := by omega
      have hB := hbl.size
      by_cases hk0 : 0 < k
      · obtain ⟨x, hx⟩ : ∃ x, l[k]? = some x := ⟨l[k], by simp [hlt]⟩
        obtain ⟨y, hy⟩ : ∃ y, l[k - 1]? = some y := ⟨l[k - 1], List.getElem?_eq_getElem (by omega)⟩
        have hxr := hr x (List.mem_of_getElem? hx)
        have hyr := hr y (List.mem_of_getElem? hy)
        obtain ⟨g0, g1, g2, g3, g4⟩ := rows_rel (h.below hbl) hx
        obtain ⟨p0, p1, p2, p3, p4⟩ := rows_rel (h.below hbl) hy
        have hx := Lib.hid hx
        have hy := Lib.hid hy
        obtain ⟨xs, xo, xf, xl, xa⟩ := x
        obtain ⟨ys, yo, yf, yl, ya⟩ := y
        unfold inI64 at hxr hyr
        dsimp only at g0 g1 g2 g3 g4 p0 p1 p2 p3 p4 hxr hyr
        have hwx := width_in xf
        have hwy := width_in yf
        have t0 := fun d os => cell_regrown g0 d os
        have t1 := fun d os => cell_regrown g1 d os
        have t2 := fun d os => cell_regrown g2 d os
        have t3 := fun d os => cell_regrown g3 d os
        have u0 := fun d os => cell_regrown p0 d os
        have u1 := fun d os => cell_regrown p1 d os
        have u2 := fun d os => cell_regrown p2 d os
        have u3 := fun d os => cell_regrown p3 d os
        have t4 := fun d os => cell_regrown g4 d os
        have u4 := fun d os => cell_regrown p4 d os
        have hk1 : (0 : Int) < (k : Int) := by omega
        have hkd : decide ((0 : Int) < (k : Int)) = true := decide_eq_true hk1
        have hkd2 : decide (0 < k) = true := decide_eq_true hk0
        have hki : (k : Int) - 1 = ((k - 1 : Nat) : Int) := by omega
        have hkw : wrap64 ((k : Int) - 1) = ((k - 1 : Nat) : Int) := by unfold wrap64; omega
        have hkl : ((k - 1 : Nat) : Int) < (l.length : Int) := by omega
        by_cases hc : ys < xs ∨ (ys = xs ∧ yo + widthV yf ≤ xo)
        · go_wp2_with fail
          refine wp_region_quiet_below (by kernel_rfl) (by kernel_rfl) ?_
          repeat (go_big_quiet_step (first | exact Calls.regrown_of (fieldOf_c _ _ _ _ _) | exact Calls.regrown_of (ahead_yes hc (by omega) (by omega))))
          refine wpQuiet_nil ?_
          intro _ hw'
          obtain ⟨⟨dq, osq⟩, hw''⟩ := hw'
          subst hw''
          have hb2 := below_regrown wr dq osq
          go_wp2
          go_roundw
          case rel =>
            refine ⟨k + 1, by omega, by go_num, bel_then hbl (Nat.le_refl _) hb2, fun j x' y' hj hx' hy' => ?_⟩
            by_cases hjk : j + 1 < k
            · exact hA.out j x' y' hjk hx' hy'
            · obtain rfl : k = j + 1 := by omega
              rw [hx.out] at hy'
              have hy2 := hy.out
              rw [Nat.add_sub_cancel, hx'] at hy2
              cases hy'
              cases hy2
              dsimp only
              omega
          case measure => simp [intOf]; omega
        · have hf := Lib.hid (show r = false by
            rw [hrr.out]
            refine dec_no fun hS => hc ?_
            have := hS (k - 1) _ _ hy.out (by rw [show k - 1 + 1 = k from by omega]; exact hx.out)
            dsimp only at this
            omega)
          go_wp2_with fail
          refine wp_region_quiet_below (by kernel_rfl) (by kernel_rfl) ?_
          repeat (go_big_quiet_step (first | exact Calls.regrown_of (fieldOf_c _ _ _ _ _) | exact Calls.regrown_of (ahead_no hc (by omega) (by omega))))
          refine wpQuiet_nil ?_
          intro _ hw'
          obtain ⟨⟨dq, osq⟩, hw''⟩ := hw'
          subst hw''
          have hb2 := below_regrown wr dq osq
          go_wp2
          go_ret
          exact ⟨by rw [hf.out]; rfl, bel_then hbl (Nat.le_refl _) hb2⟩
      · obtain rfl : k = 0 := by omega
        have hkd : decide ((0 : Int) < 0) = false := decide_eq_false (by omega)
        go_wp2_with fail
        go_quiet (fail)
        go_wp2
        go_roundw
        case rel => exact ⟨1, by omega, by go_num, below_drewN hbl _, fun j x' y' hj => by omega⟩
        case measure => simp [intOf]; omega
    · have : k = l.length := by omega
      subst this
      have hf := Lib.hid (show r = true by
        rw [hrr.out]
        exact dec_yes fun j x y hx hy => hA.out j x y (List.getElem?_eq_some_iff.1 hy).1 hx hy)
      go_wp2
      go_ret
      exact ⟨by rw [hf.out]; rfl, hbl⟩
end Go.Ev

namespace Go.Ev
open Go.RowKit Go.Proofs Go.Rw
set_option maxRecDepth 100000 in
set_option maxHeartbeats 4000000 in
theorem eqLines_c {w : World} {s1 s2 : Value} {l m : List LineT} (h1 : RowsAt w s1 LineT.cells 4 l) (h2 : RowsAt w s2 LineT.cells 4 m) (hl : l.length ≤ 140737488351232) (hm : m.length ≤ 140737488351232) :
    Calls Tryz.prog 32 #[s1, s2] w (BelR (dec (l = m)) w) := by
  obtain ⟨a1, c1, rfl⟩ := rows_slice h1
  obtain ⟨a2, c2, rfl⟩ := rows_slice h2
  obtain ⟨r, hr0⟩ : ∃ r, r = dec (l = m) := ⟨_, rfl⟩
  rw [← hr0]
  have hrr := Lib.hid hr0
  clear hr0
  by_cases hln : l.length = m.length
  · have hln2 := Lib.hid hln
    rw [← hln]
    clear hln
    go_enter Tryz.func32, Tryz.ntmps32
    go_wp2
    go_loopg [13] l.length (fun gn i wr => ∃ k : Nat, gn + k = l.length ∧ k ≤ l.length ∧ i = .int .i64 k ∧ Below w.heap.size w wr ∧ (∀ j, j < k → l[j]? = m[j]?))
    case atStart => exact ⟨0, by omega, by omega, rfl, Below.refl _ _, fun j hj => by omega⟩
    case round =>
      obtain ⟨k, hgk, hk, rfl, hbl, hA0⟩ := hrel
      have hA := Lib.hid hA0
      clear hA0
      by_cases hlt : k < l.length
      · have hlm : k < m.length := by have := hln2.out; omega
        obtain ⟨b1, o1, rfl⟩ := rows_some2 h1 hlt
        obtain ⟨b2, o2, rfl⟩ := rows_some2 h2 hlm
        have hlt' : (k : Int) < (l.length : Int) := by omega
        obtain ⟨⟨xs, xo, xf, xl⟩, hx⟩ : ∃ x, l[k]? = some x := ⟨l[k], by simp [hlt]⟩
        obtain ⟨⟨ys, yo, yf, yl⟩, hy⟩ : ∃ x, m[k]? = some x := ⟨m[k], by simp [hlm]⟩
        obtain ⟨p0, p1, p2, p3⟩ := rows_line (h1.below hbl) hx
        obtain ⟨q0, q1, q2, q3⟩ := rows_line (h2.below hbl) hy
        dsimp only at p0 q0 p1 q1 p2 q2 p3 q3
        have hxH := Lib.hid hx
        have hyH := Lib.hid hy
        clear hx hy h1 h2
        by_cases e0 : xs = ys
        case neg =>
          have hne := Lib.hid (show r = false by
            rw [hrr.out]
            refine dec_no fun h => ?_
            have h2 := hxH.out
            rw [h, hyH.out] at h2
            injection h2 with h2
            injection h2
            exact e0 (by first | assumption | (symm; assumption)))
          have hb : (xs == ys) = false := beq_eq_false_iff_ne.2 e0
          skip
          go_wp2
          go_quiet (fail)
          go_wp2
          go_ret
          exact ⟨by rw [hne.out]; rfl, below_drewN hbl _⟩
        subst e0
        by_cases e1 : xo = yo
        case neg =>
          have hne := Lib.hid (show r = false by
            rw [hrr.out]
            refine dec_no fun h => ?_
            have h2 := hxH.out
            rw [h, hyH.out] at h2
            injection h2 with h2
            injection h2
            exact e1 (by first | assumption | (symm; assumption)))
          have hb : (xo == yo) = false := beq_eq_false_iff_ne.2 e1
          skip
          go_wp2
          go_quiet (fail)
          go_wp2
          go_ret
          exact ⟨by rw [hne.out]; rfl, below_drewN hbl _⟩
        subst e1
        by_cases e2 : xf = yf
        case neg =>
          have hne := Lib.hid (show r = false by
            rw [hrr.out]
            refine dec_no fun h => ?_
            have h2 := hxH.out
            rw [h, hyH.out] at h2
            injection h2 with h2
            injection h2
            exact e2 (by first | assumption | (symm; assumption)))
          have hb : (xf == yf) = false := beq_eq_false_iff_ne.2 e2
          skip
          go_wp2
          go_quiet (fail)
          go_wp2
          go_ret
          exact ⟨by rw [hne.out]; rfl, below_drewN hbl _⟩
        subst e2
        by_cases e3 : xl = yl
        case neg =>
          have hne := Lib.hid (show r = false by
            rw [hrr.out]
            refine dec_no fun h => ?_
            have h2 := hxH.out
            rw [h, hyH.out] at h2
            injection h2 with h2
            injection h2
            exact e3 (by first | assumption | (symm; assumption)))
          have hb : (xl == yl) = false := beq_eq_false_iff_ne.2 e3
          skip
          go_wp2
          go_quiet (fail)
          go_wp2
          go_ret
          exact ⟨by rw [hne.out]; rfl, below_drewN hbl _⟩
        subst e3
        go_wp2
        go_quiet (fail)
        go_wp2
        go_roundg (gk - 1)
        case measure => omega
        case rel =>
          refine ⟨k + 1, by omega, by omega, by go_num, below_drewN hbl _, fun j hj => ?_⟩
          by_cases hjk : j < k
          · exact hA.out j hjk
          · obtain rfl : j = k := by omega
            rw [hxH.out, hyH.out]
      · obtain rfl : k = l.length := by omega
        have hf := Lib.hid (show r = true by
          rw [hrr.out]
          refine dec_yes (List.ext_getElem? fun j => ?_)
          by_cases hj : j < l.length
          · exact hA.out j hj
          · have := hln2.out
            rw [List.getElem?_eq_none (by omega), List.getElem?_eq_none (by omega)])
        go_wp2
        go_ret
        exact ⟨by rw [hf.out]; rfl, hbl⟩
  · have hf := Lib.hid (show r = false by rw [hrr.out]; exact dec_no fun h => hln (by rw [h]))
    have hb : ((l.length : Int) == (m.length : Int)) = false := by simp; omega
    go_enter Tryz.func32, Tryz.ntmps32
    go_wp2
    go_ret
    exact ⟨by rw [hf.out]; rfl, Below.refl _ _⟩
set_option maxRecDepth 100000 in
set_option maxHeartbeats 4000000 in
theorem sameLines_c {w : World} {s1 s2 : Value} {l m : List LineT} (h1 : RowsAt w s1 LineT.cells 4 l) (h2 : RowsAt w s2 LineT.cells 4 m) (hl : l.length ≤ 140737488351232) (hm : m.length ≤ 140737488351232) :
    Calls Tryz.prog 74 #[s1, s2] w (BelR (dec (l = m)) w) := by
  obtain ⟨a1, c1, rfl⟩ := rows_slice h1
  obtain ⟨a2, c2, rfl⟩ := rows_slice h2
  obtain ⟨r, hr0⟩ : ∃ r, r = dec (l = m) := ⟨_, rfl⟩
  rw [← hr0]
  have hrr := Lib.hid hr0
  clear hr0
  by_cases hln : l.length = m.length
  · have hln2 := Lib.hid hln
    rw [← hln]
    clear hln
    go_enter Tryz.func74, Tryz.ntmps74
    go_wp2
    go_loopg [5] l.length (fun gn i wr => ∃ k : Nat, gn + k = l.length ∧ k ≤ l.length ∧ i = .int .i64 k ∧ Below w.heap.size w wr ∧ (∀ j, j < k → l[j]? = m[j]?))
    case atStart => exact ⟨0, by omega, by omega, rfl, Below.refl _ _, fun j hj => by omega⟩
    case round =>
      obtain ⟨k, hgk, hk, rfl, hbl, hA0⟩ := hrel
      have hA := Lib.hid hA0
      clear hA0
      by_cases hlt : k < l.length
      · have hlm : k < m.length := by have := hln2.out; omega
        obtain ⟨b1, o1, rfl⟩ := rows_some2 h1 hlt
        obtain ⟨b2, o2, rfl⟩ := rows_some2 h2 hlm
        have hlt' : (k : Int) < (l.length : Int) := by omega
        obtain ⟨⟨xs, xo, xf, xl⟩, hx⟩ : ∃ x, l[k]? = some x := ⟨l[k], by simp [hlt]⟩
        obtain ⟨⟨ys, yo, yf, yl⟩, hy⟩ : ∃ x, m[k]? = some x := ⟨m[k], by simp [hlm]⟩
        obtain ⟨p0, p1, p2, p3⟩ := rows_line (h1.below hbl) hx
        obtain ⟨q0, q1, q2, q3⟩ := rows_line (h2.below hbl) hy
        dsimp only at p0 q0 p1 q1 p2 q2 p3 q3
        have hxH := Lib.hid hx
        have hyH := Lib.hid hy
        clear hx hy h1 h2
        by_cases e0 : xs = ys
        case neg =>
          have hne := Lib.hid (show r = false by
            rw [hrr.out]
            refine dec_no fun h => ?_
            have h2 := hxH.out
            rw [h, hyH.out] at h2
            injection h2 with h2
            injection h2
            exact e0 (by first | assumption | (symm; assumption)))
          have hb : (xs == ys) = false := beq_eq_false_iff_ne.2 e0
          skip
          go_wp2
          go_quiet (fail)
          go_wp2
          go_ret
          exact ⟨by rw [hne.out]; rfl, below_drewN hbl _⟩
        subst e0
        by_cases e1 : xo = yo
        case neg =>
          have hne := Lib.hid (show r = false by
            rw [hrr.out]
            refine dec_no fun h => ?_
            have h2 := hxH.out
            rw [h, hyH.out] at h2
            injection h2 with h2
            injection h2
            exact e1 (by first | assumption | (symm; assumption)))
          have hb : (xo == yo) = false := beq_eq_false_iff_ne.2 e1
          skip
          go_wp2
          go_quiet (fail)
          go_wp2
          go_ret
          exact ⟨by rw [hne.out]; rfl, below_drewN hbl _⟩
        subst e1
        by_cases e2 : xf = yf
        case neg =>
          have hne := Lib.hid (show r = false by
            rw [hrr.out]
            refine dec_no fun h => ?_
            have h2 := hxH.out
            rw [h, hyH.out] at h2
            injection h2 with h2
            injection h2
            exact e2 (by first | assumption | (symm; assumption)))
          have hb : (xf == yf) = false := beq_eq_false_iff_ne.2 e2
          skip
          go_wp2
          go_quiet (fail)
          go_wp2
          go_ret
          exact ⟨by rw [hne.out]; rfl, below_drewN hbl _⟩
        subst e2
        by_cases e3 : xl = yl
        case neg =>
          have hne := Lib.hid (show r = false by
            rw [hrr.out]
            refine dec_no fun h => ?_
            have h2 := hxH.out
            rw [h, hyH.out] at h2
            injection h2 with h2
            injection h2
            exact e3 (by first | assumption | (symm; assumption)))
          have hb : (xl == yl) = false := beq_eq_false_iff_ne.2 e3
          skip
          go_wp2
          go_quiet (fail)
          go_wp2
          go_ret
          exact ⟨by rw [hne.out]; rfl, below_drewN hbl _⟩
        subst e3
        go_wp2
        go_quiet (fail)
        go_wp2
        go_roundg (gk - 1)
        case measure => omega
        case rel =>
          refine ⟨k + 1, by omega, by omega, by go_num, below_drewN hbl _, fun j hj => ?_⟩
          by_cases hjk : j < k
          · exact hA.out j hjk
          · obtain rfl : j = k := by omega
            rw [hxH.out, hyH.out]
      · obtain rfl : k = l.length := by omega
        have hf := Lib.hid (show r = true by
          rw [hrr.out]
          refine dec_yes (List.ext_getElem? fun j => ?_)
          by_cases hj : j < l.length
          · exact hA.out j hj
          · have := hln2.out
            rw [List.getElem?_eq_none (by omega), List.getElem?_eq_none (by omega)])
        go_wp2
        go_ret
        exact ⟨by rw [hf.out]; rfl, hbl⟩
  · have hf := Lib.hid (show r = false by rw [hrr.out]; exact dec_no fun h => hln (by rw [h]))
    have hb : ((l.length : Int) == (m.length : Int)) = false := by simp; omega
    go_enter Tryz.func74, Tryz.ntmps74
    go_wp2
    go_ret
    exact ⟨by rw [hf.out]; rfl, Below.refl _ _⟩
end Go.Ev

namespace Go.Ev
open Go.RowKit Go.Proofs Go.Rw
def SecIn (w : World) (a : Option Addr) (n : Nat) (B : ByteArray) : Prop :=
  (n = 0 ∧ B = strOf 0 (fun _ => 0)) ∨ ∃ (b o : Nat) (q : Nat → Int), a = some ⟨b, o, none⟩ ∧ B = strOf n q ∧ (∀ j, InB (q j)) ∧ ∀ j, j < n → w.cell? ⟨b, o + j, none⟩ = some (.int .u8 (q j))
theorem SecIn.below {w w' : World} {a : Option Addr} {n : Nat} {B : ByteArray} (h : SecIn w a n B) (hb : Below w.heap.size w w') : SecIn w' a n B := by
  rcases h with h | ⟨b, o, q, rfl, hB, hq, hc⟩
  · exact .inl h
  · exact .inr ⟨b, o, q, rfl, hB, hq, fun j hj => (hb.cell (low_of_cell (hc j hj))).trans (hc j hj)⟩
theorem conv_sec {w : World} {a : Option Addr} {n cap : Nat} {B : ByteArray} (h : SecIn w a n B) : (convert 34 9 (.slice a n cap)).run Tryz.prog w = .ok (.string B) w := by
  rcases h with ⟨rfl, rfl⟩ | ⟨b, o, q, rfl, rfl, _, hc⟩
  · rw [run_convert_bytes_string w 34 9 5 a 0 cap Tryz.underlying34 Tryz.underlying5 Tryz.underlying9]
    cases a with
    | none => simp [Conv.bytesToString, strOf]
    | some a => exact run_bytesToString w _ 0 cap _ (show (loadCells a 0).run Tryz.prog w = .ok (((List.range 0).map (fun _ => (0 : Int))).map (Value.int .u8)).toArray w from by simp [loadCells, loadCellsFrom])
  · exact conv_bytes (.inr ⟨b, o, rfl, hc⟩)
theorem secIn_one {w : World} {a : Option Addr} {n : Nat} {X Y : ByteArray} (h1 : SecIn w a n X) (h2 : SecIn w a n Y) : X = Y := by
  have e1 := conv_sec (cap := 0) h1
  have e2 := conv_sec (cap := 0) h2
  rw [e1] at e2
  simp only [Result.ok.injEq, Value.string.injEq, and_true] at e2
  exact e2
set_option maxRecDepth 100000 in
set_option maxHeartbeats 1000000 in
theorem bequal_x {w : World} {a b : Option Addr} {n m c1 c2 : Nat} {X Y : ByteArray} (ha : SecIn w a n X) (hb : SecIn w b m Y) :
    Calls Tryz.prog 23 #[.slice a n c1, .slice b m c2] w fun e w' => e = .returned (.bool (dec (X = Y))) ∧ w' = w := by
  have h1 := conv_sec (cap := c1) ha
  have h2 := conv_sec (cap := c2) hb
  clear ha hb
  by_cases e : X = Y
  · rw [dec_yes e]
    subst e
    go_enter Tryz.func23, Tryz.ntmps23
    go_wp2
    go_ret
    exact ⟨rfl, rfl⟩
  · rw [dec_no e]
    have hb := bytes_ne e
    go_enter Tryz.func23, Tryz.ntmps23
    go_wp2
    go_ret
    exact ⟨rfl, rfl⟩
set_option maxRecDepth 100000 in
set_option maxHeartbeats 1000000 in
theorem sameB_c {w : World} {a b : Option Addr} {n m c1 c2 : Nat} {X Y : ByteArray} (ha : SecIn w a n X) (hb : SecIn w b m Y) :
    Calls Tryz.prog 75 #[.slice a n c1, .slice b m c2] w fun e w' => e = .returned (.bool (dec (X = Y))) ∧ w' = w := by
  have h1 := conv_sec (cap := c1) ha
  have h2 := conv_sec (cap := c2) hb
  clear ha hb
  by_cases e : X = Y
  · rw [dec_yes e]
    subst e
    go_enter Tryz.func75, Tryz.ntmps75
    go_wp2
    go_ret
    exact ⟨rfl, rfl⟩
  · rw [dec_no e]
    have hb := bytes_ne e
    go_enter Tryz.func75, Tryz.ntmps75
    go_wp2
    go_ret
    exact ⟨rfl, rfl⟩
def SecEq (x y : SecT) (X Y : ByteArray) : Prop := x.name = y.name ∧ x.rights = y.rights ∧ x.align = y.align ∧ X = Y ∧ x.zero = y.zero
def SecsEq (C : SecT → ByteArray) (l m : List SecT) : Prop := l.length = m.length ∧ ∀ (k : Nat) (x y : SecT), l[k]? = some x → m[k]? = some y → SecEq x y (C x) (C y)
end Go.Ev

namespace Go.Ev
open Go.RowKit Go.Proofs Go.Rw
def RelsOk (o : ObjT) : Prop := o.rels.length ≤ 2000 ∧ (∀ x ∈ o.rels, RelOk o x) ∧ RSteps o.rels
theorem rel_off {o : ObjT} {x : RelT} (hR : o.R) (hx : x.R) (h : RelOk o x) : inI64 x.off ∧ -140737488351232 ≤ x.off ∧ x.off ≤ 140737488351232 := by
  obtain ⟨-, -, -, -, y, hy, h1, h2⟩ := h
  have := (hR.1 y (List.mem_of_getElem? hy)).2.2.1
  have := width_in x.kind
  exact ⟨hx.2.1, by omega, by omega⟩
theorem enters160 : ∀ args w, (callFunc 160 args).run Tryz.prog w = .ok (.enter 160 args) w := enters_of Tryz.func160 (by kernel_rfl) rfl
set_option maxRecDepth 100000 in
set_option maxHeartbeats 1000000 in
theorem crel_c {w : World} {B : Nat} {s1 s2 s3 s4 s5 : Value} {o : ObjT} (h : ObjAt w (.agg #[s1, s2, s3, s4, s5]) o) (hB : w.heap[B]? = some (.cells #[s1, s2, s3, s4, s5] 28 (0, 0))) (hR : o.R) (x : RelT) (hx : x.R) :
    Calls Tryz.prog 160 #[.agg #[.int .i64 x.sec, .int .i64 x.off, .int .i64 x.kind, .int .i64 x.sym, .int .i64 x.add], .pointer (some ⟨B, 0, none⟩)] w (BelR (dec (RelOk o x)) w) := by
  have b0 : w.cell? ⟨B, 0, none⟩ = some s1 := by simp [World.cell?, hB]
  have b1 : w.cell? ⟨B, 1, none⟩ = some s2 := by simp [World.cell?, hB]
  have b2 : w.cell? ⟨B, 2, none⟩ = some s3 := by simp [World.cell?, hB]
  have b3 : w.cell? ⟨B, 3, none⟩ = some s4 := by simp [World.cell?, hB]
  have b4 : w.cell? ⟨B, 4, none⟩ = some s5 := by simp [World.cell?, hB]
  have z : ∀ A, Below w.heap.size w (w.alloc A) := fun A => (Below.refl w.heap.size w).alloc (Nat.le_refl _) A
  have hC := fun A => prel_c (h.below (z A)) hR x hx
  have c0 := fun A => (World.cell?_alloc_lt w A _ (low_of_cell b0)).trans b0
  have c1 := fun A => (World.cell?_alloc_lt w A _ (low_of_cell b1)).trans b1
  have c2 := fun A => (World.cell?_alloc_lt w A _ (low_of_cell b2)).trans b2
  have c3 := fun A => (World.cell?_alloc_lt w A _ (low_of_cell b3)).trans b3
  have c4 := fun A => (World.cell?_alloc_lt w A _ (low_of_cell b4)).trans b4
  clear h hB hR hx
  obtain ⟨xs, xo, xk, xy, xa⟩ := x
  dsimp only at *
  go_enter Tryz.func160, Tryz.ntmps160
  go_wp2_with (go_at_call 161; refine (hC _).mono ?_; rintro e w1 ⟨rfl, hb1⟩)
  go_ret
  exact ⟨rfl, bel_then (z _) (Nat.le_refl _) hb1⟩
set_option maxRecDepth 100000 in
set_option maxHeartbeats 4000000 in
theorem prels_c {w : World} {v : Value} {o : ObjT} (h : ObjAt w v o) (hR : o.R) : Calls Tryz.prog 67 #[v] w (BelR (dec (RelsOk o)) w) := by
  have hmf : ∀ (fn : Fn) (first cap : Array Value) (w : World), (Instr.makeFunc fn first cap).run Tryz.prog w = .ok (.func fn first cap) w := fun _ _ _ _ => rfl
  obtain ⟨s1, s2, s3, s4, s5, rfl, k1, k2, k3, k4, k5⟩ := h
  have hO : ObjAt w (.agg #[s1, s2, s3, s4, s5]) o := ⟨s1, s2, s3, s4, s5, rfl, k1, k2, k3, k4, k5⟩
  have z : ∀ A, Below w.heap.size w (w.alloc A) := fun A => (Below.refl w.heap.size w).alloc (Nat.le_refl _) A
  obtain ⟨W, hW⟩ : ∃ W, W = w.alloc (.cells #[s1, s2, s3, s4, s5] 28) := ⟨_, rfl⟩
  have hbW : Below w.heap.size w W := by rw [hW]; exact z _
  have hBx : W.heap[w.heap.size]? = some (.cells #[s1, s2, s3, s4, s5] 28 (0, 0)) := by rw [hW]; exact heap_alloc_new w _
  have hlt : w.heap.size < W.heap.size := by rw [hW, World.size_alloc]; omega
  have hE := every_rel (k3.below hbW) hR.2.2.2.2.2.2.2.1 2000 160 #[.pointer (some ⟨w.heap.size, 0, none⟩)] enters160 (fun x => dec (RelOk o x))
    (fun W' hW' x hx => crel_c (hO.below (hbW.trans (hW'.mono (Nat.le_of_lt hlt)))) ((hW'.block _ hlt).trans hBx) hR x (hR.2.2.1 x hx))
  have hDf := fun (hall : ∀ x ∈ o.rels, RelOk o x) W' (hW' : Below W.heap.size W W') => apart_rel (k3.below (hbW.trans (hW'.mono (Nat.le_of_lt hlt)))) hR.2.2.2.2.2.2.2.1 (fun x hx => rel_off hR (hR.2.2.1 x hx) (hall x hx))
  have b1 : ∀ W', Below W.heap.size W W' → W'.cell? ⟨w.heap.size, 2, none⟩ = some s3 := fun W' hW' => by
    have := (hW'.block _ hlt).trans hBx
    simp [World.cell?, this]
  have b1W := b1 W (Below.refl _ _)
  obtain ⟨r, hr0⟩ : ∃ r, r = dec (RelsOk o) := ⟨_, rfl⟩
  rw [← hr0]
  have hrr := Lib.hid hr0
  clear hr0 hO k1 k2 k4 k5 hBx
  by_cases hc : (o.rels.length : Int) ≤ 2000 ∧ ∀ x ∈ o.rels, RelOk o x
  · rw [show (decide ((o.rels.length : Int) ≤ 2000) && o.rels.all fun x => dec (RelOk o x)) = true by
      simp only [Bool.and_eq_true, decide_eq_true_eq, List.all_eq_true]
      exact ⟨hc.1, fun x hx => dec_yes (hc.2 x hx)⟩] at hE
    have hres := Lib.hid (show r = dec (RSteps o.rels) by
      rw [hrr.out]
      unfold dec
      congr 1
      exact propext ⟨fun h => h.2.2, fun h => ⟨by have := hc.1; omega, hc.2, h⟩⟩)
    have hDf := hDf hc.2
    generalize dec (RSteps o.rels) = q at hres hDf
    clear hc k3 hR
    go_enter Tryz.func67, Tryz.ntmps67
    go_wp2_with fail
    rw [← hW]
    clear hW
    go_wp2_with (go_at_call 162; refine hE.mono ?_; rintro e w1 ⟨rfl, hb1⟩)
    have b1w := b1 _ hb1
    go_wp2_with (go_at_call 163; refine (hDf _ hb1).mono ?_; rintro e w2 ⟨rfl, hb2⟩)
    go_ret
    exact ⟨by rw [hres.out]; rfl, bel_then (bel_then hbW (Nat.le_refl _) hb1) (Nat.le_refl _) hb2⟩
  · rw [show (decide ((o.rels.length : Int) ≤ 2000) && o.rels.all fun x => dec (RelOk o x)) = false by
      rw [← Bool.not_eq_true]
      simp only [Bool.and_eq_true, decide_eq_true_eq, List.all_eq_true]
      exact fun h => hc ⟨h.1, fun x hx => dec_iff.1 (h.2 x hx)⟩] at hE
    have hres := Lib.hid (show r = false by
      rw [hrr.out]
      exact dec_no fun h => hc ⟨by have := h.1; omega, h.2.1⟩)
    clear hc k3 hR hDf
    go_enter Tryz.func67, Tryz.ntmps67
    go_wp2_with fail
    rw [← hW]
    clear hW
    go_wp2_with (go_at_call 162; refine hE.mono ?_; rintro e w1 ⟨rfl, hb1⟩)
    go_ret
    exact ⟨by rw [hres.out]; rfl, bel_then hbW (Nat.le_refl _) hb1⟩
end Go.Ev

namespace Go.Ev
open Go.RowKit Go.Proofs Go.Rw
def LineIn (o : ObjT) (x : LineT) : Prop :=
  (0 ≤ x.sec ∧ x.sec < (o.secs.length : Int)) ∧ (∃ y, o.secs[x.sec.toNat]? = some y ∧ 0 ≤ x.off ∧ x.off < (y.bn : Int) + y.zero) ∧ (x.line = 0 ∨ (0 ≤ x.file ∧ x.file < (o.files.length : Int)))
theorem isIndexF_c {w : World} (i : Int) (a : Option Addr) (n c : Nat) {r : Bool} (h : r = decide (0 ≤ i ∧ i < (n : Int))) : Calls Tryz.prog 169 #[.int .i64 i, .slice a n c] w (BelR r w) := by
  by_cases h0 : 0 ≤ i
  · by_cases h1 : i < (n : Int)
    · rw [decide_eq_true ⟨h0, h1⟩] at h
      subst h
      go_enter Tryz.func169, Tryz.ntmps169
      go_wp2
      go_ret
      exact ⟨rfl, Below.refl _ _⟩
    · rw [decide_eq_false (fun h => h1 h.2)] at h
      subst h
      go_enter Tryz.func169, Tryz.ntmps169
      go_wp2
      go_ret
      exact ⟨rfl, Below.refl _ _⟩
  · rw [decide_eq_false (fun h => h0 h.1)] at h
    subst h
    go_enter Tryz.func169, Tryz.ntmps169
    go_wp2
    go_ret
    exact ⟨rfl, Below.refl _ _⟩
theorem hasByte_x {w : World} (s : SecT) (hb : s.bn ≤ 140737488351232) (hz : 0 ≤ s.zero ∧ s.zero ≤ 65536) (i : Int) (hi : inI64 i) {r : Bool} (h : r = decide (0 ≤ i ∧ i < (s.bn : Int) + s.zero)) :
    Calls Tryz.prog 108 #[.agg #[.string s.name, .int .i64 s.rights, .int .i64 s.align, .slice s.ba s.bn s.bc, .int .i64 s.zero], .int .i64 i] w (BelR r w) := by
  have z1 : ∀ A, Below w.heap.size w (w.alloc A) := fun A => (Below.refl w.heap.size w).alloc (Nat.le_refl _) A
  obtain ⟨nm, ri, al, ba, bn, bc, ze⟩ := s
  dsimp only at *
  unfold inI64 at hi
  by_cases h0 : 0 ≤ i
  · have hw : wrap64 (i - (bn : Int)) = i - (bn : Int) := by unfold wrap64; omega
    by_cases h1 : i < (bn : Int) + ze
    · rw [decide_eq_true ⟨h0, h1⟩] at h
      subst h
      have hd : decide (i - (bn : Int) < ze) = true := decide_eq_true (by omega)
      go_enter Tryz.func108, Tryz.ntmps108
      go_wp2
      all_goals (go_ret; first | exact ⟨rfl, z1 _⟩ | (refine ⟨?_, z1 _⟩; simp [hd]))
    · rw [decide_eq_false (fun h => h1 h.2)] at h
      subst h
      have hd : decide (i - (bn : Int) < ze) = false := decide_eq_false (by omega)
      go_enter Tryz.func108, Tryz.ntmps108
      go_wp2
      all_goals (go_ret; first | exact ⟨rfl, z1 _⟩ | (refine ⟨?_, z1 _⟩; simp [hd]))
  · rw [decide_eq_false (fun h => h0 h.1)] at h
    subst h
    go_enter Tryz.func108, Tryz.ntmps108
    go_wp2
    all_goals (go_ret; exact ⟨rfl, z1 _⟩)
set_option maxRecDepth 100000 in
set_option maxHeartbeats 8000000 in
theorem cline_c {w : World} {Bx : Nat} {s1 s2 s3 s4 s5 : Value} {o : ObjT} (h : ObjAt w (.agg #[s1, s2, s3, s4, s5]) o) (hB : w.heap[Bx]? = some (.cells #[s1, s2, s3, s4, s5] 28 (0, 0))) (hR : o.R) (hs : ∀ y ∈ o.secs, SecOk y) (x : LineT) (hx : x.R) :
    Calls Tryz.prog 168 #[.agg #[.int .i64 x.sec, .int .i64 x.off, .int .i64 x.file, .int .i64 x.line], .pointer (some ⟨Bx, 0, none⟩)] w (BelR (dec (LineIn o x)) w) := by
  obtain ⟨s1', s2', s3', s4', s5', he, k1, k2, k3, k4, k5⟩ := h
  obtain ⟨rfl, rfl, rfl, rfl, rfl⟩ : s1 = s1' ∧ s2 = s2' ∧ s3 = s3' ∧ s4 = s4' ∧ s5 = s5' := by
    injection he with he
    injection he with he
    simp only [List.cons.injEq, and_true] at he
    exact he
  obtain ⟨sa, sc, rfl⟩ := rows_slice k1
  obtain ⟨fa, fc, rfl⟩ := rows_slice k4
  have b0 : w.cell? ⟨Bx, 0, none⟩ = some (.slice sa o.secs.length sc) := by simp [World.cell?, hB]
  have b3 : w.cell? ⟨Bx, 3, none⟩ = some (.slice fa o.files.length fc) := by simp [World.cell?, hB]
  obtain ⟨r, hr0⟩ : ∃ r, r = dec (LineIn o x) := ⟨_, rfl⟩
  rw [← hr0]
  have hrr := Lib.hid hr0
  clear hr0 k2 k3 k4 k5 he hB
  obtain ⟨xs, xo, xf, xl⟩ := x
  obtain ⟨r1, r2, r3, r4⟩ := hx
  dsimp only at *
  have hbW : Below w.heap.size w (w.alloc (.cells #[.int .i64 xs, .int .i64 xo, .int .i64 xf, .int .i64 xl] 48)) := (Below.refl w.heap.size w).alloc (Nat.le_refl _) _
  have a0 := (World.cell?_alloc_lt w (.cells #[.int .i64 xs, .int .i64 xo, .int .i64 xf, .int .i64 xl] 48) _ (low_of_cell b0)).trans b0
  have a3 := (World.cell?_alloc_lt w (.cells #[.int .i64 xs, .int .i64 xo, .int .i64 xf, .int .i64 xl] 48) _ (low_of_cell b3)).trans b3
  have x0 := new_cell w #[.int .i64 xs, .int .i64 xo, .int .i64 xf, .int .i64 xl] 48 0 _ rfl
  have x1 := new_cell w #[.int .i64 xs, .int .i64 xo, .int .i64 xf, .int .i64 xl] 48 1 _ rfl
  have x2 := new_cell w #[.int .i64 xs, .int .i64 xo, .int .i64 xf, .int .i64 xl] 48 2 _ rfl
  have x3 := new_cell w #[.int .i64 xs, .int .i64 xo, .int .i64 xf, .int .i64 xl] 48 3 _ rfl
  have kW := k1.below hbW
  clear k1 b0 b3
  go_enter Tryz.func168, Tryz.ntmps168
  go_wp2_with fail
  generalize w.alloc (.cells #[.int .i64 xs, .int .i64 xo, .int .i64 xf, .int .i64 xl] 48) = Wx at *
  have t0 := fun d os => cell_regrown a0 d os
  have t3 := fun d os => cell_regrown a3 d os
  have u0 := fun d os => cell_regrown x0 d os
  have u1 := fun d os => cell_regrown x1 d os
  have u2 := fun d os => cell_regrown x2 d os
  have u3 := fun d os => cell_regrown x3 d os
  by_cases c1 : 0 ≤ xs ∧ xs < (o.secs.length : Int)
  · have h1 := fun W => isIndexX_c (w := W) xs sa o.secs.length sc (r := true) (decide_eq_true c1).symm
    obtain ⟨k, rfl⟩ : ∃ k : Nat, xs = (k : Int) := ⟨xs.toNat, by omega⟩
    have hk : k < o.secs.length := by omega
    obtain ⟨b, of, rfl⟩ := rows_some2 kW hk
    obtain ⟨y, hy⟩ : ∃ y, o.secs[k]? = some y := ⟨o.secs[k], by simp [hk]⟩
    obtain ⟨g0, g1, g2, g3, g4⟩ := rows_sec kW hy
    have v0 := fun d os => cell_regrown g0 d os
    have v1 := fun d os => cell_regrown g1 d os
    have v2 := fun d os => cell_regrown g2 d os
    have v3 := fun d os => cell_regrown g3 d os
    have v4 := fun d os => cell_regrown g4 d os
    have hyR := hR.1 y (List.mem_of_getElem? hy)
    have hyO := (hs y (List.mem_of_getElem? hy)).2.2.2.2
    have hklt : (k : Int) < (o.secs.length : Int) := c1.2
    have hyH := Lib.hid hy
    have hdef := Lib.hid (fun (h : LineIn o ⟨(k : Int), xo, xf, xl⟩) => show (0 ≤ xo ∧ xo < (y.bn : Int) + y.zero) ∧ (xl = 0 ∨ (0 ≤ xf ∧ xf < (o.files.length : Int))) by
      obtain ⟨-, ⟨y', hy', h2⟩, h3⟩ := h
      dsimp only at hy' h2 h3
      rw [Int.toNat_natCast, hy] at hy'
      cases hy'
      exact ⟨h2, h3⟩)
    have hdef2 := Lib.hid (fun (h : (0 ≤ xo ∧ xo < (y.bn : Int) + y.zero) ∧ (xl = 0 ∨ (0 ≤ xf ∧ xf < (o.files.length : Int)))) => show LineIn o ⟨(k : Int), xo, xf, xl⟩ from ⟨c1, ⟨y, by dsimp only; rw [Int.toNat_natCast]; exact hy, h.1⟩, h.2⟩)
    clear hy
    by_cases c2 : 0 ≤ xo ∧ xo < (y.bn : Int) + y.zero
    · have h2 := fun W => hasByte_x (w := W) y hyR.2.2.1 hyO xo r2 (r := true) (decide_eq_true c2).symm
      by_cases c3 : xl = 0
      · have hl0 : (xl == 0) = true := beq_iff_eq.2 c3
        have hres := Lib.hid (show r = true by rw [hrr.out]; exact dec_yes (hdef2.out ⟨c2, .inl c3⟩))
        clear hyH hyR hR kW hs c3
        obtain ⟨yn, yr, yal, yb, yl, ycc, yz⟩ := y
        dsimp only at *
        refine wp_region_quiet_below (by kernel_rfl) (by kernel_rfl) ?_
        repeat (go_big_quiet_step (first | exact Calls.regrown_of (h1 _) | exact Calls.regrown_of (h2 _)))
        refine wpQuiet_nil ?_
        intro _ hw'
        obtain ⟨⟨dq, osq⟩, hw''⟩ := hw'
        subst hw''
        have hb2 := bel_then hbW (Nat.le_refl _) (below_regrown Wx dq osq)
        go_wp2
        go_ret
        exact ⟨by rw [hres.out]; rfl, hb2⟩
      · have hl0 : (xl == 0) = false := beq_eq_false_iff_ne.2 c3
        obtain ⟨q, hq⟩ : ∃ q : Bool, q = decide (0 ≤ xf ∧ xf < (o.files.length : Int)) := ⟨_, rfl⟩
        have h3 := fun W => isIndexF_c (w := W) xf fa o.files.length fc (r := q) hq
        have hres := Lib.hid (show r = q by
          rw [hrr.out, hq]
          by_cases c4 : 0 ≤ xf ∧ xf < (o.files.length : Int)
          · rw [decide_eq_true c4]; exact dec_yes (hdef2.out ⟨c2, .inr c4⟩)
          · rw [decide_eq_false c4]; exact dec_no fun h => ((hdef.out h).2).elim c3 c4)
        clear hyH hyR hR kW hs c3 hq
        obtain ⟨yn, yr, yal, yb, yl, ycc, yz⟩ := y
        dsimp only at *
        refine wp_region_quiet_below (by kernel_rfl) (by kernel_rfl) ?_
        repeat (go_big_quiet_step (first | exact Calls.regrown_of (h1 _) | exact Calls.regrown_of (h2 _) | exact Calls.regrown_of (h3 _)))
        refine wpQuiet_nil ?_
        intro _ hw'
        obtain ⟨⟨dq, osq⟩, hw''⟩ := hw'
        subst hw''
        have hb2 := bel_then hbW (Nat.le_refl _) (below_regrown Wx dq osq)
        go_wp2
        go_ret
        exact ⟨by rw [hres.out]; rfl, hb2⟩
    · have h2 := fun W => hasByte_x (w := W) y hyR.2.2.1 hyO xo r2 (r := false) (decide_eq_false c2).symm
      have hres := Lib.hid (show r = false by rw [hrr.out]; exact dec_no fun h => c2 (hdef.out h).1)
      clear hyH hyR hR kW hs
      obtain ⟨yn, yr, yal, yb, yl, ycc, yz⟩ := y
      dsimp only at *
      refine wp_region_quiet_below (by kernel_rfl) (by kernel_rfl) ?_
      repeat (go_big_quiet_step (first | exact Calls.regrown_of (h1 _) | exact Calls.regrown_of (h2 _)))
      refine wpQuiet_nil ?_
      intro _ hw'
      obtain ⟨⟨dq, osq⟩, hw''⟩ := hw'
      subst hw''
      have hb2 := bel_then hbW (Nat.le_refl _) (below_regrown Wx dq osq)
      go_wp2
      go_ret
      exact ⟨by rw [hres.out]; rfl, hb2⟩
  · have h1 := fun W => isIndexX_c (w := W) xs sa o.secs.length sc (r := false) (decide_eq_false c1).symm
    have hres := Lib.hid (show r = false by rw [hrr.out]; exact dec_no fun h => c1 h.1)
    clear hR kW hs
    refine wp_region_quiet_below (by kernel_rfl) (by kernel_rfl) ?_
    repeat (go_big_quiet_step (first | exact Calls.regrown_of (h1 _)))
    refine wpQuiet_nil ?_
    intro _ hw'
    obtain ⟨⟨dq, osq⟩, hw''⟩ := hw'
    subst hw''
    have hb2 := bel_then hbW (Nat.le_refl _) (below_regrown Wx dq osq)
    go_wp2
    go_ret
    exact ⟨by rw [hres.out]; rfl, hb2⟩
end Go.Ev

