import Derived.Test.YtepopmplcjhfbaaGreatObHk3
import Derived.Test.YtepopmplcjhfbaaGreatObHk2
import Derived.Test.YtepopmplcjhfbaaGreatObHk6
import Derived.Test.YtepopmplcjhfbaaGreatObHk8
import Derived.Deep.LoopGhost
import Derived.Laws.StructEq
set_option linter.unusedSectionVars false
set_option linter.unusedVariables false
set_option linter.unusedSimpArgs false
set_option linter.unnecessarySimpa false
/-
  Stage 3: slices.Equal, exactly; the specification's SameLines.
-/
namespace Go.Ev
open Go.RowKit Go.Proofs Go.Rw
set_option maxRecDepth 100000 in
set_option maxHeartbeats 4000000 in
theorem eqLines_c {w : World} {s1 s2 : Value} {l m : List LineT} (h1 : RowsAt w s1 LineT.cells 4 l) (h2 : RowsAt w s2 LineT.cells 4 m) (hl : l.length ≤ 140737488351232) (hm : m.length ≤ 140737488351232) :
    Calls Tryz.prog 32 #[s1, s2] w (BelR (dec (l = m)) w) := by
  obtain ⟨a1, c1, rfl⟩ := rows_slice h1
  obtain ⟨a2, c2, rfl⟩ := rows_slice h2
  obtain ⟨r, hr0⟩ : ∃ r, r = dec (l = m) := ⟨_, rfl⟩
  rw [← hr0]
  have hrr := Lib.hid hr0
  clear hr0
  by_cases hln : l.length = m.length
  · have hln2 := Lib.hid hln
    rw [← hln]
    clear hln
    go_enter Tryz.func32, Tryz.ntmps32
    go_wp2
    go_loopg [13] l.length (fun gn i wr => ∃ k : Nat, gn + k = l.length ∧ k ≤ l.length ∧ i = .int .i64 k ∧ Below w.heap.size w wr ∧ (∀ j, j < k → l[j]? = m[j]?))
    case atStart => exact ⟨0, by omega, by omega, rfl, Below.refl _ _, fun j hj => by omega⟩
    case round =>
      obtain ⟨k, hgk, hk, rfl, hbl, hA0⟩ := hrel
      have hA := Lib.hid hA0
      clear hA0
      by_cases hlt : k < l.length
      · have hlm : k < m.length := by have := hln2.out; omega
        obtain ⟨b1, o1, rfl⟩ := rows_some2 h1 hlt
        obtain ⟨b2, o2, rfl⟩ := rows_some2 h2 hlm
        have hlt' : (k : Int) < (l.length : Int) := by omega
        obtain ⟨⟨xs, xo, xf, xl⟩, hx⟩ : ∃ x, l[k]? = some x := ⟨l[k], by simp [hlt]⟩
        obtain ⟨⟨ys, yo, yf, yl⟩, hy⟩ : ∃ x, m[k]? = some x := ⟨m[k], by simp [hlm]⟩
        obtain ⟨p0, p1, p2, p3⟩ := rows_line (h1.below hbl) hx
        obtain ⟨q0, q1, q2, q3⟩ := rows_line (h2.below hbl) hy
        dsimp only at p0 q0 p1 q1 p2 q2 p3 q3
        have hxH := Lib.hid hx
        have hyH := Lib.hid hy
        clear hx hy h1 h2
        by_cases e0 : xs = ys
        case neg =>
          have hne := Lib.hid (show r = false by
            rw [hrr.out]
            refine dec_no fun h => ?_
            have h2 := hxH.out
            rw [h, hyH.out] at h2
            injection h2 with h2
            injection h2
            exact e0 (by first | assumption | (symm; assumption)))
          have hb : (xs == ys) = false := beq_eq_false_iff_ne.2 e0
          skip
          go_wp2
          go_quiet (fail)
          go_wp2
          go_ret
          exact ⟨by rw [hne.out]; rfl, below_drewN hbl _⟩
        subst e0
        by_cases e1 : xo = yo
        case neg =>
          have hne := Lib.hid (show r = false by
            rw [hrr.out]
            refine dec_no fun h => ?_
            have h2 := hxH.out
            rw [h, hyH.out] at h2
            injection h2 with h2
            injection h2
            exact e1 (by first | assumption | (symm; assumption)))
          have hb : (xo == yo) = false := beq_eq_false_iff_ne.2 e1
          skip
          go_wp2
          go_quiet (fail)
          go_wp2
          go_ret
          exact ⟨by rw [hne.out]; rfl, below_drewN hbl _⟩
        subst e1
        by_cases e2 : xf = yf
        case neg =>
          have hne := Lib.hid (show r = false by
            rw [hrr.out]
            refine dec_no fun h => ?_
            have h2 := hxH.out
            rw [h, hyH.out] at h2
            injection h2 with h2
            injection h2
            exact e2 (by first | assumption | (symm; assumption)))
          have hb : (xf == yf) = false := beq_eq_false_iff_ne.2 e2
          skip
          go_wp2
          go_quiet (fail)
          go_wp2
          go_ret
          exact ⟨by rw [hne.out]; rfl, below_drewN hbl _⟩
        subst e2
        by_cases e3 : xl = yl
        case neg =>
          have hne := Lib.hid (show r = false by
            rw [hrr.out]
            refine dec_no fun h => ?_
            have h2 := hxH.out
            rw [h, hyH.out] at h2
            injection h2 with h2
            injection h2
            exact e3 (by first | assumption | (symm; assumption)))
          have hb : (xl == yl) = false := beq_eq_false_iff_ne.2 e3
          skip
          go_wp2
          go_quiet (fail)
          go_wp2
          go_ret
          exact ⟨by rw [hne.out]; rfl, below_drewN hbl _⟩
        subst e3
        go_wp2
        go_quiet (fail)
        go_wp2
        go_roundg (gk - 1)
        case measure => omega
        case rel =>
          refine ⟨k + 1, by omega, by omega, by go_num, below_drewN hbl _, fun j hj => ?_⟩
          by_cases hjk : j < k
          · exact hA.out j hjk
          · obtain rfl : j = k := by omega
            rw [hxH.out, hyH.out]
      · obtain rfl : k = l.length := by omega
        have hf := Lib.hid (show r = true by
          rw [hrr.out]
          refine dec_yes (List.ext_getElem? fun j => ?_)
          by_cases hj : j < l.length
          · exact hA.out j hj
          · have := hln2.out
            rw [List.getElem?_eq_none (by omega), List.getElem?_eq_none (by omega)])
        go_wp2
        go_ret
        exact ⟨by rw [hf.out]; rfl, hbl⟩
  · have hf := Lib.hid (show r = false by rw [hrr.out]; exact dec_no fun h => hln (by rw [h]))
    have hb : ((l.length : Int) == (m.length : Int)) = false := by simp; omega
    go_enter Tryz.func32, Tryz.ntmps32
    go_wp2
    go_ret
    exact ⟨by rw [hf.out]; rfl, Below.refl _ _⟩
set_option maxRecDepth 100000 in
set_option maxHeartbeats 4000000 in
theorem eqSyms_c {w : World} {s1 s2 : Value} {l m : List SymT} (h1 : RowsAt w s1 SymT.cells 6 l) (h2 : RowsAt w s2 SymT.cells 6 m) (hl : l.length ≤ 140737488351232) (hm : m.length ≤ 140737488351232) :
    Calls Tryz.prog 53 #[s1, s2] w (BelR (dec (l = m)) w) := by
  obtain ⟨a1, c1, rfl⟩ := rows_slice h1
  obtain ⟨a2, c2, rfl⟩ := rows_slice h2
  obtain ⟨r, hr0⟩ : ∃ r, r = dec (l = m) := ⟨_, rfl⟩
  rw [← hr0]
  have hrr := Lib.hid hr0
  clear hr0
  by_cases hln : l.length = m.length
  · have hln2 := Lib.hid hln
    rw [← hln]
    clear hln
    go_enter Tryz.func53, Tryz.ntmps53
    go_wp2
    go_loopg [13] l.length (fun gn i wr => ∃ k : Nat, gn + k = l.length ∧ k ≤ l.length ∧ i = .int .i64 k ∧ Below w.heap.size w wr ∧ (∀ j, j < k → l[j]? = m[j]?))
    case atStart => exact ⟨0, by omega, by omega, rfl, Below.refl _ _, fun j hj => by omega⟩
    case round =>
      obtain ⟨k, hgk, hk, rfl, hbl, hA0⟩ := hrel
      have hA := Lib.hid hA0
      clear hA0
      by_cases hlt : k < l.length
      · have hlm : k < m.length := by have := hln2.out; omega
        obtain ⟨b1, o1, rfl⟩ := rows_some2 h1 hlt
        obtain ⟨b2, o2, rfl⟩ := rows_some2 h2 hlm
        have hlt' : (k : Int) < (l.length : Int) := by omega
        obtain ⟨⟨xn, xs, xv, xz, xb, xk⟩, hx⟩ : ∃ x, l[k]? = some x := ⟨l[k], by simp [hlt]⟩
        obtain ⟨⟨yn, ys, yv, yz, yb, yk⟩, hy⟩ : ∃ x, m[k]? = some x := ⟨m[k], by simp [hlm]⟩
        obtain ⟨p0, p1, p2, p3, p4, p5⟩ := rows_sym (h1.below hbl) hx
        obtain ⟨q0, q1, q2, q3, q4, q5⟩ := rows_sym (h2.below hbl) hy
        dsimp only at p0 q0 p1 q1 p2 q2 p3 q3 p4 q4 p5 q5
        have hxH := Lib.hid hx
        have hyH := Lib.hid hy
        clear hx hy h1 h2
        by_cases e0 : xn = yn
        case neg =>
          have hne := Lib.hid (show r = false by
            rw [hrr.out]
            refine dec_no fun h => ?_
            have h2 := hxH.out
            rw [h, hyH.out] at h2
            injection h2 with h2
            injection h2
            exact e0 (by first | assumption | (symm; assumption)))
          have hb := bytes_ne e0
          skip
          go_wp2
          go_quiet (fail)
          go_wp2
          go_ret
          exact ⟨by rw [hne.out]; rfl, below_drewN hbl _⟩
        subst e0
        by_cases e1 : xs = ys
        case neg =>
          have hne := Lib.hid (show r = false by
            rw [hrr.out]
            refine dec_no fun h => ?_
            have h2 := hxH.out
            rw [h, hyH.out] at h2
            injection h2 with h2
            injection h2
            exact e1 (by first | assumption | (symm; assumption)))
          have hb : (xs == ys) = false := beq_eq_false_iff_ne.2 e1
          skip
          go_wp2
          go_quiet (fail)
          go_wp2
          go_ret
          exact ⟨by rw [hne.out]; rfl, below_drewN hbl _⟩
        subst e1
        by_cases e2 : xv = yv
        case neg =>
          have hne := Lib.hid (show r = false by
            rw [hrr.out]
            refine dec_no fun h => ?_
            have h2 := hxH.out
            rw [h, hyH.out] at h2
            injection h2 with h2
            injection h2
            exact e2 (by first | assumption | (symm; assumption)))
          have hb : (xv == yv) = false := beq_eq_false_iff_ne.2 e2
          skip
          go_wp2
          go_quiet (fail)
          go_wp2
          go_ret
          exact ⟨by rw [hne.out]; rfl, below_drewN hbl _⟩
        subst e2
        by_cases e3 : xz = yz
        case neg =>
          have hne := Lib.hid (show r = false by
            rw [hrr.out]
            refine dec_no fun h => ?_
            have h2 := hxH.out
            rw [h, hyH.out] at h2
            injection h2 with h2
            injection h2
            exact e3 (by first | assumption | (symm; assumption)))
          have hb : (xz == yz) = false := beq_eq_false_iff_ne.2 e3
          skip
          go_wp2
          go_quiet (fail)
          go_wp2
          go_ret
          exact ⟨by rw [hne.out]; rfl, below_drewN hbl _⟩
        subst e3
        by_cases e4 : xb = yb
        case neg =>
          have hne := Lib.hid (show r = false by
            rw [hrr.out]
            refine dec_no fun h => ?_
            have h2 := hxH.out
            rw [h, hyH.out] at h2
            injection h2 with h2
            injection h2
            exact e4 (by first | assumption | (symm; assumption)))
          have hb : (xb == yb) = false := beq_eq_false_iff_ne.2 e4
          skip
          go_wp2
          go_quiet (fail)
          go_wp2
          go_ret
          exact ⟨by rw [hne.out]; rfl, below_drewN hbl _⟩
        subst e4
        by_cases e5 : xk = yk
        case neg =>
          have hne := Lib.hid (show r = false by
            rw [hrr.out]
            refine dec_no fun h => ?_
            have h2 := hxH.out
            rw [h, hyH.out] at h2
            injection h2 with h2
            injection h2
            exact e5 (by first | assumption | (symm; assumption)))
          have hb : (xk == yk) = false := beq_eq_false_iff_ne.2 e5
          skip
          go_wp2
          go_quiet (fail)
          go_wp2
          go_ret
          exact ⟨by rw [hne.out]; rfl, below_drewN hbl _⟩
        subst e5
        go_wp2
        go_quiet (fail)
        go_wp2
        go_roundg (gk - 1)
        case measure => omega
        case rel =>
          refine ⟨k + 1, by omega, by omega, by go_num, below_drewN hbl _, fun j hj => ?_⟩
          by_cases hjk : j < k
          · exact hA.out j hjk
          · obtain rfl : j = k := by omega
            rw [hxH.out, hyH.out]
      · obtain rfl : k = l.length := by omega
        have hf := Lib.hid (show r = true by
          rw [hrr.out]
          refine dec_yes (List.ext_getElem? fun j => ?_)
          by_cases hj : j < l.length
          · exact hA.out j hj
          · have := hln2.out
            rw [List.getElem?_eq_none (by omega), List.getElem?_eq_none (by omega)])
        go_wp2
        go_ret
        exact ⟨by rw [hf.out]; rfl, hbl⟩
  · have hf := Lib.hid (show r = false by rw [hrr.out]; exact dec_no fun h => hln (by rw [h]))
    have hb : ((l.length : Int) == (m.length : Int)) = false := by simp; omega
    go_enter Tryz.func53, Tryz.ntmps53
    go_wp2
    go_ret
    exact ⟨by rw [hf.out]; rfl, Below.refl _ _⟩
set_option maxRecDepth 100000 in
set_option maxHeartbeats 4000000 in
theorem eqRels_c {w : World} {s1 s2 : Value} {l m : List RelT} (h1 : RowsAt w s1 RelT.cells 5 l) (h2 : RowsAt w s2 RelT.cells 5 m) (hl : l.length ≤ 140737488351232) (hm : m.length ≤ 140737488351232) :
    Calls Tryz.prog 72 #[s1, s2] w (BelR (dec (l = m)) w) := by
  obtain ⟨a1, c1, rfl⟩ := rows_slice h1
  obtain ⟨a2, c2, rfl⟩ := rows_slice h2
  obtain ⟨r, hr0⟩ : ∃ r, r = dec (l = m) := ⟨_, rfl⟩
  rw [← hr0]
  have hrr := Lib.hid hr0
  clear hr0
  by_cases hln : l.length = m.length
  · have hln2 := Lib.hid hln
    rw [← hln]
    clear hln
    go_enter Tryz.func72, Tryz.ntmps72
    go_wp2
    go_loopg [13] l.length (fun gn i wr => ∃ k : Nat, gn + k = l.length ∧ k ≤ l.length ∧ i = .int .i64 k ∧ Below w.heap.size w wr ∧ (∀ j, j < k → l[j]? = m[j]?))
    case atStart => exact ⟨0, by omega, by omega, rfl, Below.refl _ _, fun j hj => by omega⟩
    case round =>
      obtain ⟨k, hgk, hk, rfl, hbl, hA0⟩ := hrel
      have hA := Lib.hid hA0
      clear hA0
      by_cases hlt : k < l.length
      · have hlm : k < m.length := by have := hln2.out; omega
        obtain ⟨b1, o1, rfl⟩ := rows_some2 h1 hlt
        obtain ⟨b2, o2, rfl⟩ := rows_some2 h2 hlm
        have hlt' : (k : Int) < (l.length : Int) := by omega
        obtain ⟨⟨xs, xo, xk, xy, xa⟩, hx⟩ : ∃ x, l[k]? = some x := ⟨l[k], by simp [hlt]⟩
        obtain ⟨⟨ys, yo, yk, yy, ya⟩, hy⟩ : ∃ x, m[k]? = some x := ⟨m[k], by simp [hlm]⟩
        obtain ⟨p0, p1, p2, p3, p4⟩ := rows_rel (h1.below hbl) hx
        obtain ⟨q0, q1, q2, q3, q4⟩ := rows_rel (h2.below hbl) hy
        dsimp only at p0 q0 p1 q1 p2 q2 p3 q3 p4 q4
        have hxH := Lib.hid hx
        have hyH := Lib.hid hy
        clear hx hy h1 h2
        by_cases e0 : xs = ys
        case neg =>
          have hne := Lib.hid (show r = false by
            rw [hrr.out]
            refine dec_no fun h => ?_
            have h2 := hxH.out
            rw [h, hyH.out] at h2
            injection h2 with h2
            injection h2
            exact e0 (by first | assumption | (symm; assumption)))
          have hb : (xs == ys) = false := beq_eq_false_iff_ne.2 e0
          skip
          go_wp2
          go_quiet (fail)
          go_wp2
          go_ret
          exact ⟨by rw [hne.out]; rfl, below_drewN hbl _⟩
        subst e0
        by_cases e1 : xo = yo
        case neg =>
          have hne := Lib.hid (show r = false by
            rw [hrr.out]
            refine dec_no fun h => ?_
            have h2 := hxH.out
            rw [h, hyH.out] at h2
            injection h2 with h2
            injection h2
            exact e1 (by first | assumption | (symm; assumption)))
          have hb : (xo == yo) = false := beq_eq_false_iff_ne.2 e1
          skip
          go_wp2
          go_quiet (fail)
          go_wp2
          go_ret
          exact ⟨by rw [hne.out]; rfl, below_drewN hbl _⟩
        subst e1
        by_cases e2 : xk = yk
        case neg =>
          have hne := Lib.hid (show r = false by
            rw [hrr.out]
            refine dec_no fun h => ?_
            have h2 := hxH.out
            rw [h, hyH.out] at h2
            injection h2 with h2
            injection h2
            exact e2 (by first | assumption | (symm; assumption)))
          have hb : (xk == yk) = false := beq_eq_false_iff_ne.2 e2
          skip
          go_wp2
          go_quiet (fail)
          go_wp2
          go_ret
          exact ⟨by rw [hne.out]; rfl, below_drewN hbl _⟩
        subst e2
        by_cases e3 : xy = yy
        case neg =>
          have hne := Lib.hid (show r = false by
            rw [hrr.out]
            refine dec_no fun h => ?_
            have h2 := hxH.out
            rw [h, hyH.out] at h2
            injection h2 with h2
            injection h2
            exact e3 (by first | assumption | (symm; assumption)))
          have hb : (xy == yy) = false := beq_eq_false_iff_ne.2 e3
          skip
          go_wp2
          go_quiet (fail)
          go_wp2
          go_ret
          exact ⟨by rw [hne.out]; rfl, below_drewN hbl _⟩
        subst e3
        by_cases e4 : xa = ya
        case neg =>
          have hne := Lib.hid (show r = false by
            rw [hrr.out]
            refine dec_no fun h => ?_
            have h2 := hxH.out
            rw [h, hyH.out] at h2
            injection h2 with h2
            injection h2
            exact e4 (by first | assumption | (symm; assumption)))
          have hb : (xa == ya) = false := beq_eq_false_iff_ne.2 e4
          skip
          go_wp2
          go_quiet (fail)
          go_wp2
          go_ret
          exact ⟨by rw [hne.out]; rfl, below_drewN hbl _⟩
        subst e4
        go_wp2
        go_quiet (fail)
        go_wp2
        go_roundg (gk - 1)
        case measure => omega
        case rel =>
          refine ⟨k + 1, by omega, by omega, by go_num, below_drewN hbl _, fun j hj => ?_⟩
          by_cases hjk : j < k
          · exact hA.out j hjk
          · obtain rfl : j = k := by omega
            rw [hxH.out, hyH.out]
      · obtain rfl : k = l.length := by omega
        have hf := Lib.hid (show r = true by
          rw [hrr.out]
          refine dec_yes (List.ext_getElem? fun j => ?_)
          by_cases hj : j < l.length
          · exact hA.out j hj
          · have := hln2.out
            rw [List.getElem?_eq_none (by omega), List.getElem?_eq_none (by omega)])
        go_wp2
        go_ret
        exact ⟨by rw [hf.out]; rfl, hbl⟩
  · have hf := Lib.hid (show r = false by rw [hrr.out]; exact dec_no fun h => hln (by rw [h]))
    have hb : ((l.length : Int) == (m.length : Int)) = false := by simp; omega
    go_enter Tryz.func72, Tryz.ntmps72
    go_wp2
    go_ret
    exact ⟨by rw [hf.out]; rfl, Below.refl _ _⟩
set_option maxRecDepth 100000 in
set_option maxHeartbeats 4000000 in
theorem eqFiles_c {w : World} {s1 s2 : Value} {l m : List ByteArray} (h1 : RowsAt w s1 fileCells 1 l) (h2 : RowsAt w s2 fileCells 1 m) (hl : l.length ≤ 140737488351232) (hm : m.length ≤ 140737488351232) :
    Calls Tryz.prog 73 #[s1, s2] w (BelR (dec (l = m)) w) := by
  obtain ⟨a1, c1, rfl⟩ := rows_slice h1
  obtain ⟨a2, c2, rfl⟩ := rows_slice h2
  obtain ⟨r, hr0⟩ : ∃ r, r = dec (l = m) := ⟨_, rfl⟩
  rw [← hr0]
  have hrr := Lib.hid hr0
  clear hr0
  by_cases hln : l.length = m.length
  · have hln2 := Lib.hid hln
    rw [← hln]
    clear hln
    go_enter Tryz.func73, Tryz.ntmps73
    go_wp2
    go_loopg [13] l.length (fun gn i wr => ∃ k : Nat, gn + k = l.length ∧ k ≤ l.length ∧ i = .int .i64 k ∧ Below w.heap.size w wr ∧ (∀ j, j < k → l[j]? = m[j]?))
    case atStart => exact ⟨0, by omega, by omega, rfl, Below.refl _ _, fun j hj => by omega⟩
    case round =>
      obtain ⟨k, hgk, hk, rfl, hbl, hA0⟩ := hrel
      have hA := Lib.hid hA0
      clear hA0
      by_cases hlt : k < l.length
      · have hlm : k < m.length := by have := hln2.out; omega
        obtain ⟨b1, o1, rfl⟩ := rows_some2 h1 hlt
        obtain ⟨b2, o2, rfl⟩ := rows_some2 h2 hlm
        have hlt' : (k : Int) < (l.length : Int) := by omega
        obtain ⟨x, hx⟩ : ∃ x, l[k]? = some x := ⟨l[k], by simp [hlt]⟩
        obtain ⟨y, hy⟩ : ∃ x, m[k]? = some x := ⟨m[k], by simp [hlm]⟩
        have p0 := rows_file (h1.below hbl) hx
        have q0 := rows_file (h2.below hbl) hy
        have hxH := Lib.hid hx
        have hyH := Lib.hid hy
        clear hx hy h1 h2
        by_cases e0 : x = y
        case neg =>
          have hne := Lib.hid (show r = false by
            rw [hrr.out]
            refine dec_no fun h => ?_
            have h2 := hxH.out
            rw [h, hyH.out] at h2
            injection h2 with h2
            exact e0 (by first | assumption | (symm; assumption)))
          have hb := bytes_ne e0
          skip
          go_wp2
          go_quiet (fail)
          go_wp2
          go_ret
          exact ⟨by rw [hne.out]; rfl, below_drewN hbl _⟩
        subst e0
        go_wp2
        go_quiet (fail)
        go_wp2
        go_roundg (gk - 1)
        case measure => omega
        case rel =>
          refine ⟨k + 1, by omega, by omega, by go_num, below_drewN hbl _, fun j hj => ?_⟩
          by_cases hjk : j < k
          · exact hA.out j hjk
          · obtain rfl : j = k := by omega
            rw [hxH.out, hyH.out]
      · obtain rfl : k = l.length := by omega
        have hf := Lib.hid (show r = true by
          rw [hrr.out]
          refine dec_yes (List.ext_getElem? fun j => ?_)
          by_cases hj : j < l.length
          · exact hA.out j hj
          · have := hln2.out
            rw [List.getElem?_eq_none (by omega), List.getElem?_eq_none (by omega)])
        go_wp2
        go_ret
        exact ⟨by rw [hf.out]; rfl, hbl⟩
  · have hf := Lib.hid (show r = false by rw [hrr.out]; exact dec_no fun h => hln (by rw [h]))
    have hb : ((l.length : Int) == (m.length : Int)) = false := by simp; omega
    go_enter Tryz.func73, Tryz.ntmps73
    go_wp2
    go_ret
    exact ⟨by rw [hf.out]; rfl, Below.refl _ _⟩
set_option maxRecDepth 100000 in
set_option maxHeartbeats 4000000 in
theorem sameLines_c {w : World} {s1 s2 : Value} {l m : List LineT} (h1 : RowsAt w s1 LineT.cells 4 l) (h2 : RowsAt w s2 LineT.cells 4 m) (hl : l.length ≤ 140737488351232) (hm : m.length ≤ 140737488351232) :
    Calls Tryz.prog 74 #[s1, s2] w (BelR (dec (l = m)) w) := by
  obtain ⟨a1, c1, rfl⟩ := rows_slice h1
  obtain ⟨a2, c2, rfl⟩ := rows_slice h2
  obtain ⟨r, hr0⟩ : ∃ r, r = dec (l = m) := ⟨_, rfl⟩
  rw [← hr0]
  have hrr := Lib.hid hr0
  clear hr0
  by_cases hln : l.length = m.length
  · have hln2 := Lib.hid hln
    rw [← hln]
    clear hln
    go_enter Tryz.func74, Tryz.ntmps74
    go_wp2
    go_loopg [5] l.length (fun gn i wr => ∃ k : Nat, gn + k = l.length ∧ k ≤ l.length ∧ i = .int .i64 k ∧ Below w.heap.size w wr ∧ (∀ j, j < k → l[j]? = m[j]?))
    case atStart => exact ⟨0, by omega, by omega, rfl, Below.refl _ _, fun j hj => by omega⟩
    case round =>
      obtain ⟨k, hgk, hk, rfl, hbl, hA0⟩ := hrel
      have hA := Lib.hid hA0
      clear hA0
      by_cases hlt : k < l.length
      · have hlm : k < m.length := by have := hln2.out; omega
        obtain ⟨b1, o1, rfl⟩ := rows_some2 h1 hlt
        obtain ⟨b2, o2, rfl⟩ := rows_some2 h2 hlm
        have hlt' : (k : Int) < (l.length : Int) := by omega
        obtain ⟨⟨xs, xo, xf, xl⟩, hx⟩ : ∃ x, l[k]? = some x := ⟨l[k], by simp [hlt]⟩
        obtain ⟨⟨ys, yo, yf, yl⟩, hy⟩ : ∃ x, m[k]? = some x := ⟨m[k], by simp [hlm]⟩
        obtain ⟨p0, p1, p2, p3⟩ := rows_line (h1.below hbl) hx
        obtain ⟨q0, q1, q2, q3⟩ := rows_line (h2.below hbl) hy
        dsimp only at p0 q0 p1 q1 p2 q2 p3 q3
        have hxH := Lib.hid hx
        have hyH := Lib.hid hy
        clear hx hy h1 h2
        by_cases e0 : xs = ys
        case neg =>
          have hne := Lib.hid (show r = false by
            rw [hrr.out]
            refine dec_no fun h => ?_
            have h2 := hxH.out
            rw [h, hyH.out] at h2
            injection h2 with h2
            injection h2
            exact e0 (by first | assumption | (symm; assumption)))
          have hb : (xs == ys) = false := beq_eq_false_iff_ne.2 e0
          skip
          go_wp2
          go_quiet (fail)
          go_wp2
          go_ret
          exact ⟨by rw [hne.out]; rfl, below_drewN hbl _⟩
        subst e0
        by_cases e1 : xo = yo
        case neg =>
          have hne := Lib.hid (show r = false by
            rw [hrr.out]
            refine dec_no fun h => ?_
            have h2 := hxH.out
            rw [h, hyH.out] at h2
            injection h2 with h2
            injection h2
            exact e1 (by first | assumption | (symm; assumption)))
          have hb : (xo == yo) = false := beq_eq_false_iff_ne.2 e1
          skip
          go_wp2
          go_quiet (fail)
          go_wp2
          go_ret
          exact ⟨by rw [hne.out]; rfl, below_drewN hbl _⟩
        subst e1
        by_cases e2 : xf = yf
        case neg =>
          have hne := Lib.hid (show r = false by
            rw [hrr.out]
            refine dec_no fun h => ?_
            have h2 := hxH.out
            rw [h, hyH.out] at h2
            injection h2 with h2
            injection h2
            exact e2 (by first | assumption | (symm; assumption)))
          have hb : (xf == yf) = false := beq_eq_false_iff_ne.2 e2
          skip
          go_wp2
          go_quiet (fail)
          go_wp2
          go_ret
          exact ⟨by rw [hne.out]; rfl, below_drewN hbl _⟩
        subst e2
        by_cases e3 : xl = yl
        case neg =>
          have hne := Lib.hid (show r = false by
            rw [hrr.out]
            refine dec_no fun h => ?_
            have h2 := hxH.out
            rw [h, hyH.out] at h2
            injection h2 with h2
            injection h2
            exact e3 (by first | assumption | (symm; assumption)))
          have hb : (xl == yl) = false := beq_eq_false_iff_ne.2 e3
          skip
          go_wp2
          go_quiet (fail)
          go_wp2
          go_ret
          exact ⟨by rw [hne.out]; rfl, below_drewN hbl _⟩
        subst e3
        go_wp2
        go_quiet (fail)
        go_wp2
        go_roundg (gk - 1)
        case measure => omega
        case rel =>
          refine ⟨k + 1, by omega, by omega, by go_num, below_drewN hbl _, fun j hj => ?_⟩
          by_cases hjk : j < k
          · exact hA.out j hjk
          · obtain rfl : j = k := by omega
            rw [hxH.out, hyH.out]
      · obtain rfl : k = l.length := by omega
        have hf := Lib.hid (show r = true by
          rw [hrr.out]
          refine dec_yes (List.ext_getElem? fun j => ?_)
          by_cases hj : j < l.length
          · exact hA.out j hj
          · have := hln2.out
            rw [List.getElem?_eq_none (by omega), List.getElem?_eq_none (by omega)])
        go_wp2
        go_ret
        exact ⟨by rw [hf.out]; rfl, hbl⟩
  · have hf := Lib.hid (show r = false by rw [hrr.out]; exact dec_no fun h => hln (by rw [h]))
    have hb : ((l.length : Int) == (m.length : Int)) = false := by simp; omega
    go_enter Tryz.func74, Tryz.ntmps74
    go_wp2
    go_ret
    exact ⟨by rw [hf.out]; rfl, Below.refl _ _⟩
end Go.Ev

/-
  Stage 3: the bytes of sections; equal sections, exactly.
-/
namespace Go.Ev
open Go.RowKit Go.Proofs Go.Rw
/-- The bytes of a slice in a world. -/
def SecIn (w : World) (a : Option Addr) (n : Nat) (B : ByteArray) : Prop :=
  (n = 0 ∧ B = strOf 0 (fun _ => 0)) ∨ ∃ (b o : Nat) (q : Nat → Int), a = some ⟨b, o, none⟩ ∧ B = strOf n q ∧ (∀ j, InB (q j)) ∧ ∀ j, j < n → w.cell? ⟨b, o + j, none⟩ = some (.int .u8 (q j))
theorem SecIn.below {w w' : World} {a : Option Addr} {n : Nat} {B : ByteArray} (h : SecIn w a n B) (hb : Below w.heap.size w w') : SecIn w' a n B := by
  rcases h with h | ⟨b, o, q, rfl, hB, hq, hc⟩
  · exact .inl h
  · exact .inr ⟨b, o, q, rfl, hB, hq, fun j hj => (hb.cell (low_of_cell (hc j hj))).trans (hc j hj)⟩
theorem conv_sec {w : World} {a : Option Addr} {n cap : Nat} {B : ByteArray} (h : SecIn w a n B) : (convert 34 9 (.slice a n cap)).run Tryz.prog w = .ok (.string B) w := by
  rcases h with ⟨rfl, rfl⟩ | ⟨b, o, q, rfl, rfl, _, hc⟩
  · rw [run_convert_bytes_string w 34 9 5 a 0 cap Tryz.underlying34 Tryz.underlying5 Tryz.underlying9]
    cases a with
    | none => simp [Conv.bytesToString, strOf]
    | some a => exact run_bytesToString w _ 0 cap _ (show (loadCells a 0).run Tryz.prog w = .ok (((List.range 0).map (fun _ => (0 : Int))).map (Value.int .u8)).toArray w from by simp [loadCells, loadCellsFrom])
  · exact conv_bytes (.inr ⟨b, o, rfl, hc⟩)
theorem secIn_one {w : World} {a : Option Addr} {n : Nat} {X Y : ByteArray} (h1 : SecIn w a n X) (h2 : SecIn w a n Y) : X = Y := by
  have e1 := conv_sec (cap := 0) h1
  have e2 := conv_sec (cap := 0) h2
  rw [e1] at e2
  simp only [Result.ok.injEq, Value.string.injEq, and_true] at e2
  exact e2
set_option maxRecDepth 100000 in
set_option maxHeartbeats 1000000 in
/-- bytes.Equal. -/
theorem bequal_x {w : World} {a b : Option Addr} {n m c1 c2 : Nat} {X Y : ByteArray} (ha : SecIn w a n X) (hb : SecIn w b m Y) :
    Calls Tryz.prog 23 #[.slice a n c1, .slice b m c2] w fun e w' => e = .returned (.bool (dec (X = Y))) ∧ w' = w := by
  have h1 := conv_sec (cap := c1) ha
  have h2 := conv_sec (cap := c2) hb
  clear ha hb
  by_cases e : X = Y
  · rw [dec_yes e]
    subst e
    go_enter Tryz.func23, Tryz.ntmps23
    go_wp2
    go_ret
    exact ⟨rfl, rfl⟩
  · rw [dec_no e]
    have hb := bytes_ne e
    go_enter Tryz.func23, Tryz.ntmps23
    go_wp2
    go_ret
    exact ⟨rfl, rfl⟩
set_option maxRecDepth 100000 in
set_option maxHeartbeats 1000000 in
/-- The specification's sameBytes. -/
theorem sameB_c {w : World} {a b : Option Addr} {n m c1 c2 : Nat} {X Y : ByteArray} (ha : SecIn w a n X) (hb : SecIn w b m Y) :
    Calls Tryz.prog 75 #[.slice a n c1, .slice b m c2] w fun e w' => e = .returned (.bool (dec (X = Y))) ∧ w' = w := by
  have h1 := conv_sec (cap := c1) ha
  have h2 := conv_sec (cap := c2) hb
  clear ha hb
  by_cases e : X = Y
  · rw [dec_yes e]
    subst e
    go_enter Tryz.func75, Tryz.ntmps75
    go_wp2
    go_ret
    exact ⟨rfl, rfl⟩
  · rw [dec_no e]
    have hb := bytes_ne e
    go_enter Tryz.func75, Tryz.ntmps75
    go_wp2
    go_ret
    exact ⟨rfl, rfl⟩
/-- Two sections, with their bytes, are the same. -/
def SecEq (x y : SecT) (X Y : ByteArray) : Prop := x.name = y.name ∧ x.rights = y.rights ∧ x.align = y.align ∧ X = Y ∧ x.zero = y.zero
set_option maxRecDepth 100000 in
set_option maxHeartbeats 4000000 in
theorem sameSec_c {w : World} (x y : SecT) {X Y : ByteArray} (hx : SecIn w x.ba x.bn X) (hy : SecIn w y.ba y.bn Y) :
    Calls Tryz.prog 71 #[.agg #[.string x.name, .int .i64 x.rights, .int .i64 x.align, .slice x.ba x.bn x.bc, .int .i64 x.zero], .agg #[.string y.name, .int .i64 y.rights, .int .i64 y.align, .slice y.ba y.bn y.bc, .int .i64 y.zero]] w (BelR (dec (SecEq x y X Y)) w) := by
  obtain ⟨xn, xr, xa, xb, xl, xc, xz⟩ := x
  obtain ⟨yn, yr, ya, yb, yl, yc, yz⟩ := y
  dsimp only at *
  have z : ∀ A B, Below w.heap.size w ((w.alloc A).alloc B) := fun A B => (one_below w A).alloc (by simp) B
  have hE := fun A B c1 c2 => bequal_x (c1 := c1) (c2 := c2) (hx.below (z A B)) (hy.below (z A B))
  clear hx hy
  obtain ⟨r, hr0⟩ : ∃ r, r = dec (SecEq ⟨xn, xr, xa, xb, xl, xc, xz⟩ ⟨yn, yr, ya, yb, yl, yc, yz⟩ X Y) := ⟨_, rfl⟩
  rw [← hr0]
  have hrr := Lib.hid hr0
  clear hr0
  by_cases e1 : xn = yn
  case neg =>
    have hf := Lib.hid (show r = false by rw [hrr.out]; exact dec_no fun h => e1 h.1)
    have hb := bytes_ne e1
    go_enter Tryz.func71, Tryz.ntmps71
    go_wp2
    go_ret
    exact ⟨by rw [hf.out]; rfl, z _ _⟩
  subst e1
  by_cases e2 : xr = yr
  case neg =>
    have hf := Lib.hid (show r = false by rw [hrr.out]; exact dec_no fun h => e2 h.2.1)
    have hb : (xr == yr) = false := beq_eq_false_iff_ne.2 e2
    go_enter Tryz.func71, Tryz.ntmps71
    go_wp2
    go_ret
    exact ⟨by rw [hf.out]; rfl, z _ _⟩
  subst e2
  by_cases e3 : xa = ya
  case neg =>
    have hf := Lib.hid (show r = false by rw [hrr.out]; exact dec_no fun h => e3 h.2.2.1)
    have hb : (xa == ya) = false := beq_eq_false_iff_ne.2 e3
    go_enter Tryz.func71, Tryz.ntmps71
    go_wp2
    go_ret
    exact ⟨by rw [hf.out]; rfl, z _ _⟩
  subst e3
  by_cases e4 : X = Y
  case neg =>
    have hf := Lib.hid (show r = false by rw [hrr.out]; exact dec_no fun h => e4 h.2.2.2.1)
    rw [dec_no e4] at hE
    go_enter Tryz.func71, Tryz.ntmps71
    go_wp2_with (go_at_call 23; refine (hE _ _ _ _).mono ?_; rintro e w1 ⟨rfl, rfl⟩)
    go_ret
    exact ⟨by rw [hf.out]; rfl, z _ _⟩
  rw [dec_yes e4] at hE
  by_cases e5 : xz = yz
  case neg =>
    have hf := Lib.hid (show r = false by rw [hrr.out]; exact dec_no fun h => e5 h.2.2.2.2)
    have hb : (xz == yz) = false := beq_eq_false_iff_ne.2 e5
    go_enter Tryz.func71, Tryz.ntmps71
    go_wp2_with (go_at_call 23; refine (hE _ _ _ _).mono ?_; rintro e w1 ⟨rfl, rfl⟩)
    go_ret
    exact ⟨by rw [hf.out]; rfl, z _ _⟩
  subst e5
  have hf := Lib.hid (show r = true by rw [hrr.out]; exact dec_yes ⟨rfl, rfl, rfl, e4, rfl⟩)
  go_enter Tryz.func71, Tryz.ntmps71
  go_wp2_with (go_at_call 23; refine (hE _ _ _ _).mono ?_; rintro e w1 ⟨rfl, rfl⟩)
  go_ret
  exact ⟨by rw [hf.out]; rfl, z _ _⟩
theorem enters71 : ∀ args w, (callFunc 71 args).run Tryz.prog w = .ok (.enter 71 args) w := enters_of Tryz.func71 (by kernel_rfl) rfl
/-- Two lists of sections are the same, with their bytes. -/
def SecsEq (C : SecT → ByteArray) (l m : List SecT) : Prop := l.length = m.length ∧ ∀ (k : Nat) (x y : SecT), l[k]? = some x → m[k]? = some y → SecEq x y (C x) (C y)
set_option maxRecDepth 100000 in
set_option maxHeartbeats 4000000 in
/-- slices.EqualFunc of sections. -/
theorem eqSecs_c {w : World} {s1 s2 : Value} {l m : List SecT} {C : SecT → ByteArray} (h1 : RowsAt w s1 SecT.cells 5 l) (h2 : RowsAt w s2 SecT.cells 5 m) (hl : l.length ≤ 140737488351232) (hm : m.length ≤ 140737488351232)
    (hC1 : ∀ x ∈ l, SecIn w x.ba x.bn (C x)) (hC2 : ∀ x ∈ m, SecIn w x.ba x.bn (C x)) :
    Calls Tryz.prog 70 #[s1, s2, .func (.func 71) #[] #[]] w (BelR (dec (SecsEq C l m)) w) := by
  obtain ⟨a1, c1, rfl⟩ := rows_slice h1
  obtain ⟨a2, c2, rfl⟩ := rows_slice h2
  obtain ⟨r, hr0⟩ : ∃ r, r = dec (SecsEq C l m) := ⟨_, rfl⟩
  rw [← hr0]
  have hrr := Lib.hid hr0
  clear hr0
  have e71 := enters71
  by_cases hln : l.length = m.length
  · have hln2 := Lib.hid hln
    rw [← hln]
    clear hln
    go_enter Tryz.func70, Tryz.ntmps70
    go_wp2
    go_loopg [17] l.length (fun gn i wr => ∃ k : Nat, gn + k = l.length ∧ k ≤ l.length ∧ i = .int .i64 k ∧ Below w.heap.size w wr ∧ (∀ (j : Nat) (x y : SecT), j < k → l[j]? = some x → m[j]? = some y → SecEq x y (C x) (C y)))
    case atStart => exact ⟨0, by omega, by omega, rfl, Below.refl _ _, fun j x y hj => by omega⟩
    case round =>
      obtain ⟨k, hgk, hk, rfl, hbl, hA0⟩ := hrel
      have hA := Lib.hid hA0
      clear hA0
      by_cases hlt : k < l.length
      · have hlm : k < m.length := by have := hln2.out; omega
        obtain ⟨b1, o1, rfl⟩ := rows_some2 h1 hlt
        obtain ⟨b2, o2, rfl⟩ := rows_some2 h2 hlm
        have hlt' : (k : Int) < (l.length : Int) := by omega
        obtain ⟨x, hx⟩ : ∃ x, l[k]? = some x := ⟨l[k], by simp [hlt]⟩
        obtain ⟨y, hy⟩ : ∃ x, m[k]? = some x := ⟨m[k], by simp [hlm]⟩
        have hB := hbl.size
        have hB2 : ∀ A, w.heap.size ≤ (wr.alloc A).heap.size := fun A => by rw [World.size_alloc]; omega
        have hbb := fun A B => (hbl.alloc hB A).alloc (hB2 A) B
        have hcall := fun A B => sameSec_c x y ((hC1 x (List.mem_of_getElem? hx)).below (hbb A B)) ((hC2 y (List.mem_of_getElem? hy)).below (hbb A B))
        obtain ⟨p0, p1, p2, p3, p4⟩ := rows_sec (h1.below hbl) hx
        obtain ⟨g0, g1, g2, g3, g4⟩ := rows_sec (h2.below hbl) hy
        have q0 := fun A => (World.cell?_alloc_lt wr A _ (low_of_cell g0)).trans g0
        have q1 := fun A => (World.cell?_alloc_lt wr A _ (low_of_cell g1)).trans g1
        have q2 := fun A => (World.cell?_alloc_lt wr A _ (low_of_cell g2)).trans g2
        have q3 := fun A => (World.cell?_alloc_lt wr A _ (low_of_cell g3)).trans g3
        have q4 := fun A => (World.cell?_alloc_lt wr A _ (low_of_cell g4)).trans g4
        have hxH := Lib.hid hx
        have hyH := Lib.hid hy
        clear hx hy h1 h2 hC1 hC2 g0 g1 g2 g3 g4
        by_cases e : SecEq x y (C x) (C y)
        · simp only [dec_yes e] at hcall
          have hne := Lib.hid e
          clear e
          obtain ⟨xn, xr, xa, xb, xl, xc, xz⟩ := x
          obtain ⟨yn, yr, ya, yb, yl, yc, yz⟩ := y
          dsimp only at hcall p0 p1 p2 p3 p4 q0 q1 q2 q3 q4
          go_wp2_with (go_at_fn 71; refine (hcall _ _).mono ?_; rintro e w1 ⟨rfl, hb1⟩)
          go_roundg (gk - 1)
          case measure => omega
          case rel =>
            refine ⟨k + 1, by omega, by omega, by go_num, bel_then (hbb _ _) (Nat.le_refl _) hb1, fun j x' y' hj hx' hy' => ?_⟩
            by_cases hjk : j < k
            · exact hA.out j x' y' hjk hx' hy'
            · obtain rfl : j = k := by omega
              rw [hxH.out] at hx'
              rw [hyH.out] at hy'
              cases hx'
              cases hy'
              exact hne.out
        · simp only [dec_no e] at hcall
          have hf := Lib.hid (show r = false by rw [hrr.out]; exact dec_no fun h => e (h.2 k x y hxH.out hyH.out))
          clear e
          obtain ⟨xn, xr, xa, xb, xl, xc, xz⟩ := x
          obtain ⟨yn, yr, ya, yb, yl, yc, yz⟩ := y
          dsimp only at hcall p0 p1 p2 p3 p4 q0 q1 q2 q3 q4
          go_wp2_with (go_at_fn 71; refine (hcall _ _).mono ?_; rintro e w1 ⟨rfl, hb1⟩)
          go_ret
          exact ⟨by rw [hf.out]; rfl, bel_then (hbb _ _) (Nat.le_refl _) hb1⟩
      · obtain rfl : k = l.length := by omega
        have hf := Lib.hid (show r = true by
          rw [hrr.out]
          exact dec_yes ⟨hln2.out, fun j x y hx hy => hA.out j x y (List.getElem?_eq_some_iff.1 hx).1 hx hy⟩)
        go_wp2
        go_ret
        exact ⟨by rw [hf.out]; rfl, hbl⟩
  · have hf := Lib.hid (show r = false by rw [hrr.out]; exact dec_no fun h => hln h.1)
    have hb : ((l.length : Int) == (m.length : Int)) = false := by simp; omega
    go_enter Tryz.func70, Tryz.ntmps70
    go_wp2
    go_ret
    exact ⟨by rw [hf.out]; rfl, Below.refl _ _⟩
end Go.Ev

