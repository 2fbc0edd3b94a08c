import Derived.Test.YtepopmplcjhfbaaGreatObCi
import Derived.Deep.WholeRow
import Derived.Laws.Rows
set_option linter.unusedSectionVars false
set_option linter.unusedVariables false
set_option linter.unusedSimpArgs false
set_option linter.unnecessarySimpa false
/-
  Stage 3: the program's LineAt, at a place that is inside.
-/
namespace Go.Ev
open Go.RowKit Go.Proofs Go.Rw
def LineT.v (x : LineT) : Value := .agg #[.int .i64 x.sec, .int .i64 x.off, .int .i64 x.file, .int .i64 x.line]
/-- The last of the first k lines that is of section s and not behind 'at'. -/
def best (l : List LineT) (s a : Int) : Nat → LineT
  | 0 => default
  | k + 1 => match l[k]? with
    | some x => if x.sec = s ∧ x.off ≤ a then x else best l s a k
    | none => best l s a k
/-- The line that lies in block B. -/
def LineB (W : World) (B : Nat) (x : LineT) : Prop := W.heap[B]? = some (.cells #[.int .i64 x.sec, .int .i64 x.off, .int .i64 x.file, .int .i64 x.line] 48 (0, 0))
theorem LineB.cells {W : World} {B : Nat} {x : LineT} (h : LineB W B x) : W.cell? ⟨B, 0, none⟩ = some (.int .i64 x.sec) ∧ W.cell? ⟨B, 1, none⟩ = some (.int .i64 x.off) ∧ W.cell? ⟨B, 2, none⟩ = some (.int .i64 x.file) ∧ W.cell? ⟨B, 3, none⟩ = some (.int .i64 x.line) := by
  unfold LineB at h
  refine ⟨?_, ?_, ?_, ?_⟩ <;> simp [World.cell?, h]
theorem LineB.below {W W' : World} {B : Nat} {x : LineT} (h : LineB W B x) (hb : Below W.heap.size W W') : LineB W' B x := (hb.block B (Array.getElem?_eq_some_iff.1 h).1).trans h
theorem lineB_new (W : World) (x : LineT) : LineB (W.alloc (.cells #[.int .i64 x.sec, .int .i64 x.off, .int .i64 x.file, .int .i64 x.line] 48)) W.heap.size x := by
  unfold LineB
  exact heap_alloc_new W _
theorem LineB.frozen {W : World} {B : Nat} {x : LineT} (h : LineB W B x) (i : Nat) : W.frozen? ⟨B, i, none⟩ = false := by
  unfold LineB at h
  simp [World.frozen?, h]
theorem lineB_set {W : World} {B : Nat} {x : LineT} (h : LineB W B x) (y : LineT) : LineB ((((W.setCell ⟨B, 0, none⟩ (.int .i64 y.sec)).setCell ⟨B, 1, none⟩ (.int .i64 y.off)).setCell ⟨B, 2, none⟩ (.int .i64 y.file)).setCell ⟨B, 3, none⟩ (.int .i64 y.line)) B y := by
  unfold LineB at *
  exact heap_setCell_same _ _ 3 _ _ _ (heap_setCell_same _ _ 2 _ _ _ (heap_setCell_same _ _ 1 _ _ _ (heap_setCell_same _ _ 0 _ _ _ h)))
theorem lineB_other {W : World} {B : Nat} {x : LineT} (h : LineB W B x) {C : Nat} (hne : B ≠ C) (a b c d : Value) : LineB ((((W.setCell ⟨C, 0, none⟩ a).setCell ⟨C, 1, none⟩ b).setCell ⟨C, 2, none⟩ c).setCell ⟨C, 3, none⟩ d) B x := by
  unfold LineB at *
  rw [heap_setCell_other _ _ _ _ hne, heap_setCell_other _ _ _ _ hne, heap_setCell_other _ _ _ _ hne, heap_setCell_other _ _ _ _ hne]
  exact h
theorem LineB.alloc {W : World} {B : Nat} {x : LineT} (h : LineB W B x) (o : Obj) : LineB (W.alloc o) B x := h.below ((Below.refl _ _).alloc (Nat.le_refl _) o)
theorem below_set4 {N : Nat} {w W : World} (h : Below N w W) {C : Nat} (hC : N ≤ C) (a b c d : Value) : Below N w ((((W.setCell ⟨C, 0, none⟩ a).setCell ⟨C, 1, none⟩ b).setCell ⟨C, 2, none⟩ c).setCell ⟨C, 3, none⟩ d) :=
  (((h.setCell (p := ⟨C, 0, none⟩) hC _).setCell (p := ⟨C, 1, none⟩) hC _).setCell (p := ⟨C, 2, none⟩) hC _).setCell (p := ⟨C, 3, none⟩) hC _
theorem best_yes {l : List LineT} {s a : Int} {k : Nat} {x : LineT} (hx : l[k]? = some x) (h : x.sec = s ∧ x.off ≤ a) : best l s a (k + 1) = x := by
  unfold best
  rw [hx]
  exact if_pos h
theorem best_no {l : List LineT} {s a : Int} {k : Nat} {x : LineT} (hx : l[k]? = some x) (h : ¬ (x.sec = s ∧ x.off ≤ a)) : best l s a (k + 1) = best l s a k := by
  conv => lhs; unfold best
  rw [hx]
  exact if_neg h
theorem isIndex_c {w : World} (i : Int) (a : Option Addr) (n c : Nat) (h0 : 0 ≤ i) (h1 : i < (n : Int)) : Calls Tryz.prog 107 #[.int .i64 i, .slice a n c] w fun e w' => e = .returned (.bool true) ∧ w' = w := by
  go_enter Tryz.func107, Tryz.ntmps107
  go_wp2
  go_ret
  exact ⟨rfl, rfl⟩
set_option maxRecDepth 100000 in
theorem hasByte_c {w : World} (s : SecT) (h : s.R) (i : Int) (h0 : 0 ≤ i) (h1 : i ≤ 9223372036854775807) (h2 : i < (s.bn : Int) + s.zero) : Calls Tryz.prog 108 #[s.v, .int .i64 i] w fun e w' => e = .returned (.bool true) ∧ Below w.heap.size w w' := by
  obtain ⟨nm, ri, al, ba, bn, bc, ze⟩ := s
  obtain ⟨r1, r2, r3, r4, r5⟩ := h
  dsimp only [SecT.v] at *
  unfold inI64 at *
  have hd : i - (bn : Int) < ze := by omega
  have hw : wrap64 (i - (bn : Int)) = i - (bn : Int) := by unfold wrap64; omega
  go_enter Tryz.func108, Tryz.ntmps108
  go_wp2
  all_goals (go_ret; first | exact ⟨rfl, (Below.refl _ _).alloc (Nat.le_refl _) _⟩ | (exfalso; omega))
theorem default_line : (default : LineT) = ⟨0, 0, 0, 0⟩ := rfl
/-- What LineAt answers. -/
def LaR (x : LineT) (w : World) (e : Ending) (w' : World) : Prop := e = .returned (.tuple #[(if x.line = 0 then (default : LineT) else x).v, .bool (decide (x.line ≠ 0))]) ∧ Below w.heap.size w w'
set_option maxRecDepth 100000 in
set_option maxHeartbeats 4000000 in
theorem lineAt_c {w : World} {v : Value} {o : ObjT} (h : ObjAt w v o) (hR : o.R) {j : Nat} {y : SecT} (hy : o.secs[j]? = some y) {at' : Int} (h0 : 0 ≤ at') (h1 : at' ≤ 9223372036854775807) (h2 : at' < (y.bn : Int) + y.zero) :
    Calls Tryz.prog 33 #[v, .int .i64 (j : Int), .int .i64 at'] w (LaR (best o.lines (j : Int) at' o.lines.length) w) := by
  obtain ⟨s1, s2, s3, s4, s5, rfl, k1, k2, k3, k4, k5⟩ := id h
  obtain ⟨a1, c1, rfl⟩ := rows_slice k1
  obtain ⟨a5, c5, rfl⟩ := rows_slice k5
  obtain ⟨hR1, -, -, -, hR5, hn1, -, -, -, hn5⟩ := hR
  have hj : j < o.secs.length := (List.getElem?_eq_some_iff.1 hy).1
  have hj' : (j : Int) < (o.secs.length : Int) := by omega
  obtain ⟨bs, os, rfl⟩ := rows_some2 k1 hj
  have hyR := hR1 _ (List.mem_of_getElem? hy)
  have hhb := fun w => hasByte_c (w := w) y hyR at' h0 h1 h2
  have z2 : ∀ A B, Below w.heap.size w ((w.alloc A).alloc B) := fun A B => ((Below.refl w.heap.size w).alloc (Nat.le_refl _) A).alloc (by simp) B
  have p0 := fun A B => (rows_sec (k1.below (z2 A B)) hy).1
  have p1 := fun A B => (rows_sec (k1.below (z2 A B)) hy).2.1
  have p2 := fun A B => (rows_sec (k1.below (z2 A B)) hy).2.2.1
  have p3 := fun A B => (rows_sec (k1.below (z2 A B)) hy).2.2.2.1
  have p4 := fun A B => (rows_sec (k1.below (z2 A B)) hy).2.2.2.2
  dsimp only [SecT.v] at hhb
  go_enter Tryz.func33, Tryz.ntmps33
  go_wp2_with fail
  refine (isIndex_c _ _ _ _ (by omega) hj').mono ?_
  rintro e w1 ⟨rfl, rfl⟩
  go_wp2_with fail
  refine (hhb _).mono ?_
  rintro e w2 ⟨rfl, hb2⟩
  have hbw := bel_then (z2 _ _) (Nat.le_refl _) hb2
  have b4 := (hb2.cell (p := ⟨w.heap.size, 4, none⟩) (by simp; omega)).trans ((World.cell?_alloc_lt _ _ _ (by simp)).trans (new_cell w _ 28 4 _ rfl))
  have l6 : LineB w2 (w.heap.size + 1) default := by
    have := LineB.below (lineB_new (w.alloc (.cells #[.slice (some ⟨bs, os, none⟩) o.secs.length c1, s2, s3, s4, .slice a5 o.lines.length c5] 28)) default) hb2
    rwa [World.size_alloc] at this
  clear p0 p1 p2 p3 p4 hb2 z2 hhb
  have b4 := fun o => (World.cell?_alloc_lt w2 o _ (low_of_cell b4)).trans b4
  have hB := hbw.size
  have hlow : w.heap.size + 1 < w2.heap.size := (Array.getElem?_eq_some_iff.1 l6).1
  go_wp2_with fail
  go_loopw [30] (fun i wr => ∃ k : Nat, k ≤ o.lines.length ∧ i = .int .i64 k ∧ LineB wr w2.heap.size (best o.lines (j : Int) at' k) ∧ LineB wr (w.heap.size + 1) default ∧ Below w.heap.size w wr) (fun i _ => o.lines.length - (intOf i).toNat)
  case atStart => exact ⟨0, by omega, rfl, lineB_new w2 default, l6.below ((Below.refl _ _).alloc (Nat.le_refl _) _), hbw.alloc hB _⟩
  case round =>
    obtain ⟨k, hk, rfl, lb, l6', hbl⟩ := hrel
    by_cases hlt : k < o.lines.length
    · obtain ⟨b, of, rfl⟩ := rows_some2 k5 hlt
      obtain ⟨⟨xs, xo, xf, xl⟩, hx⟩ : ∃ x, o.lines[k]? = some x := ⟨o.lines[k], by simp [hlt]⟩
      obtain ⟨g0, g1, g2, g3⟩ := rows_line (k5.below hbl) hx
      obtain ⟨r0, r1, r2, r3⟩ := hR5 _ (List.mem_of_getElem? hx)
      dsimp only at g0 g1 g2 g3 r0 r1 r2 r3
      have hlt' : (k : Int) < (o.lines.length : Int) := by omega
      have hx := Lib.hid hx
      have lbl : w2.heap.size < wr.heap.size := (Array.getElem?_eq_some_iff.1 lb).1
      have hBr := hbl.size
      obtain ⟨bl, hbl1⟩ : ∃ bl, bl = best o.lines (j : Int) at' k := ⟨_, rfl⟩
      rw [← hbl1] at lb
      have hbl2 := Lib.hid hbl1
      clear hbl1
      obtain ⟨c0, c1', c2, c3⟩ := lb.cells
      have hne : w2.heap.size ≠ wr.heap.size := Nat.ne_of_lt lbl
      have f0 := lb.frozen 0
      have f1 := lb.frozen 1
      have f2 := lb.frozen 2
      have f3 := lb.frozen 3
      clear b4 hbw l6
      by_cases hs : xs = (j : Int)
      · subst hs
        by_cases ho : xo ≤ at'
        · go_wp2
          go_roundw
          case rel =>
            refine ⟨k + 1, by omega, by go_num, ?_, (lineB_other l6' (by omega) _ _ _ _).alloc _, (below_set4 hbl hB _ _ _ _).alloc (by simpa using hBr) _⟩
            rw [best_yes hx.out ⟨rfl, ho⟩]
            exact (lineB_set lb ⟨(j : Int), xo, xf, xl⟩).alloc _
          case measure => simp [intOf]; omega
        · go_wp2
          go_roundw
          case rel => exact ⟨k + 1, by omega, by go_num, by rw [best_no hx.out (fun h => ho h.2), ← hbl2.out]; exact lb.alloc _, l6'.alloc _, hbl.alloc hBr _⟩
          case measure => simp [intOf]; omega
      · have hs' : (xs == (j : Int)) = false := by simp; omega
        go_wp2
        go_roundw
        case rel => exact ⟨k + 1, by omega, by go_num, by rw [best_no hx.out (fun h => hs h.1), ← hbl2.out]; exact lb.alloc _, l6'.alloc _, hbl.alloc hBr _⟩
        case measure => simp [intOf]; omega
    · have : k = o.lines.length := by omega
      subst this
      obtain ⟨bl, hbl1⟩ : ∃ bl, bl = best o.lines (j : Int) at' o.lines.length := ⟨_, rfl⟩
      rw [← hbl1] at lb
      have hbl2 := Lib.hid hbl1
      clear hbl1
      obtain ⟨c0, c1, c2, c3⟩ := lb.cells
      obtain ⟨d0, d1, d2, d3⟩ := l6'.cells
      have f0 := l6'.frozen 0
      have f1 := l6'.frozen 1
      have f2 := l6'.frozen 2
      have f3 := l6'.frozen 3
      obtain ⟨bs', bo', bf', bn'⟩ := bl
      dsimp only at c0 c1 c2 c3
      simp only [default_line] at d0 d1 d2 d3
      clear b4
      by_cases hz : bn' = 0
      · go_wp2
        refine bodyPost_ret (v := .tuple #[.agg #[.int .i64 0, .int .i64 0, .int .i64 0, .int .i64 0], .bool false]) (by simp [results, Tryz.f33, go_sem, *]) rfl ?_
        exact ⟨by rw [← hbl2.out]; subst hz; rfl, below_set4 hbl (by omega) _ _ _ _⟩
      · have hz' : (bn' == 0) = false := by simpa using hz
        go_wp2
        refine bodyPost_ret (v := .tuple #[.agg #[.int .i64 bs', .int .i64 bo', .int .i64 bf', .int .i64 bn'], .bool true]) (by simp [results, Tryz.f33, go_sem, *]) rfl ?_
        exact ⟨by rw [← hbl2.out]; simp [hz, LineT.v], below_set4 hbl (by omega) _ _ _ _⟩
end Go.Ev
