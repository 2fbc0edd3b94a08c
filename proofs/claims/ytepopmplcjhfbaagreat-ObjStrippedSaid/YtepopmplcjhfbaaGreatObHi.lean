import Derived.Test.YtepopmplcjhfbaaGreatObGca
import Derived.Lib.Hide
import Derived.Deep.WholeRow
import Derived.Laws.Rows
import Derived.Test.YtepopmplcjhfbaaGreatObHc2
import Derived.Deep.RegionWith
import Derived.Deep.RegionHeld3
import Derived.Shelf.Abstract
set_option linter.unusedSectionVars false
set_option linter.unusedVariables false
set_option linter.unusedSimpArgs false
set_option linter.unnecessarySimpa false
/-
  Stage 3: a line that lies in a block of its own.
-/
namespace Go.Ev
open Go.RowKit Go.Proofs Go.Rw
def LineT.v (x : LineT) : Value := .agg #[.int .i64 x.sec, .int .i64 x.off, .int .i64 x.file, .int .i64 x.line]
/-- The line that lies in block B. -/
def LineB (W : World) (B : Nat) (x : LineT) : Prop := W.heap[B]? = some (.cells #[.int .i64 x.sec, .int .i64 x.off, .int .i64 x.file, .int .i64 x.line] 48 (0, 0))
theorem LineB.cells {W : World} {B : Nat} {x : LineT} (h : LineB W B x) : W.cell? ⟨B, 0, none⟩ = some (.int .i64 x.sec) ∧ W.cell? ⟨B, 1, none⟩ = some (.int .i64 x.off) ∧ W.cell? ⟨B, 2, none⟩ = some (.int .i64 x.file) ∧ W.cell? ⟨B, 3, none⟩ = some (.int .i64 x.line) := by
  unfold LineB at h
  refine ⟨?_, ?_, ?_, ?_⟩ <;> simp [World.cell?, h]
theorem LineB.below {W W' : World} {B : Nat} {x : LineT} (h : LineB W B x) (hb : Below W.heap.size W W') : LineB W' B x := (hb.block B (Array.getElem?_eq_some_iff.1 h).1).trans h
theorem lineB_new (W : World) (x : LineT) : LineB (W.alloc (.cells #[.int .i64 x.sec, .int .i64 x.off, .int .i64 x.file, .int .i64 x.line] 48)) W.heap.size x := by
  unfold LineB
  exact heap_alloc_new W _
theorem LineB.frozen {W : World} {B : Nat} {x : LineT} (h : LineB W B x) (i : Nat) : W.frozen? ⟨B, i, none⟩ = false := by
  unfold LineB at h
  simp [World.frozen?, h]
theorem lineB_set {W : World} {B : Nat} {x : LineT} (h : LineB W B x) (y : LineT) : LineB ((((W.setCell ⟨B, 0, none⟩ (.int .i64 y.sec)).setCell ⟨B, 1, none⟩ (.int .i64 y.off)).setCell ⟨B, 2, none⟩ (.int .i64 y.file)).setCell ⟨B, 3, none⟩ (.int .i64 y.line)) B y := by
  unfold LineB at *
  exact heap_setCell_same _ _ 3 _ _ _ (heap_setCell_same _ _ 2 _ _ _ (heap_setCell_same _ _ 1 _ _ _ (heap_setCell_same _ _ 0 _ _ _ h)))
theorem lineB_other {W : World} {B : Nat} {x : LineT} (h : LineB W B x) {C : Nat} (hne : B ≠ C) (a b c d : Value) : LineB ((((W.setCell ⟨C, 0, none⟩ a).setCell ⟨C, 1, none⟩ b).setCell ⟨C, 2, none⟩ c).setCell ⟨C, 3, none⟩ d) B x := by
  unfold LineB at *
  rw [heap_setCell_other _ _ _ _ hne, heap_setCell_other _ _ _ _ hne, heap_setCell_other _ _ _ _ hne, heap_setCell_other _ _ _ _ hne]
  exact h
theorem LineB.alloc {W : World} {B : Nat} {x : LineT} (h : LineB W B x) (o : Obj) : LineB (W.alloc o) B x := h.below ((Below.refl _ _).alloc (Nat.le_refl _) o)
theorem below_set4 {N : Nat} {w W : World} (h : Below N w W) {C : Nat} (hC : N ≤ C) (a b c d : Value) : Below N w ((((W.setCell ⟨C, 0, none⟩ a).setCell ⟨C, 1, none⟩ b).setCell ⟨C, 2, none⟩ c).setCell ⟨C, 3, none⟩ d) :=
  (((h.setCell (p := ⟨C, 0, none⟩) hC _).setCell (p := ⟨C, 1, none⟩) hC _).setCell (p := ⟨C, 2, none⟩) hC _).setCell (p := ⟨C, 3, none⟩) hC _
end Go.Ev

/-
  Stage 3: the program's LineAt, at a place that is inside.
-/
namespace Go.Ev
open Go.RowKit Go.Proofs Go.Rw
/-- The last of the first k lines that is of section s and not behind 'at'. -/
def best (l : List LineT) (s a : Int) : Nat → LineT
  | 0 => default
  | k + 1 => match l[k]? with
    | some x => if x.sec = s ∧ x.off ≤ a then x else best l s a k
    | none => best l s a k
theorem best_yes {l : List LineT} {s a : Int} {k : Nat} {x : LineT} (hx : l[k]? = some x) (h : x.sec = s ∧ x.off ≤ a) : best l s a (k + 1) = x := by
  unfold best
  rw [hx]
  exact if_pos h
theorem best_no {l : List LineT} {s a : Int} {k : Nat} {x : LineT} (hx : l[k]? = some x) (h : ¬ (x.sec = s ∧ x.off ≤ a)) : best l s a (k + 1) = best l s a k := by
  conv => lhs; unfold best
  rw [hx]
  exact if_neg h
theorem isIndex_c {w : World} (i : Int) (a : Option Addr) (n c : Nat) (h0 : 0 ≤ i) (h1 : i < (n : Int)) : Calls Tryz.prog 107 #[.int .i64 i, .slice a n c] w fun e w' => e = .returned (.bool true) ∧ w' = w := by
  go_enter Tryz.func107, Tryz.ntmps107
  go_wp2
  go_ret
  exact ⟨rfl, rfl⟩
set_option maxRecDepth 100000 in
theorem hasByte_c {w : World} (s : SecT) (h : s.R) (i : Int) (h0 : 0 ≤ i) (h1 : i ≤ 9223372036854775807) (h2 : i < (s.bn : Int) + s.zero) : Calls Tryz.prog 108 #[s.v, .int .i64 i] w fun e w' => e = .returned (.bool true) ∧ Below w.heap.size w w' := by
  obtain ⟨nm, ri, al, ba, bn, bc, ze⟩ := s
  obtain ⟨r1, r2, r3, r4, r5⟩ := h
  dsimp only [SecT.v] at *
  unfold inI64 at *
  have hd : i - (bn : Int) < ze := by omega
  have hw : wrap64 (i - (bn : Int)) = i - (bn : Int) := by unfold wrap64; omega
  go_enter Tryz.func108, Tryz.ntmps108
  go_wp2
  all_goals (go_ret; first | exact ⟨rfl, (Below.refl _ _).alloc (Nat.le_refl _) _⟩ | (exfalso; omega))
theorem default_line : (default : LineT) = ⟨0, 0, 0, 0⟩ := rfl
/-- What LineAt answers. -/
def LaR (x : LineT) (w : World) (e : Ending) (w' : World) : Prop := e = .returned (.tuple #[(if x.line = 0 then (default : LineT) else x).v, .bool (decide (x.line ≠ 0))]) ∧ Below w.heap.size w w'
set_option maxRecDepth 100000 in
set_option maxHeartbeats 4000000 in
theorem lineAt_c {w : World} {v : Value} {o : ObjT} (h : ObjAt w v o) (hR : o.R) {j : Nat} {y : SecT} (hy : o.secs[j]? = some y) {at' : Int} (h0 : 0 ≤ at') (h1 : at' ≤ 9223372036854775807) (h2 : at' < (y.bn : Int) + y.zero) :
    Calls Tryz.prog 33 #[v, .int .i64 (j : Int), .int .i64 at'] w (LaR (best o.lines (j : Int) at' o.lines.length) w) := by
  obtain ⟨s1, s2, s3, s4, s5, rfl, k1, k2, k3, k4, k5⟩ := id h
  obtain ⟨a1, c1, rfl⟩ := rows_slice k1
  obtain ⟨a5, c5, rfl⟩ := rows_slice k5
  obtain ⟨hR1, -, -, -, hR5, hn1, -, -, -, hn5⟩ := hR
  have hj : j < o.secs.length := (List.getElem?_eq_some_iff.1 hy).1
  have hj' : (j : Int) < (o.secs.length : Int) := by omega
  obtain ⟨bs, os, rfl⟩ := rows_some2 k1 hj
  have hyR := hR1 _ (List.mem_of_getElem? hy)
  have hhb := fun w => hasByte_c (w := w) y hyR at' h0 h1 h2
  have z2 : ∀ A B, Below w.heap.size w ((w.alloc A).alloc B) := fun A B => ((Below.refl w.heap.size w).alloc (Nat.le_refl _) A).alloc (by simp) B
  have p0 := fun A B => (rows_sec (k1.below (z2 A B)) hy).1
  have p1 := fun A B => (rows_sec (k1.below (z2 A B)) hy).2.1
  have p2 := fun A B => (rows_sec (k1.below (z2 A B)) hy).2.2.1
  have p3 := fun A B => (rows_sec (k1.below (z2 A B)) hy).2.2.2.1
  have p4 := fun A B => (rows_sec (k1.below (z2 A B)) hy).2.2.2.2
  dsimp only [SecT.v] at hhb
  go_enter Tryz.func33, Tryz.ntmps33
  go_wp2_with fail
  refine (isIndex_c _ _ _ _ (by omega) hj').mono ?_
  rintro e w1 ⟨rfl, rfl⟩
  go_wp2_with fail
  refine (hhb _).mono ?_
  rintro e w2 ⟨rfl, hb2⟩
  have hbw := bel_then (z2 _ _) (Nat.le_refl _) hb2
  have b4 := (hb2.cell (p := ⟨w.heap.size, 4, none⟩) (by simp; omega)).trans ((World.cell?_alloc_lt _ _ _ (by simp)).trans (new_cell w _ 28 4 _ rfl))
  have l6 : LineB w2 (w.heap.size + 1) default := by
    have := LineB.below (lineB_new (w.alloc (.cells #[.slice (some ⟨bs, os, none⟩) o.secs.length c1, s2, s3, s4, .slice a5 o.lines.length c5] 28)) default) hb2
    rwa [World.size_alloc] at this
  clear p0 p1 p2 p3 p4 hb2 z2 hhb
  have b4 := fun o => (World.cell?_alloc_lt w2 o _ (low_of_cell b4)).trans b4
  have hB := hbw.size
  have hlow : w.heap.size + 1 < w2.heap.size := (Array.getElem?_eq_some_iff.1 l6).1
  go_wp2_with fail
  go_loopw [30] (fun i wr => ∃ k : Nat, k ≤ o.lines.length ∧ i = .int .i64 k ∧ LineB wr w2.heap.size (best o.lines (j : Int) at' k) ∧ LineB wr (w.heap.size + 1) default ∧ Below w.heap.size w wr) (fun i _ => o.lines.length - (intOf i).toNat)
  case atStart => exact ⟨0, by omega, rfl, lineB_new w2 default, l6.below ((Below.refl _ _).alloc (Nat.le_refl _) _), hbw.alloc hB _⟩
  case round =>
    obtain ⟨k, hk, rfl, lb, l6', hbl⟩ := hrel
    by_cases hlt : k < o.lines.length
    · obtain ⟨b, of, rfl⟩ := rows_some2 k5 hlt
      obtain ⟨⟨xs, xo, xf, xl⟩, hx⟩ : ∃ x, o.lines[k]? = some x := ⟨o.lines[k], by simp [hlt]⟩
      obtain ⟨g0, g1, g2, g3⟩ := rows_line (k5.below hbl) hx
      obtain ⟨r0, r1, r2, r3⟩ := hR5 _ (List.mem_of_getElem? hx)
      dsimp only at g0 g1 g2 g3 r0 r1 r2 r3
      have hlt' : (k : Int) < (o.lines.length : Int) := by omega
      have hx := Lib.hid hx
      have lbl : w2.heap.size < wr.heap.size := (Array.getElem?_eq_some_iff.1 lb).1
      have hBr := hbl.size
      obtain ⟨bl, hbl1⟩ : ∃ bl, bl = best o.lines (j : Int) at' k := ⟨_, rfl⟩
      rw [← hbl1] at lb
      have hbl2 := Lib.hid hbl1
      clear hbl1
      obtain ⟨c0, c1', c2, c3⟩ := lb.cells
      have hne : w2.heap.size ≠ wr.heap.size := Nat.ne_of_lt lbl
      have f0 := lb.frozen 0
      have f1 := lb.frozen 1
      have f2 := lb.frozen 2
      have f3 := lb.frozen 3
      clear b4 hbw l6
      by_cases hs : xs = (j : Int)
      · subst hs
        by_cases ho : xo ≤ at'
        · go_wp2
          go_roundw
          case rel =>
            refine ⟨k + 1, by omega, by go_num, ?_, (lineB_other l6' (by omega) _ _ _ _).alloc _, (below_set4 hbl hB _ _ _ _).alloc (by simpa using hBr) _⟩
            rw [best_yes hx.out ⟨rfl, ho⟩]
            exact (lineB_set lb ⟨(j : Int), xo, xf, xl⟩).alloc _
          case measure => simp [intOf]; omega
        · go_wp2
          go_roundw
          case rel => exact ⟨k + 1, by omega, by go_num, by rw [best_no hx.out (fun h => ho h.2), ← hbl2.out]; exact lb.alloc _, l6'.alloc _, hbl.alloc hBr _⟩
          case measure => simp [intOf]; omega
      · have hs' : (xs == (j : Int)) = false := by simp; omega
        go_wp2
        go_roundw
        case rel => exact ⟨k + 1, by omega, by go_num, by rw [best_no hx.out (fun h => hs h.1), ← hbl2.out]; exact lb.alloc _, l6'.alloc _, hbl.alloc hBr _⟩
        case measure => simp [intOf]; omega
    · have : k = o.lines.length := by omega
      subst this
      obtain ⟨bl, hbl1⟩ : ∃ bl, bl = best o.lines (j : Int) at' o.lines.length := ⟨_, rfl⟩
      rw [← hbl1] at lb
      have hbl2 := Lib.hid hbl1
      clear hbl1
      obtain ⟨c0, c1, c2, c3⟩ := lb.cells
      obtain ⟨d0, d1, d2, d3⟩ := l6'.cells
      have f0 := l6'.frozen 0
      have f1 := l6'.frozen 1
      have f2 := l6'.frozen 2
      have f3 := l6'.frozen 3
      obtain ⟨bs', bo', bf', bn'⟩ := bl
      dsimp only at c0 c1 c2 c3
      simp only [default_line] at d0 d1 d2 d3
      clear b4
      by_cases hz : bn' = 0
      · go_wp2
        refine bodyPost_ret (v := .tuple #[.agg #[.int .i64 0, .int .i64 0, .int .i64 0, .int .i64 0], .bool false]) (by simp [results, Tryz.f33, go_sem, *]) rfl ?_
        exact ⟨by rw [← hbl2.out]; subst hz; rfl, below_set4 hbl (by omega) _ _ _ _⟩
      · have hz' : (bn' == 0) = false := by simpa using hz
        go_wp2
        refine bodyPost_ret (v := .tuple #[.agg #[.int .i64 bs', .int .i64 bo', .int .i64 bf', .int .i64 bn'], .bool true]) (by simp [results, Tryz.f33, go_sem, *]) rfl ?_
        exact ⟨by rw [← hbl2.out]; simp [hz, LineT.v], below_set4 hbl (by omega) _ _ _ _⟩
end Go.Ev

/-
  Stage 3: the program's SymbolAt: its callees.
-/
namespace Go.Ev
open Go.RowKit Go.Proofs Go.Rw
def covS (off : Int) (s : SymT) : Prop := s.val ≤ off ∧ off - s.val < s.size
instance (off : Int) (s : SymT) : Decidable (covS off s) := by unfold covS; exact inferInstance
def hit (sec off : Int) (s : SymT) : Prop := 0 ≤ sec ∧ s.sec = sec ∧ covS off s
instance (sec off : Int) (s : SymT) : Decidable (hit sec off s) := by unfold hit; exact inferInstance
def near (s y : SymT) : Prop := y.val < s.val ∨ (y.val = s.val ∧ s.size < y.size)
instance (s y : SymT) : Decidable (near s y) := by unfold near; exact inferInstance
set_option maxRecDepth 100000 in
theorem covers_c {w : World} (s : SymT) (h : s.R) (off : Int) (ho : inI64 off) : Calls Tryz.prog 110 #[s.v, .int .i64 off] w fun e w' => e = .returned (.bool (decide (covS off s))) ∧ Below w.heap.size w w' := by
  obtain ⟨nm, se, va, sz, bi, ki⟩ := s
  obtain ⟨r1, r2, r3, r4, r5, r6⟩ := h
  dsimp only [SymT.v] at *
  unfold inI64 inU32 at *
  by_cases c1 : va ≤ off
  · have hw : wrap64 (off - va) = off - va := by unfold wrap64; omega
    by_cases c2 : off - va < sz
    · rw [decide_eq_true (show covS off ⟨nm, se, va, sz, bi, ki⟩ from ⟨c1, c2⟩)]
      go_enter Tryz.func110, Tryz.ntmps110
      go_wp2
      all_goals (go_ret; exact ⟨rfl, (Below.refl _ _).alloc (Nat.le_refl _) _⟩)
    · rw [decide_eq_false (show ¬ covS off ⟨nm, se, va, sz, bi, ki⟩ from fun h => c2 h.2)]
      go_enter Tryz.func110, Tryz.ntmps110
      go_wp2
      all_goals (go_ret; exact ⟨rfl, (Below.refl _ _).alloc (Nat.le_refl _) _⟩)
  · rw [decide_eq_false (show ¬ covS off ⟨nm, se, va, sz, bi, ki⟩ from fun h => c1 h.1)]
    go_enter Tryz.func110, Tryz.ntmps110
    go_wp2
    all_goals (go_ret; exact ⟨rfl, (Below.refl _ _).alloc (Nat.le_refl _) _⟩)
theorem isnan38 {w : World} (x : Int) : Calls Tryz.prog 228 #[.int .u32 x] w fun e w' => e = .returned (.bool false) ∧ w' = w := by
  have hx : (x != x) = false := by simp
  go_enter Tryz.func228, Tryz.ntmps228
  go_wp2
  go_ret
  exact ⟨rfl, rfl⟩
theorem isnan3 {w : World} (x : Int) : Calls Tryz.prog 229 #[.int .i64 x] w fun e w' => e = .returned (.bool false) ∧ w' = w := by
  have hx : (x != x) = false := by simp
  go_enter Tryz.func229, Tryz.ntmps229
  go_wp2
  go_ret
  exact ⟨rfl, rfl⟩
def cmpI (x y : Int) : Int := if x < y then -1 else if y < x then 1 else 0
theorem cmp38 {w : World} (x y : Int) : Calls Tryz.prog 196 #[.int .u32 x, .int .u32 y] w fun e w' => e = .returned (.int .i64 (cmpI x y)) ∧ w' = w := by
  by_cases c1 : x < y
  · rw [show cmpI x y = -1 from if_pos c1]
    go_enter Tryz.func196, Tryz.ntmps196
    go_wp2_with (first | (go_at_call 228; refine (isnan38 _).mono ?_; rintro e w1 ⟨rfl, rfl⟩))
    go_ret
    exact ⟨rfl, rfl⟩
  · by_cases c2 : y < x
    · rw [show cmpI x y = 1 from (if_neg c1).trans (if_pos c2)]
      go_enter Tryz.func196, Tryz.ntmps196
      go_wp2_with (first | (go_at_call 228; refine (isnan38 _).mono ?_; rintro e w1 ⟨rfl, rfl⟩))
      go_ret
      exact ⟨rfl, rfl⟩
    · rw [show cmpI x y = 0 from (if_neg c1).trans (if_neg c2)]
      go_enter Tryz.func196, Tryz.ntmps196
      go_wp2_with (first | (go_at_call 228; refine (isnan38 _).mono ?_; rintro e w1 ⟨rfl, rfl⟩))
      go_ret
      exact ⟨rfl, rfl⟩
theorem cmp3 {w : World} (x y : Int) : Calls Tryz.prog 197 #[.int .i64 x, .int .i64 y] w fun e w' => e = .returned (.int .i64 (cmpI x y)) ∧ w' = w := by
  by_cases c1 : x < y
  · rw [show cmpI x y = -1 from if_pos c1]
    go_enter Tryz.func197, Tryz.ntmps197
    go_wp2_with (first | (go_at_call 229; refine (isnan3 _).mono ?_; rintro e w1 ⟨rfl, rfl⟩))
    go_ret
    exact ⟨rfl, rfl⟩
  · by_cases c2 : y < x
    · rw [show cmpI x y = 1 from (if_neg c1).trans (if_pos c2)]
      go_enter Tryz.func197, Tryz.ntmps197
      go_wp2_with (first | (go_at_call 229; refine (isnan3 _).mono ?_; rintro e w1 ⟨rfl, rfl⟩))
      go_ret
      exact ⟨rfl, rfl⟩
    · rw [show cmpI x y = 0 from (if_neg c1).trans (if_neg c2)]
      go_enter Tryz.func197, Tryz.ntmps197
      go_wp2_with (first | (go_at_call 229; refine (isnan3 _).mono ?_; rintro e w1 ⟨rfl, rfl⟩))
      go_ret
      exact ⟨rfl, rfl⟩
def orI (x y : Int) : Int := if x = 0 then y else x
theorem or_c {w : World} {g : Nat} (x y : Int) (h0 : w.cell? ⟨g, 0, none⟩ = some (.int .i64 x)) (h1 : w.cell? ⟨g, 1, none⟩ = some (.int .i64 y)) : Calls Tryz.prog 195 #[.slice (some ⟨g, 0, none⟩) 2 2] w fun e w' => e = .returned (.int .i64 (orI x y)) ∧ w' = w := by
  go_enter Tryz.func195, Tryz.ntmps195
  go_wp2_with fail
  go_loopw [8] (fun i wr => ∃ k : Nat, k ≤ 2 ∧ i = .int .i64 k ∧ wr = w ∧ (1 ≤ k → x = 0) ∧ (2 ≤ k → y = 0)) (fun i _ => 2 - (intOf i).toNat)
  case atStart => exact ⟨0, by omega, rfl, rfl, by omega, by omega⟩
  case round =>
    obtain ⟨k, hk, rfl, rfl, e0, e1⟩ := hrel
    by_cases k0 : k = 0
    · subst k0
      by_cases hx : x = 0
      · have hx' : (x != 0) = false := by simp [hx]
        go_wp2
        go_roundw
        case rel => exact ⟨1, by omega, by go_num, by trivial, fun _ => hx, by omega⟩
        case measure => simp [intOf]
      · have hx' : (x != 0) = true := by simp [hx]
        go_wp2
        go_ret
        exact ⟨by simp [orI, hx], rfl⟩
    · by_cases k1 : k = 1
      · subst k1
        have hx := e0 (by omega)
        by_cases hy : y = 0
        · have hy' : (y != 0) = false := by simp [hy]
          go_wp2
          go_roundw
          case rel => exact ⟨2, by omega, by go_num, by trivial, fun _ => hx, fun _ => hy⟩
          case measure => simp [intOf]
        · have hy' : (y != 0) = true := by simp [hy]
          go_wp2
          go_ret
          exact ⟨by simp [orI, hx], rfl⟩
      · obtain rfl : k = 2 := by omega
        have hx := e0 (by omega)
        have hy := e1 (by omega)
        go_wp2
        go_ret
        exact ⟨by simp [orI, hx, hy], rfl⟩
theorem near_or (a b : SymT) : decide (orI (cmpI b.val a.val) (cmpI a.size b.size) < 0) = decide (near a b) := by
  apply decide_eq_decide.2
  unfold orI cmpI near
  repeat' split
  all_goals omega
set_option maxRecDepth 100000 in
set_option maxHeartbeats 400000 in
theorem nearer_c {w : World} (a b : SymT) (ha : a.R) (hb : b.R) : Calls Tryz.prog 111 #[a.v, b.v] w fun e w' => e = .returned (.bool (decide (near a b))) ∧ Below w.heap.size w w' := by
  rw [← near_or]
  obtain ⟨an, as', av, az, ab, ak⟩ := a
  obtain ⟨bn, bs, bv, bz, bb, bk⟩ := b
  dsimp only [SymT.v]
  generalize hu : cmpI bv av = u
  generalize hv : cmpI az bz = v
  have hu := Lib.hid hu
  have hv := Lib.hid hv
  have n0 := fun A B => (show ((((w.alloc A).alloc B).alloc (.cells #[.int .i64 u, .int .i64 v] 3)).drew).cell? ⟨w.heap.size + 1 + 1, 0, none⟩ = some (.int .i64 u) from by
    have := new_cell ((w.alloc A).alloc B) #[.int .i64 u, .int .i64 v] 3 0 _ rfl
    rw [World.size_alloc, World.size_alloc] at this
    exact this)
  have n1 := fun A B => (show ((((w.alloc A).alloc B).alloc (.cells #[.int .i64 u, .int .i64 v] 3)).drew).cell? ⟨w.heap.size + 1 + 1, 1, none⟩ = some (.int .i64 v) from by
    have := new_cell ((w.alloc A).alloc B) #[.int .i64 u, .int .i64 v] 3 1 _ rfl
    rw [World.size_alloc, World.size_alloc] at this
    exact this)
  have z3 : ∀ A B C, Below w.heap.size w (((w.alloc A).alloc B).alloc C) := fun A B C => (((Below.refl w.heap.size w).alloc (Nat.le_refl _) A).alloc (by simp) B).alloc (by rw [World.size_alloc, World.size_alloc]; omega) C
  have hor := fun A B => or_c (w := (((w.alloc A).alloc B).alloc (.cells #[.int .i64 u, .int .i64 v] 3)).drew) (g := w.heap.size + 1 + 1) u v (n0 A B) (n1 A B)
  clear n0 n1
  go_enter Tryz.func111, Tryz.ntmps111
  go_wp2_with fail
  go_region_held3 (fun w' => w'.cell? ⟨w.heap.size, 2, none⟩ = some (.int .u32 av) ∧ w'.cell? ⟨w.heap.size, 3, none⟩ = some (.int .i64 az) ∧ w'.cell? ⟨w.heap.size + 1, 2, none⟩ = some (.int .u32 bv) ∧ w'.cell? ⟨w.heap.size + 1, 3, none⟩ = some (.int .i64 bz)) (go_keep)
    (first
      | (go_at_call 196; refine (cmp38 _ _).mono ?_; rintro e w1 ⟨rfl, rfl⟩; (try rw [hu.out]))
      | (go_at_call 197; refine (cmp3 _ _).mono ?_; rintro e w1 ⟨rfl, rfl⟩; (try rw [hv.out]))
      | (go_at_call 195; refine (hor _ _).mono ?_; rintro e w1 ⟨rfl, rfl⟩))
  all_goals go_wp2
  all_goals (go_ret; exact ⟨rfl, (z3 _ _ _).drew⟩)
end Go.Ev

/-
  Stage 3: slices.ContainsFunc of symbols, where no symbol is one; the law's closures.
-/
namespace Go.Ev
open Go.RowKit Go.Proofs Go.Rw
set_option maxRecDepth 100000 in
theorem index_no {w : World} {s2 : Value} {l : List SymT} (h : RowsAt w s2 SymT.cells 6 l) (hl : l.length ≤ 140737488351232) (g : Nat) (lb : Array Value) (eg : ∀ args w, (callFunc g args).run Tryz.prog w = .ok (.enter g args) w)
    (hp : ∀ W, Below w.heap.size w W → ∀ x ∈ l, Calls Tryz.prog g (#[x.v] ++ lb) W fun e w' => e = .returned (.bool false) ∧ Below W.heap.size W w') :
    Calls Tryz.prog 139 #[s2, .func (.func g) #[] lb] w fun e w' => e = .returned (.int .i64 (-1)) ∧ Below w.heap.size w w' := by
  obtain ⟨a2, c2, rfl⟩ := rows_slice h
  go_enter Tryz.func139, Tryz.ntmps139
  go_wp2
  go_loopw [8] (fun i wr => ∃ k : Nat, k ≤ l.length ∧ i = .int .i64 k ∧ Below w.heap.size w wr) (fun i _ => l.length - (intOf i).toNat)
  case atStart => exact ⟨0, by omega, rfl, Below.refl _ _⟩
  case round =>
    obtain ⟨k, hk, rfl, hbl⟩ := hrel
    by_cases hlt : k < l.length
    · obtain ⟨b, of, rfl⟩ := rows_some2 h hlt
      obtain ⟨x, hx⟩ : ∃ x, l[k]? = some x := ⟨l[k], by simp [hlt]⟩
      have hcall := hp wr hbl x (List.mem_of_getElem? hx)
      obtain ⟨g0, g1, g2, g3, g4, g5⟩ := rows_sym (h.below hbl) hx
      have hlt' : (k : Int) < (l.length : Int) := by omega
      have hx := Lib.hid hx
      clear hp h
      obtain ⟨xn, xs, xv, xz, xb, xk⟩ := x
      dsimp only [SymT.v] at hcall g0 g1 g2 g3 g4 g5
      go_wp2_with (go_at_fn g; refine hcall.mono ?_; rintro e w' ⟨rfl, hb'⟩)
      go_roundw
      case rel => exact ⟨k + 1, by omega, by go_num, bel_then hbl (Nat.le_refl _) hb'⟩
      case measure => simp [intOf]; omega
    · have : k = l.length := by omega
      subst this
      go_wp2
      go_ret
      exact ⟨rfl, hbl⟩
theorem contains_no {w : World} {s2 : Value} {l : List SymT} (h : RowsAt w s2 SymT.cells 6 l) (hl : l.length ≤ 140737488351232) (g : Nat) (lb : Array Value) (eg : ∀ args w, (callFunc g args).run Tryz.prog w = .ok (.enter g args) w)
    (hp : ∀ W, Below w.heap.size w W → ∀ x ∈ l, Calls Tryz.prog g (#[x.v] ++ lb) W fun e w' => e = .returned (.bool false) ∧ Below W.heap.size W w') :
    Calls Tryz.prog 48 #[s2, .func (.func g) #[] lb] w fun e w' => e = .returned (.bool false) ∧ Below w.heap.size w w' := by
  go_enter Tryz.func48, Tryz.ntmps48
  go_wp2_with fail
  refine (index_no h hl g lb eg hp).mono ?_
  rintro e w' ⟨rfl, hb⟩
  go_wp2
  go_ret
  exact ⟨rfl, hb⟩
set_option maxRecDepth 100000 in
/-- The law's 'covers'. -/
theorem closure47 {W : World} {B1 B2 : Nat} (s : SymT) (h : s.R) (sec off : Int) (hs : inI64 sec) (ho : inI64 off) (h1 : W.cell? ⟨B1, 0, none⟩ = some (.int .i64 sec)) (h2 : W.cell? ⟨B2, 0, none⟩ = some (.int .i64 off)) :
    Calls Tryz.prog 47 #[s.v, .pointer (some ⟨B1, 0, none⟩), .pointer (some ⟨B2, 0, none⟩)] W fun e w' => e = .returned (.bool (decide (hit sec off s))) ∧ Below W.heap.size W w' := by
  obtain ⟨nm, se, va, sz, bi, ki⟩ := s
  obtain ⟨r1, r2, r3, r4, r5, r6⟩ := h
  dsimp only [SymT.v] at *
  unfold inI64 inU32 at *
  have q1 := fun o => (World.cell?_alloc_lt W o _ (low_of_cell h1)).trans h1
  have q2 := fun o => (World.cell?_alloc_lt W o _ (low_of_cell h2)).trans h2
  by_cases c0 : 0 ≤ sec
  · by_cases c1 : se = sec
    · subst c1
      by_cases c2 : va ≤ off
      · have hw : wrap64 (off - va) = off - va := by unfold wrap64; omega
        by_cases c3 : off - va < sz
        · rw [decide_eq_true (show hit se off ⟨nm, se, va, sz, bi, ki⟩ from ⟨c0, rfl, c2, c3⟩)]
          go_enter Tryz.func47, Tryz.ntmps47
          go_wp2
          all_goals (go_ret; exact ⟨rfl, (Below.refl _ _).alloc (Nat.le_refl _) _⟩)
        · rw [decide_eq_false (show ¬ hit se off ⟨nm, se, va, sz, bi, ki⟩ from fun h => c3 h.2.2.2)]
          go_enter Tryz.func47, Tryz.ntmps47
          go_wp2
          all_goals (go_ret; exact ⟨rfl, (Below.refl _ _).alloc (Nat.le_refl _) _⟩)
      · rw [decide_eq_false (show ¬ hit se off ⟨nm, se, va, sz, bi, ki⟩ from fun h => c2 h.2.2.1)]
        go_enter Tryz.func47, Tryz.ntmps47
        go_wp2
        all_goals (go_ret; exact ⟨rfl, (Below.refl _ _).alloc (Nat.le_refl _) _⟩)
    · have c1' : (se == sec) = false := beq_eq_false_iff_ne.2 c1
      rw [decide_eq_false (show ¬ hit sec off ⟨nm, se, va, sz, bi, ki⟩ from fun h => c1 h.2.1)]
      go_enter Tryz.func47, Tryz.ntmps47
      go_wp2
      all_goals (go_ret; exact ⟨rfl, (Below.refl _ _).alloc (Nat.le_refl _) _⟩)
  · rw [decide_eq_false (show ¬ hit sec off ⟨nm, se, va, sz, bi, ki⟩ from fun h => c0 h.1)]
    go_enter Tryz.func47, Tryz.ntmps47
    go_wp2
    all_goals (go_ret; exact ⟨rfl, (Below.refl _ _).alloc (Nat.le_refl _) _⟩)
set_option maxRecDepth 100000 in
/-- The law's last closure. -/
theorem closure49 {W : World} {B1 B2 B3 B4 : Nat} (s y : SymT) (h : s.R) (hy : y.R) (sec off : Int) (hs : inI64 sec) (ho : inI64 off) (h1 : W.cell? ⟨B1, 0, none⟩ = some (.int .i64 sec)) (h2 : W.cell? ⟨B2, 0, none⟩ = some (.int .i64 off))
    (h3 : W.cell? ⟨B3, 0, none⟩ = some (.func (.func 47) #[] #[.pointer (some ⟨B1, 0, none⟩), .pointer (some ⟨B2, 0, none⟩)]))
    (y2 : W.cell? ⟨B4, 2, none⟩ = some (.int .u32 y.val)) (y3 : W.cell? ⟨B4, 3, none⟩ = some (.int .i64 y.size)) :
    Calls Tryz.prog 49 #[s.v, .pointer (some ⟨B3, 0, none⟩), .pointer (some ⟨B4, 0, none⟩)] W fun e w' => e = .returned (.bool (decide (hit sec off s ∧ near s y))) ∧ Below W.heap.size W w' := by
  have q1 := fun o => (World.cell?_alloc_lt W o _ (low_of_cell h1)).trans h1
  have q2 := fun o => (World.cell?_alloc_lt W o _ (low_of_cell h2)).trans h2
  have q3 := fun o => (World.cell?_alloc_lt W o _ (low_of_cell h3)).trans h3
  have q4 := fun o => (World.cell?_alloc_lt W o _ (low_of_cell y2)).trans y2
  have q5 := fun o => (World.cell?_alloc_lt W o _ (low_of_cell y3)).trans y3
  have hc := fun o => closure47 (W := W.alloc o) (B1 := B1) (B2 := B2) s h sec off hs ho (q1 o) (q2 o)
  have z1 : ∀ A, Below W.heap.size W (W.alloc A) := fun A => (Below.refl W.heap.size W).alloc (Nat.le_refl _) A
  obtain ⟨nm, se, va, sz, bi, ki⟩ := s
  obtain ⟨ym, ys, yv, yz, yb, yk⟩ := y
  dsimp only [SymT.v] at *
  by_cases c0 : hit sec off ⟨nm, se, va, sz, bi, ki⟩
  · rw [decide_eq_true c0] at hc
    by_cases c1 : yv < va
    · rw [decide_eq_true (show hit sec off ⟨nm, se, va, sz, bi, ki⟩ ∧ near ⟨nm, se, va, sz, bi, ki⟩ ⟨ym, ys, yv, yz, yb, yk⟩ from ⟨c0, .inl c1⟩)]
      go_enter Tryz.func49, Tryz.ntmps49
      go_wp2_with (first | (go_at_call 47; refine (hc _).mono ?_; rintro e w1 ⟨rfl, hb⟩; have k0 := (hb.cell (p := ⟨W.heap.size, 0, none⟩) (by simp)).trans (new_cell W _ 68 0 _ rfl); have k1 := (hb.cell (p := ⟨W.heap.size, 1, none⟩) (by simp)).trans (new_cell W _ 68 1 _ rfl); have k2 := (hb.cell (p := ⟨W.heap.size, 2, none⟩) (by simp)).trans (new_cell W _ 68 2 _ rfl); have k3 := (hb.cell (p := ⟨W.heap.size, 3, none⟩) (by simp)).trans (new_cell W _ 68 3 _ rfl); have k4 := (hb.cell (low_of_cell (q4 _))).trans (q4 _); have k5 := (hb.cell (low_of_cell (q5 _))).trans (q5 _)))
      all_goals (go_ret; exact ⟨rfl, bel_then (z1 _) (Nat.le_refl _) hb⟩)
    · by_cases c2 : va = yv
      · subst c2
        have c2' : (va == va) = true := by simp
        by_cases c3 : sz < yz
        · rw [decide_eq_true (show hit sec off ⟨nm, se, va, sz, bi, ki⟩ ∧ near ⟨nm, se, va, sz, bi, ki⟩ ⟨ym, ys, va, yz, yb, yk⟩ from ⟨c0, .inr ⟨rfl, c3⟩⟩)]
          go_enter Tryz.func49, Tryz.ntmps49
          go_wp2_with (first | (go_at_call 47; refine (hc _).mono ?_; rintro e w1 ⟨rfl, hb⟩; have k0 := (hb.cell (p := ⟨W.heap.size, 0, none⟩) (by simp)).trans (new_cell W _ 68 0 _ rfl); have k1 := (hb.cell (p := ⟨W.heap.size, 1, none⟩) (by simp)).trans (new_cell W _ 68 1 _ rfl); have k2 := (hb.cell (p := ⟨W.heap.size, 2, none⟩) (by simp)).trans (new_cell W _ 68 2 _ rfl); have k3 := (hb.cell (p := ⟨W.heap.size, 3, none⟩) (by simp)).trans (new_cell W _ 68 3 _ rfl); have k4 := (hb.cell (low_of_cell (q4 _))).trans (q4 _); have k5 := (hb.cell (low_of_cell (q5 _))).trans (q5 _)))
          all_goals (go_ret; exact ⟨rfl, bel_then (z1 _) (Nat.le_refl _) hb⟩)
        · have cd3 : decide (sz < yz) = false := decide_eq_false c3
          have cd1 : decide (va < va) = false := decide_eq_false c1
          rw [decide_eq_false (show ¬ (hit sec off ⟨nm, se, va, sz, bi, ki⟩ ∧ near ⟨nm, se, va, sz, bi, ki⟩ ⟨ym, ys, va, yz, yb, yk⟩) from fun h => by have := h.2; unfold near at this; dsimp only at this; omega)]
          go_enter Tryz.func49, Tryz.ntmps49
          go_wp2_with (first | (go_at_call 47; refine (hc _).mono ?_; rintro e w1 ⟨rfl, hb⟩; have k0 := (hb.cell (p := ⟨W.heap.size, 0, none⟩) (by simp)).trans (new_cell W _ 68 0 _ rfl); have k1 := (hb.cell (p := ⟨W.heap.size, 1, none⟩) (by simp)).trans (new_cell W _ 68 1 _ rfl); have k2 := (hb.cell (p := ⟨W.heap.size, 2, none⟩) (by simp)).trans (new_cell W _ 68 2 _ rfl); have k3 := (hb.cell (p := ⟨W.heap.size, 3, none⟩) (by simp)).trans (new_cell W _ 68 3 _ rfl); have k4 := (hb.cell (low_of_cell (q4 _))).trans (q4 _); have k5 := (hb.cell (low_of_cell (q5 _))).trans (q5 _)))
          all_goals (go_ret; exact ⟨rfl, bel_then (z1 _) (Nat.le_refl _) hb⟩)
      · have c2' : (va == yv) = false := beq_eq_false_iff_ne.2 c2
        have cd1 : decide (yv < va) = false := decide_eq_false c1
        rw [decide_eq_false (show ¬ (hit sec off ⟨nm, se, va, sz, bi, ki⟩ ∧ near ⟨nm, se, va, sz, bi, ki⟩ ⟨ym, ys, yv, yz, yb, yk⟩) from fun h => by have := h.2; unfold near at this; dsimp only at this; omega)]
        go_enter Tryz.func49, Tryz.ntmps49
        go_wp2_with (first | (go_at_call 47; refine (hc _).mono ?_; rintro e w1 ⟨rfl, hb⟩; have k0 := (hb.cell (p := ⟨W.heap.size, 0, none⟩) (by simp)).trans (new_cell W _ 68 0 _ rfl); have k1 := (hb.cell (p := ⟨W.heap.size, 1, none⟩) (by simp)).trans (new_cell W _ 68 1 _ rfl); have k2 := (hb.cell (p := ⟨W.heap.size, 2, none⟩) (by simp)).trans (new_cell W _ 68 2 _ rfl); have k3 := (hb.cell (p := ⟨W.heap.size, 3, none⟩) (by simp)).trans (new_cell W _ 68 3 _ rfl); have k4 := (hb.cell (low_of_cell (q4 _))).trans (q4 _); have k5 := (hb.cell (low_of_cell (q5 _))).trans (q5 _)))
        all_goals (go_ret; exact ⟨rfl, bel_then (z1 _) (Nat.le_refl _) hb⟩)
  · rw [decide_eq_false c0] at hc
    rw [decide_eq_false (show ¬ (hit sec off ⟨nm, se, va, sz, bi, ki⟩ ∧ near ⟨nm, se, va, sz, bi, ki⟩ ⟨ym, ys, yv, yz, yb, yk⟩) from fun h => c0 h.1)]
    clear c0
    go_enter Tryz.func49, Tryz.ntmps49
    go_wp2_with (first | (go_at_call 47; refine (hc _).mono ?_; rintro e w1 ⟨rfl, hb⟩))
    all_goals (go_ret; exact ⟨rfl, bel_then (z1 _) (Nat.le_refl _) hb⟩)
end Go.Ev

/-
  Stage 3: the program's SymbolAt.
-/
namespace Go.Ev
open Go.RowKit Go.Proofs Go.Rw
/-- What the first k symbols have led to. -/
def SbI (l : List SymT) (sec off : Int) (k best : Nat) (fd : Bool) : Prop :=
  (fd = false ∧ best = 0 ∧ ∀ i, i < k → ∀ s, l[i]? = some s → ¬ hit sec off s) ∨
  (fd = true ∧ best < k ∧ ∃ y, l[best]? = some y ∧ hit sec off y ∧ ∀ i, i < k → ∀ s, l[i]? = some s → hit sec off s → ¬ near s y)
theorem sbI_start (l : List SymT) (sec off : Int) : SbI l sec off 0 0 false := .inl ⟨rfl, rfl, fun i h => by omega⟩
theorem sbI_none {l : List SymT} {sec off : Int} (h : ∀ s ∈ l, ¬ hit sec off s) : SbI l sec off l.length 0 false := .inl ⟨rfl, rfl, fun _ _ s hs => h s (List.mem_of_getElem? hs)⟩
theorem sbI_keep {l : List SymT} {sec off : Int} {k best : Nat} {fd : Bool} {x : SymT} (h : SbI l sec off k best fd) (hx : l[k]? = some x) (hn : ¬ hit sec off x) : SbI l sec off (k + 1) best fd := by
  rcases h with ⟨h1, h2, h3⟩ | ⟨h1, h2, y, h3, h4, h5⟩
  · refine .inl ⟨h1, h2, fun i hi s hs => ?_⟩
    by_cases hik : i < k
    · exact h3 i hik s hs
    · obtain rfl : i = k := by omega
      rw [hx] at hs; cases hs; exact hn
  · refine .inr ⟨h1, by omega, y, h3, h4, fun i hi s hs hh => ?_⟩
    by_cases hik : i < k
    · exact h5 i hik s hs hh
    · obtain rfl : i = k := by omega
      rw [hx] at hs; cases hs; exact absurd hh hn
theorem near_irrefl (x : SymT) : ¬ near x x := by unfold near; omega
theorem sbI_first {l : List SymT} {sec off : Int} {k best : Nat} {x : SymT} (h : SbI l sec off k best false) (hx : l[k]? = some x) (hh : hit sec off x) : SbI l sec off (k + 1) k true := by
  rcases h with ⟨_, h2, h3⟩ | ⟨h1, _⟩
  · refine .inr ⟨rfl, by omega, x, hx, hh, fun i hi s hs hs' => ?_⟩
    by_cases hik : i < k
    · exact absurd hs' (h3 i hik s hs)
    · obtain rfl : i = k := by omega
      rw [hx] at hs; cases hs; exact near_irrefl _
  · cases h1
theorem sbI_near {l : List SymT} {sec off : Int} {k best : Nat} {x y : SymT} (h : SbI l sec off k best true) (hx : l[k]? = some x) (hy : l[best]? = some y) (hh : hit sec off x) (hn : near x y) : SbI l sec off (k + 1) k true := by
  rcases h with ⟨h1, _⟩ | ⟨_, h2, y', h3, h4, h5⟩
  · cases h1
  · rw [hy] at h3; cases h3
    refine .inr ⟨rfl, by omega, x, hx, hh, fun i hi s hs hs' => ?_⟩
    by_cases hik : i < k
    · have := h5 i hik s hs hs'
      unfold near at *
      omega
    · obtain rfl : i = k := by omega
      rw [hx] at hs; cases hs; exact near_irrefl _
theorem sbI_far {l : List SymT} {sec off : Int} {k best : Nat} {x y : SymT} (h : SbI l sec off k best true) (hx : l[k]? = some x) (hy : l[best]? = some y) (hn : ¬ near x y) : SbI l sec off (k + 1) best true := by
  rcases h with ⟨h1, _⟩ | ⟨_, h2, y', h3, h4, h5⟩
  · cases h1
  · rw [hy] at h3; cases h3
    refine .inr ⟨rfl, by omega, y, hy, h4, fun i hi s hs hs' => ?_⟩
    by_cases hik : i < k
    · exact h5 i hik s hs hs'
    · obtain rfl : i = k := by omega
      rw [hx] at hs; cases hs; exact hn
def SaR (l : List SymT) (sec off : Int) (w : World) (e : Ending) (w' : World) : Prop := ∃ (best : Nat) (fd : Bool), e = .returned (.tuple #[.int .i64 best, .bool fd]) ∧ Below w.heap.size w w' ∧ SbI l sec off l.length best fd
theorem isIndex_no {w : World} (i : Int) (a : Option Addr) (n c : Nat) (h : i < 0 ∨ (n : Int) ≤ i) : Calls Tryz.prog 107 #[.int .i64 i, .slice a n c] w fun e w' => e = .returned (.bool false) ∧ w' = w := by
  go_enter Tryz.func107, Tryz.ntmps107
  by_cases h0 : i < 0
  · go_wp2
    go_ret
    exact ⟨rfl, rfl⟩
  · have h1 : (n : Int) ≤ i := by omega
    have hd : decide (i < (n : Int)) = false := decide_eq_false (by omega)
    go_wp2
    go_ret
    exact ⟨rfl, rfl⟩
set_option maxRecDepth 100000 in
set_option maxHeartbeats 4000000 in
theorem symbolAt_c {w : World} {v : Value} {o : ObjT} (h : ObjAt w v o) (hR : o.R) (hK : o.Ok) {sec off : Int} (hs : inI64 sec) (ho : inI64 off) : Calls Tryz.prog 35 #[v, .int .i64 sec, .int .i64 off] w (SaR o.syms sec off w) := by
  obtain ⟨s1, s2, s3, s4, s5, rfl, k1, k2, k3, k4, k5⟩ := id h
  obtain ⟨a1, c1, rfl⟩ := rows_slice k1
  obtain ⟨a2, c2, rfl⟩ := rows_slice k2
  obtain ⟨hR1, hR2, -, -, -, hn1, hn2, -, -, -⟩ := id hR
  have z1 : ∀ A, Below w.heap.size w (w.alloc A) := fun A => (Below.refl w.heap.size w).alloc (Nat.le_refl _) A
  obtain ⟨A, hA⟩ : ∃ A : Obj, A = .cells #[.slice a1 o.secs.length c1, .slice a2 o.syms.length c2, s3, s4, s5] 28 := ⟨_, rfl⟩
  have bx : ∀ wr, Below (w.alloc A).heap.size (w.alloc A) wr → wr.cell? ⟨w.heap.size, 0, none⟩ = some (.slice a1 o.secs.length c1) ∧ wr.cell? ⟨w.heap.size, 1, none⟩ = some (.slice a2 o.syms.length c2) := fun wr hb => by
    subst hA
    exact ⟨(hb.cell (p := ⟨w.heap.size, 0, none⟩) (by simp)).trans (new_cell w _ 28 0 _ rfl), (hb.cell (p := ⟨w.heap.size, 1, none⟩) (by simp)).trans (new_cell w _ 28 1 _ rfl)⟩
  by_cases hin : 0 ≤ sec ∧ sec < (o.secs.length : Int)
  · obtain ⟨hin0, hin1⟩ := hin
    go_enter Tryz.func35, Tryz.ntmps35
    go_wp2_with fail
    refine (isIndex_c _ _ _ _ hin0 hin1).mono ?_
    rintro e w1 ⟨rfl, rfl⟩
    rw [← hA]
    obtain ⟨b0, b1⟩ := bx _ (Below.refl _ _)
    go_wp2_with fail
    go_loopw [20, 8, 9] (fun i b f wr => ∃ (k best : Nat) (fd : Bool), k ≤ o.syms.length ∧ i = .int .i64 k ∧ b = .int .i64 best ∧ f = .bool fd ∧ Below (w.alloc A).heap.size (w.alloc A) wr ∧ SbI o.syms sec off k best fd) (fun i _ _ _ => o.syms.length - (intOf i).toNat)
    case atStart => exact ⟨0, 0, false, by omega, rfl, rfl, rfl, by subst hA; exact Below.refl _ _, sbI_start _ _ _⟩
    case round =>
      obtain ⟨k, best, fd, hk, rfl, rfl, rfl, hbl, hI⟩ := hrel
      clear b0 b1
      have hI := Lib.hid hI
      have hbw := bel_then (z1 A) (Nat.le_refl _) hbl
      obtain ⟨b0, b1⟩ := bx _ hbl
      by_cases hlt : k < o.syms.length
      · obtain ⟨b, of, rfl⟩ := rows_some2 k2 hlt
        obtain ⟨x, hx⟩ : ∃ x, o.syms[k]? = some x := ⟨o.syms[k], by simp [hlt]⟩
        have hxR := hR2 _ (List.mem_of_getElem? hx)
        have hb1 := hbl
        obtain ⟨g0, g1, g2, g3, g4, g5⟩ := rows_sym (k2.below hbw) hx
        have hlt' : (k : Int) < (o.syms.length : Int) := by omega
        have hx := Lib.hid hx
        have hB := hbw.size
        have hB4 : (w.alloc A).heap.size ≤ wr.heap.size := hbl.size
        have e1 := fun o => (World.cell?_alloc_lt wr o _ (low_of_cell b1)).trans b1
        have hcov := fun w => covers_c (w := w) x hxR off ho
        obtain ⟨xn, xs, xv, xz, xb, xk⟩ := x
        dsimp only [SymT.v] at g0 g1 g2 g3 g4 g5 hcov
        obtain ⟨X, hX⟩ : ∃ X : Array Value, X = #[.string xn, .int .i64 xs, .int .u32 xv, .int .i64 xz, .int .i64 xb, .int .i64 xk] := ⟨_, rfl⟩
        have x0 := fun d os => cell_regrown (new_cell wr #[.string xn, .int .i64 xs, .int .u32 xv, .int .i64 xz, .int .i64 xb, .int .i64 xk] 68 0 _ rfl) d os
        have x1 := fun d os => cell_regrown (new_cell wr #[.string xn, .int .i64 xs, .int .u32 xv, .int .i64 xz, .int .i64 xb, .int .i64 xk] 68 1 _ rfl) d os
        have x2 := fun d os => cell_regrown (new_cell wr #[.string xn, .int .i64 xs, .int .u32 xv, .int .i64 xz, .int .i64 xb, .int .i64 xk] 68 2 _ rfl) d os
        have x3 := fun d os => cell_regrown (new_cell wr #[.string xn, .int .i64 xs, .int .u32 xv, .int .i64 xz, .int .i64 xb, .int .i64 xk] 68 3 _ rfl) d os
        have x4 := fun d os => cell_regrown (new_cell wr #[.string xn, .int .i64 xs, .int .u32 xv, .int .i64 xz, .int .i64 xb, .int .i64 xk] 68 4 _ rfl) d os
        have x5 := fun d os => cell_regrown (new_cell wr #[.string xn, .int .i64 xs, .int .u32 xv, .int .i64 xz, .int .i64 xb, .int .i64 xk] 68 5 _ rfl) d os
        have y1 := fun d os => cell_regrown (e1 (.cells #[.string xn, .int .i64 xs, .int .u32 xv, .int .i64 xz, .int .i64 xb, .int .i64 xk] 68)) d os
        clear e1
        by_cases hs1 : xs = sec
        · subst hs1
          by_cases hc : covS off ⟨xn, xs, xv, xz, xb, xk⟩
          · rw [decide_eq_true hc] at hcov
            cases fd
            · go_wp2_with fail
              refine wp_region_quiet_below (by kernel_rfl) (by kernel_rfl) ?_
              repeat (go_big_quiet_step (exact Calls.regrown_of (hcov _)))
              refine wpQuiet_nil ?_
              intro _ hw'
              obtain ⟨⟨dq, osq⟩, hw''⟩ := hw'
              subst hw''
              have hb2 := below_regrown (wr.alloc (.cells #[.string xn, .int .i64 xs, .int .u32 xv, .int .i64 xz, .int .i64 xb, .int .i64 xk] 68)) dq osq
              go_wp2
              all_goals (go_roundw; (case rel => exact ⟨k + 1, k, true, by omega, by go_num, rfl, rfl, bel_then (hbl.alloc hB4 _) (Nat.le_refl _) hb2, sbI_first hI.out hx.out ⟨hin0, rfl, hc⟩⟩); (case measure => simp [intOf]; omega))
            · obtain ⟨y, hbk, hy⟩ : ∃ y, best < k ∧ o.syms[best]? = some y := by
                rcases hI.out with ⟨h, _⟩ | ⟨_, hbk, y, hy, _⟩
                · cases h
                · exact ⟨y, hbk, hy⟩
              have hbk' : (best : Int) < (o.syms.length : Int) := by omega
              have hyR := hR2 _ (List.mem_of_getElem? hy)
              have hnear := fun w => nearer_c (w := w) ⟨xn, xs, xv, xz, xb, xk⟩ y hxR hyR
              have p0 := fun A => (rows_sym (k2.below (hbw.alloc hB A)) hy).1
              have p1 := fun A => (rows_sym (k2.below (hbw.alloc hB A)) hy).2.1
              have p2 := fun A => (rows_sym (k2.below (hbw.alloc hB A)) hy).2.2.1
              have p3 := fun A => (rows_sym (k2.below (hbw.alloc hB A)) hy).2.2.2.1
              have p4 := fun A => (rows_sym (k2.below (hbw.alloc hB A)) hy).2.2.2.2.1
              have p5 := fun A => (rows_sym (k2.below (hbw.alloc hB A)) hy).2.2.2.2.2
              have u0 := fun d os => cell_regrown (p0 (.cells #[.string xn, .int .i64 xs, .int .u32 xv, .int .i64 xz, .int .i64 xb, .int .i64 xk] 68)) d os
              have u1 := fun d os => cell_regrown (p1 (.cells #[.string xn, .int .i64 xs, .int .u32 xv, .int .i64 xz, .int .i64 xb, .int .i64 xk] 68)) d os
              have u2 := fun d os => cell_regrown (p2 (.cells #[.string xn, .int .i64 xs, .int .u32 xv, .int .i64 xz, .int .i64 xb, .int .i64 xk] 68)) d os
              have u3 := fun d os => cell_regrown (p3 (.cells #[.string xn, .int .i64 xs, .int .u32 xv, .int .i64 xz, .int .i64 xb, .int .i64 xk] 68)) d os
              have u4 := fun d os => cell_regrown (p4 (.cells #[.string xn, .int .i64 xs, .int .u32 xv, .int .i64 xz, .int .i64 xb, .int .i64 xk] 68)) d os
              have u5 := fun d os => cell_regrown (p5 (.cells #[.string xn, .int .i64 xs, .int .u32 xv, .int .i64 xz, .int .i64 xb, .int .i64 xk] 68)) d os
              clear p0 p1 p2 p3 p4 p5
              have hy := Lib.hid hy
              by_cases hn : near ⟨xn, xs, xv, xz, xb, xk⟩ y
              · rw [decide_eq_true hn] at hnear
                have hn := Lib.hid hn
                obtain ⟨yn, ys, yv, yz, yb, yk⟩ := y
                dsimp only [SymT.v] at hnear u0 u1 u2 u3 u4 u5
                go_wp2_with fail
                refine wp_region_quiet_below (by kernel_rfl) (by kernel_rfl) ?_
                repeat (go_big_quiet_step (first | exact Calls.regrown_of (hcov _) | exact Calls.regrown_of (hnear _)))
                refine wpQuiet_nil ?_
                intro _ hw'
                obtain ⟨⟨dq, osq⟩, hw''⟩ := hw'
                subst hw''
                have hb2 := below_regrown (wr.alloc (.cells #[.string xn, .int .i64 xs, .int .u32 xv, .int .i64 xz, .int .i64 xb, .int .i64 xk] 68)) dq osq
                go_wp2
                all_goals (go_roundw; (case rel => exact ⟨k + 1, k, true, by omega, by go_num, rfl, rfl, bel_then (hbl.alloc hB4 _) (Nat.le_refl _) hb2, sbI_near hI.out hx.out hy.out ⟨hin0, rfl, hc⟩ hn.out⟩); (case measure => simp [intOf]; omega))
              · rw [decide_eq_false hn] at hnear
                have hn := Lib.hid hn
                obtain ⟨yn, ys, yv, yz, yb, yk⟩ := y
                dsimp only [SymT.v] at hnear u0 u1 u2 u3 u4 u5
                go_wp2_with fail
                refine wp_region_quiet_below (by kernel_rfl) (by kernel_rfl) ?_
                repeat (go_big_quiet_step (first | exact Calls.regrown_of (hcov _) | exact Calls.regrown_of (hnear _)))
                refine wpQuiet_nil ?_
                intro _ hw'
                obtain ⟨⟨dq, osq⟩, hw''⟩ := hw'
                subst hw''
                have hb2 := below_regrown (wr.alloc (.cells #[.string xn, .int .i64 xs, .int .u32 xv, .int .i64 xz, .int .i64 xb, .int .i64 xk] 68)) dq osq
                go_wp2
                all_goals (go_roundw; (case rel => exact ⟨k + 1, best, true, by omega, by go_num, rfl, rfl, bel_then (hbl.alloc hB4 _) (Nat.le_refl _) hb2, sbI_far hI.out hx.out hy.out hn.out⟩); (case measure => simp [intOf]; omega))
          · rw [decide_eq_false hc] at hcov
            go_wp2_with fail
            refine wp_region_quiet_below (by kernel_rfl) (by kernel_rfl) ?_
            repeat (go_big_quiet_step (exact Calls.regrown_of (hcov _)))
            refine wpQuiet_nil ?_
            intro _ hw'
            obtain ⟨⟨dq, osq⟩, hw''⟩ := hw'
            subst hw''
            have hb2 := below_regrown (wr.alloc (.cells #[.string xn, .int .i64 xs, .int .u32 xv, .int .i64 xz, .int .i64 xb, .int .i64 xk] 68)) dq osq
            go_wp2
            all_goals (go_roundw; (case rel => exact ⟨k + 1, best, fd, by omega, by go_num, rfl, rfl, bel_then (hbl.alloc hB4 _) (Nat.le_refl _) hb2, sbI_keep hI.out hx.out (fun h => hc h.2.2)⟩); (case measure => simp [intOf]; omega))
        · have hs1' : (xs == sec) = false := beq_eq_false_iff_ne.2 hs1
          go_wp2_with fail
          refine wp_region_quiet_below (by kernel_rfl) (by kernel_rfl) ?_
          repeat (go_big_quiet_step (exact Calls.regrown_of (hcov _)))
          refine wpQuiet_nil ?_
          intro _ hw'
          obtain ⟨⟨dq, osq⟩, hw''⟩ := hw'
          subst hw''
          have hb2 := below_regrown (wr.alloc (.cells #[.string xn, .int .i64 xs, .int .u32 xv, .int .i64 xz, .int .i64 xb, .int .i64 xk] 68)) dq osq
          go_wp2
          all_goals (go_roundw; (case rel => exact ⟨k + 1, best, fd, by omega, by go_num, rfl, rfl, bel_then (hbl.alloc hB4 _) (Nat.le_refl _) hb2, sbI_keep hI.out hx.out (fun h => hs1 h.2.1)⟩); (case measure => simp [intOf]; omega))
      · have : k = o.syms.length := by omega
        subst this
        go_wp2
        go_ret2
        exact ⟨_, _, rfl, hbw, hI.out⟩
  · have hno := sbI_none (sec := sec) (off := off) (l := o.syms) fun s hs' hh => hin ⟨hh.1, by have := hK.sym s hs'; have := hh.2.1; omega⟩
    go_enter Tryz.func35, Tryz.ntmps35
    go_wp2_with fail
    refine (isIndex_no _ _ _ _ (by omega)).mono ?_
    rintro e w1 ⟨rfl, rfl⟩
    go_wp2
    go_ret2
    exact ⟨_, _, rfl, z1 _, hno⟩
end Go.Ev

