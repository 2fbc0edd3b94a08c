import Derived.Test.YtepopmplcjhfbaaGreatObGca
import Derived.Lib.Hide
import Derived.Deep.WholeRow
import Derived.Laws.Rows
import Derived.Test.YtepopmplcjhfbaaGreatObGcd
set_option linter.unusedSectionVars false
set_option linter.unusedVariables false
set_option linter.unusedSimpArgs false
set_option linter.unnecessarySimpa false
/-
  Stage 3: a line that lies in a block of its own.
-/
namespace Go.Ev
open Go.RowKit Go.Proofs Go.Rw
def LineT.v (x : LineT) : Value := .agg #[.int .i64 x.sec, .int .i64 x.off, .int .i64 x.file, .int .i64 x.line]
/-- The line that lies in block B. -/
def LineB (W : World) (B : Nat) (x : LineT) : Prop := W.heap[B]? = some (.cells #[.int .i64 x.sec, .int .i64 x.off, .int .i64 x.file, .int .i64 x.line] 48 (0, 0))
theorem LineB.cells {W : World} {B : Nat} {x : LineT} (h : LineB W B x) : W.cell? ⟨B, 0, none⟩ = some (.int .i64 x.sec) ∧ W.cell? ⟨B, 1, none⟩ = some (.int .i64 x.off) ∧ W.cell? ⟨B, 2, none⟩ = some (.int .i64 x.file) ∧ W.cell? ⟨B, 3, none⟩ = some (.int .i64 x.line) := by
  unfold LineB at h
  refine ⟨?_, ?_, ?_, ?_⟩ <;> simp [World.cell?, h]
theorem LineB.below {W W' : World} {B : Nat} {x : LineT} (h : LineB W B x) (hb : Below W.heap.size W W') : LineB W' B x := (hb.block B (Array.getElem?_eq_some_iff.1 h).1).trans h
theorem lineB_new (W : World) (x : LineT) : LineB (W.alloc (.cells #[.int .i64 x.sec, .int .i64 x.off, .int .i64 x.file, .int .i64 x.line] 48)) W.heap.size x := by
  unfold LineB
  exact heap_alloc_new W _
theorem LineB.frozen {W : World} {B : Nat} {x : LineT} (h : LineB W B x) (i : Nat) : W.frozen? ⟨B, i, none⟩ = false := by
  unfold LineB at h
  simp [World.frozen?, h]
theorem lineB_set {W : World} {B : Nat} {x : LineT} (h : LineB W B x) (y : LineT) : LineB ((((W.setCell ⟨B, 0, none⟩ (.int .i64 y.sec)).setCell ⟨B, 1, none⟩ (.int .i64 y.off)).setCell ⟨B, 2, none⟩ (.int .i64 y.file)).setCell ⟨B, 3, none⟩ (.int .i64 y.line)) B y := by
  unfold LineB at *
  exact heap_setCell_same _ _ 3 _ _ _ (heap_setCell_same _ _ 2 _ _ _ (heap_setCell_same _ _ 1 _ _ _ (heap_setCell_same _ _ 0 _ _ _ h)))
theorem lineB_other {W : World} {B : Nat} {x : LineT} (h : LineB W B x) {C : Nat} (hne : B ≠ C) (a b c d : Value) : LineB ((((W.setCell ⟨C, 0, none⟩ a).setCell ⟨C, 1, none⟩ b).setCell ⟨C, 2, none⟩ c).setCell ⟨C, 3, none⟩ d) B x := by
  unfold LineB at *
  rw [heap_setCell_other _ _ _ _ hne, heap_setCell_other _ _ _ _ hne, heap_setCell_other _ _ _ _ hne, heap_setCell_other _ _ _ _ hne]
  exact h
theorem LineB.alloc {W : World} {B : Nat} {x : LineT} (h : LineB W B x) (o : Obj) : LineB (W.alloc o) B x := h.below ((Below.refl _ _).alloc (Nat.le_refl _) o)
theorem below_set4 {N : Nat} {w W : World} (h : Below N w W) {C : Nat} (hC : N ≤ C) (a b c d : Value) : Below N w ((((W.setCell ⟨C, 0, none⟩ a).setCell ⟨C, 1, none⟩ b).setCell ⟨C, 2, none⟩ c).setCell ⟨C, 3, none⟩ d) :=
  (((h.setCell (p := ⟨C, 0, none⟩) hC _).setCell (p := ⟨C, 1, none⟩) hC _).setCell (p := ⟨C, 2, none⟩) hC _).setCell (p := ⟨C, 3, none⟩) hC _
end Go.Ev

/-
  Stage 3: an entry, by the program's writer.
-/
namespace Go.Ev
open Go.RowKit Go.Proofs Go.Rw
theorem number_i {w : World} {base g : Nat} {ob : Option Nat} {xs : List Value} {z : Int} (h : WrS w base g ob xs) (hbase : base ≤ w.heap.size) (hn : xs.length ≤ 5000000) (h0 : 0 ≤ z) (h1 : z ≤ 4611686018427387904) :
    Calls Tryz.prog 170 #[.pointer (some ⟨g, 0, none⟩), .int .i64 z] w (WrR base g ob (xs ++ byL (numL z.toNat)) w) := by
  obtain ⟨n, rfl⟩ := Int.eq_ofNat_of_zero_le h0
  rw [Int.toNat_natCast]
  exact number_c h hbase hn (by omega)
/-- Signed numbers as such without a sign. -/
def zig (z : Int) : Nat := if z < 0 then (-2 * z - 1).toNat else (2 * z).toNat
theorem signed_c {w : World} {base g : Nat} {ob : Option Nat} {xs : List Value} {z : Int} (h : WrS w base g ob xs) (hbase : base ≤ w.heap.size) (hn : xs.length ≤ 5000000) (h0 : -1000000000 ≤ z) (h1 : z ≤ 1000000000) :
    Calls Tryz.prog 171 #[.pointer (some ⟨g, 0, none⟩), .int .i64 z] w (WrR base g ob (xs ++ byL (numL (zig z))) w) := by
  have h := Lib.hid h
  by_cases c : z < 0
  · rw [show zig z = (-2 * z - 1).toNat from if_pos c]
    have e1 : wrap64 (-2 * z) = -2 * z := by unfold wrap64; omega
    have e2 : wrap64 (-2 * z - 1) = -2 * z - 1 := by unfold wrap64; omega
    go_enter Tryz.func171, Tryz.ntmps171
    go_wp2_with (go_at_call 170; refine (number_i h.out hbase hn (by omega) (by omega)).mono ?_; rintro e w1 ⟨rfl, hr⟩)
    refine bodyPost_ret (results_none rfl _ _ _) rfl ?_
    exact ⟨rfl, hr⟩
  · rw [show zig z = (2 * z).toNat from if_neg c]
    have e1 : wrap64 (2 * z) = 2 * z := by unfold wrap64; omega
    go_enter Tryz.func171, Tryz.ntmps171
    go_wp2_with (go_at_call 170; refine (number_i h.out hbase hn (by omega) (by omega)).mono ?_; rintro e w1 ⟨rfl, hr⟩)
    refine bodyPost_ret (results_none rfl _ _ _) rfl ?_
    exact ⟨rfl, hr⟩
def offB (d : Int) : Int := if 44 < d then d - 44 else d % 4
def lineB (e : Int) : Int := if 11 < e then e - 11 else if e < -4 then e + 4 else 0
theorem offB_c {w : World} {d : Int} (h0 : 0 ≤ d) (h1 : d ≤ 1000000000) : Calls Tryz.prog 189 #[.int .i64 d] w fun e w' => e = .returned (.int .i64 (offB d)) ∧ w' = w := by
  by_cases c : 44 < d
  · rw [show offB d = d - 44 from if_pos c]
    have e1 : wrap64 (d - 44) = d - 44 := by unfold wrap64; omega
    go_enter Tryz.func189, Tryz.ntmps189
    go_wp2
    go_ret
    exact ⟨rfl, rfl⟩
  · rw [show offB d = d % 4 from if_neg c]
    have e1 : d.tmod 4 = d % 4 := Int.tmod_eq_emod_of_nonneg h0
    have e2 : wrap64 (d % 4) = d % 4 := by unfold wrap64; omega
    go_enter Tryz.func189, Tryz.ntmps189
    go_wp2
    go_ret
    exact ⟨rfl, rfl⟩
theorem lineB_c {w : World} {d : Int} (h0 : -1000000000 ≤ d) (h1 : d ≤ 1000000000) : Calls Tryz.prog 190 #[.int .i64 d] w fun e w' => e = .returned (.int .i64 (lineB d)) ∧ w' = w := by
  by_cases c : 11 < d
  · rw [show lineB d = d - 11 from if_pos c]
    have e1 : wrap64 (d - 11) = d - 11 := by unfold wrap64; omega
    go_enter Tryz.func190, Tryz.ntmps190
    go_wp2
    go_ret
    exact ⟨rfl, rfl⟩
  · by_cases c2 : d < -4
    · rw [show lineB d = d + 4 from (if_neg c).trans (if_pos c2)]
      have e1 : wrap64 (d - -4) = d + 4 := by unfold wrap64; omega
      have e2 : wrap64 (d + 4) = d + 4 := by unfold wrap64; omega
      go_enter Tryz.func190, Tryz.ntmps190
      go_wp2
      go_ret
      exact ⟨rfl, rfl⟩
    · rw [show lineB d = 0 from (if_neg c).trans (if_neg c2)]
      have c3 : -4 ≤ d := by omega
      go_enter Tryz.func190, Tryz.ntmps190
      go_wp2
      go_ret
      exact ⟨rfl, rfl⟩
/-- The boxes of an entry's two lines. -/
structure EnvE (cur : World) (g : Nat) (ob : Option Nat) (B : Nat) (now next : LineT) : Prop where
  now : LineB cur B now
  next : LineB cur (B + 1) next
  o1 : ob ≠ some B
  o2 : ob ≠ some (B + 1)
  g1 : B ≠ g
  g2 : B + 1 ≠ g
theorem LineB.low {W : World} {B : Nat} {x : LineT} (h : LineB W B x) : B < W.heap.size := (Array.getElem?_eq_some_iff.1 h).1
theorem EnvE.step {cur cur' : World} {g : Nat} {ob ob' : Option Nat} {B : Nat} {now next : LineT} (h : EnvE cur g ob B now next) (hs : Wst cur cur' g ob ob') : EnvE cur' g ob' B now next := by
  refine ⟨(hs.block B h.now.low h.g1 h.o1).trans h.now, (hs.block (B + 1) h.next.low h.g2 h.o2).trans h.next, ?_, ?_, h.g1, h.g2⟩
  · rcases hs.fresh with e | ⟨k, e, hk⟩
    · rw [e]; exact h.o1
    · rw [e]; intro e'; cases e'; have := h.now.low; omega
  · rcases hs.fresh with e | ⟨k, e, hk⟩
    · rw [e]; exact h.o2
    · rw [e]; intro e'; cases e'; have := h.next.low; omega
theorem EnvE.alloc {cur : World} {g : Nat} {ob : Option Nat} {B : Nat} {now next : LineT} (h : EnvE cur g ob B now next) (A : Obj) : EnvE (cur.alloc A) g ob B now next :=
  ⟨h.now.alloc A, h.next.alloc A, h.o1, h.o2, h.g1, h.g2⟩
theorem EnvE.zero {cur : World} {g : Nat} {ob : Option Nat} {B : Nat} {now next : LineT} (h : EnvE cur g ob B now next) : EnvE (cur.setCell ⟨B, 1, none⟩ (.int .i64 0)) g ob B ⟨now.sec, 0, now.file, now.line⟩ next :=
  ⟨heap_setCell_same _ _ 1 _ _ _ h.now, (heap_setCell_other _ _ _ _ (by simp)).trans h.next, h.o1, h.o2, h.g1, h.g2⟩
end Go.Ev

