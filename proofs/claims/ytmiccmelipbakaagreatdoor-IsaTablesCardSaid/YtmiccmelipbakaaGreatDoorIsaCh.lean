import Derived.Test.YtmiccmelipbakaaGreatDoorEvZc
import Derived.Test.YtmiccmelipbakaaGreatDoorSaneGl
import Derived.Test.YtmiccmelipbakaaGreatDoorIsaOpen
set_option linter.unusedSectionVars false
set_option linter.unusedVariables false
set_option linter.unusedSimpArgs false
/-
  The contract of isa.Check, at every instruction: by runs of the evaluator upon unknown numbers.
-/
namespace Go.Ev
open Go.RowKit Go.Proofs

/-! ### Unknowns out of a list -/
def nthI : List Int → Nat → Int
  | [], _ => 0
  | x :: l, n => match n with | 0 => x | n + 1 => nthI l n
def e1 : Nat → Int → List Int
  | 0, c => [c]
  | n + 1, c => .ofNat 0 :: e1 n c
theorem val_e1 (s : Nat → Int) (c : Int) : ∀ (n i : Nat), Lin.val s (e1 n c) i = c * s (i + n)
  | 0, i => by simp [e1, Lin.val]
  | n + 1, i => by
    simp only [e1, Lin.val]
    rw [val_e1 s c n (i + 1)]
    have : i + 1 + n = i + (n + 1) := by omega
    rw [this]; simp
theorem val_u (l : List Int) (c : Int) (n : Nat) : Lin.val (nthI l) (e1 n c) 0 = c * nthI l n := by
  rw [val_e1, Nat.zero_add]
/-- Bounds that hold. -/
def Ins : List Int → List (Int × Int) → Prop
  | _, [] => True
  | [], b :: bs => (b.1 ≤ 0 ∧ 0 ≤ b.2) ∧ Ins [] bs
  | x :: l, b :: bs => (b.1 ≤ x ∧ x ≤ b.2) ∧ Ins l bs
theorem within_nil (s : Nat → Int) : ∀ (bs : List (Int × Int)) (i : Nat), (∀ n, i ≤ n → s n = 0) → Ins [] bs → Lin.Within s bs i
  | [], _, _, _ => trivial
  | b :: bs, i, h, hi => by
    refine ⟨?_, within_nil s bs (i + 1) (fun n hn => h n (by omega)) hi.2⟩
    rw [h i (Nat.le_refl _)]; exact hi.1
theorem within_at (s : Nat → Int) : ∀ (l : List Int) (bs : List (Int × Int)) (i : Nat), (∀ n, s (i + n) = nthI l n) → Ins l bs → Lin.Within s bs i
  | _, [], _, _, _ => trivial
  | [], b :: bs, i, h, hi => within_nil s (b :: bs) i (fun n hn => by have := h (n - i); rw [show i + (n - i) = n by omega] at this; rw [this]; rfl) hi
  | x :: l, b :: bs, i, h, hi => by
    refine ⟨?_, within_at s l bs (i + 1) (fun n => ?_) hi.2⟩
    · have := h 0
      rw [show i + 0 = i by omega] at this
      rw [this]; exact hi.1
    · have := h (n + 1)
      rw [show i + (n + 1) = i + 1 + n by omega] at this
      rw [this]; rfl
theorem within_unkL {l : List Int} {bs : List (Int × Int)} (h : Ins l bs) : Lin.Within (nthI l) bs 0 :=
  within_at _ l bs 0 (fun n => by rw [Nat.zero_add]) h

/-! ### The globals, whatever the unknowns -/
def GlobU (m : Int) (w : World) : Prop := ∀ U : Unk, @Globals U (G1 m) w
theorem G1_int {m : Int} {g off : Nat} {a : AV} (h : G1 m g off = some a) : g < 1000000 ∧ ∃ k n, a = .int k n := by
  unfold G1 at h
  split at h
  · rename_i hg
    have hg := beqF hg
    split at h
    · cases h; exact ⟨by omega, _, _, rfl⟩
    · cases h
  · split at h
    · rename_i hg
      have hg := beqF hg
      split at h
      · cases h; exact ⟨by omega, _, _, rfl⟩
      · cases h
    · cases h
theorem globU_of [U : Unk] {m : Int} {w : World} (h : Globals (G1 m) w) : GlobU m w := by
  intro U' g off a e
  obtain ⟨h1, v, h2, h3⟩ := h g off a e
  obtain ⟨hg, k, n, rfl⟩ := G1_int e
  cases h3
  rw [@gp_low U _ _ hg] at h1 h2
  rw [@gp_low U' _ _ hg]
  exact ⟨h1, _, h2, .int _ _⟩

/-! ### rangesOf: a table -/
def rtab : List (List (Int × Int)) := [
  [(.ofNat 0, .ofNat 15), (.ofNat 0, .ofNat 15), (.ofNat 0, .ofNat 15), (.ofNat 0, .ofNat 0), (.ofNat 0, .ofNat 0), (.ofNat 0, .ofNat 0)],
  [(.ofNat 0, .ofNat 0), (.ofNat 0, .ofNat 0), (.ofNat 0, .ofNat 0), (.ofNat 0, .ofNat 0), (.ofNat 0, .ofNat 0), (.ofNat 0, .ofNat 0)],
  [(.ofNat 0, .ofNat 15), (.ofNat 0, .ofNat 15), (.ofNat 0, .ofNat 0), (.ofNat 0, .ofNat 0), (.ofNat 0, .ofNat 0), (.ofNat 0, .ofNat 0)],
  [(.ofNat 0, .ofNat 15), (.ofNat 0, .ofNat 15), (.ofNat 0, .ofNat 15), (.ofNat 0, .ofNat 0), (.ofNat 0, .ofNat 0), (.ofNat 0, .ofNat 0)],
  [(.ofNat 0, .ofNat 15), (.ofNat 0, .ofNat 15), (.ofNat 0, .ofNat 15), (.ofNat 0, .ofNat 0), (.ofNat 0, .ofNat 0), (.ofNat 0, .ofNat 0)],
  [(.ofNat 0, .ofNat 15), (.ofNat 0, .ofNat 15), (.ofNat 0, .ofNat 15), (.ofNat 0, .ofNat 0), (.ofNat 0, .ofNat 0), (.ofNat 0, .ofNat 0)],
  [(.ofNat 0, .ofNat 15), (.ofNat 0, .ofNat 15), (.ofNat 0, .ofNat 15), (.ofNat 0, .ofNat 0), (.ofNat 0, .ofNat 0), (.ofNat 0, .ofNat 0)],
  [(.ofNat 0, .ofNat 15), (.ofNat 0, .ofNat 15), (.ofNat 0, .ofNat 15), (.ofNat 0, .ofNat 0), (.ofNat 0, .ofNat 0), (.ofNat 0, .ofNat 0)],
  [(.ofNat 0, .ofNat 15), (.ofNat 0, .ofNat 15), (.ofNat 0, .ofNat 15), (.ofNat 0, .ofNat 0), (.ofNat 0, .ofNat 0), (.ofNat 0, .ofNat 0)],
  [(.ofNat 0, .ofNat 15), (.ofNat 0, .ofNat 15), (.ofNat 0, .ofNat 15), (.ofNat 0, .ofNat 0), (.ofNat 0, .ofNat 0), (.ofNat 0, .ofNat 0)],
  [(.ofNat 0, .ofNat 15), (.ofNat 0, .ofNat 15), (.ofNat 0, .ofNat 15), (.ofNat 0, .ofNat 0), (.ofNat 0, .ofNat 0), (.ofNat 0, .ofNat 0)],
  [(.ofNat 0, .ofNat 15), (.ofNat 0, .ofNat 15), (.ofNat 0, .ofNat 15), (.ofNat 0, .ofNat 0), (.ofNat 0, .ofNat 0), (.ofNat 0, .ofNat 0)],
  [(.ofNat 0, .ofNat 15), (.ofNat 0, .ofNat 15), (.ofNat 0, .ofNat 15), (.ofNat 0, .ofNat 0), (.ofNat 0, .ofNat 0), (.ofNat 0, .ofNat 0)],
  [(.ofNat 0, .ofNat 15), (.ofNat 0, .ofNat 15), (.ofNat 0, .ofNat 15), (.ofNat 0, .ofNat 0), (.ofNat 0, .ofNat 0), (.ofNat 0, .ofNat 0)],
  [(.ofNat 0, .ofNat 15), (.ofNat 0, .ofNat 15), (.ofNat 0, .ofNat 15), (.ofNat 0, .ofNat 0), (.ofNat 0, .ofNat 0), (.ofNat 0, .ofNat 0)],
  [(.ofNat 0, .ofNat 15), (.ofNat 0, .ofNat 15), (.ofNat 0, .ofNat 15), (.ofNat 0, .ofNat 0), (.ofNat 0, .ofNat 0), (.ofNat 0, .ofNat 0)],
  [(.ofNat 0, .ofNat 15), (.ofNat 0, .ofNat 15), (.ofNat 0, .ofNat 15), (.ofNat 0, .ofNat 0), (.ofNat 0, .ofNat 0), (.ofNat 0, .ofNat 0)],
  [(.ofNat 0, .ofNat 15), (.ofNat 0, .ofNat 15), (.ofNat 0, .ofNat 15), (.ofNat 0, .ofNat 0), (.ofNat 0, .ofNat 0), (.ofNat 0, .ofNat 0)],
  [(.ofNat 0, .ofNat 15), (.ofNat 0, .ofNat 15), (.ofNat 0, .ofNat 0), (.ofNat 0, .ofNat 0), (.negSucc 127, .ofNat 127), (.ofNat 0, .ofNat 0)],
  [(.ofNat 0, .ofNat 15), (.ofNat 0, .ofNat 15), (.ofNat 0, .ofNat 0), (.ofNat 0, .ofNat 0), (.ofNat 0, .ofNat 0), (.ofNat 0, .ofNat 0)],
  [(.ofNat 0, .ofNat 15), (.ofNat 0, .ofNat 15), (.ofNat 0, .ofNat 0), (.ofNat 0, .ofNat 0), (.ofNat 0, .ofNat 0), (.ofNat 0, .ofNat 0)],
  [(.ofNat 0, .ofNat 15), (.ofNat 0, .ofNat 15), (.ofNat 0, .ofNat 0), (.ofNat 0, .ofNat 3), (.ofNat 0, .ofNat 0), (.ofNat 0, .ofNat 0)],
  [(.ofNat 0, .ofNat 0), (.ofNat 0, .ofNat 15), (.ofNat 0, .ofNat 15), (.ofNat 0, .ofNat 0), (.ofNat 0, .ofNat 0), (.ofNat 0, .ofNat 0)],
  [(.ofNat 0, .ofNat 0), (.ofNat 0, .ofNat 15), (.ofNat 0, .ofNat 15), (.ofNat 0, .ofNat 0), (.ofNat 0, .ofNat 0), (.ofNat 0, .ofNat 0)],
  [(.ofNat 0, .ofNat 0), (.ofNat 0, .ofNat 15), (.ofNat 0, .ofNat 0), (.ofNat 0, .ofNat 0), (.negSucc 127, .ofNat 127), (.ofNat 0, .ofNat 0)],
  [(.ofNat 0, .ofNat 15), (.ofNat 0, .ofNat 15), (.ofNat 0, .ofNat 15), (.ofNat 0, .ofNat 15), (.ofNat 0, .ofNat 0), (.ofNat 0, .ofNat 0)],
  [(.ofNat 0, .ofNat 15), (.ofNat 0, .ofNat 0), (.ofNat 0, .ofNat 0), (.ofNat 0, .ofNat 15), (.ofNat 0, .ofNat 0), (.ofNat 0, .ofNat 0)],
  [(.ofNat 0, .ofNat 15), (.ofNat 0, .ofNat 15), (.ofNat 0, .ofNat 0), (.ofNat 0, .ofNat 0), (.negSucc 127, .ofNat 127), (.ofNat 0, .ofNat 0)],
  [(.ofNat 0, .ofNat 15), (.ofNat 0, .ofNat 15), (.ofNat 0, .ofNat 0), (.ofNat 0, .ofNat 0), (.negSucc 127, .ofNat 127), (.ofNat 0, .ofNat 0)],
  [(.ofNat 0, .ofNat 15), (.ofNat 0, .ofNat 15), (.ofNat 0, .ofNat 0), (.ofNat 0, .ofNat 0), (.negSucc 127, .ofNat 127), (.ofNat 0, .ofNat 0)],
  [(.ofNat 0, .ofNat 15), (.ofNat 0, .ofNat 15), (.ofNat 0, .ofNat 0), (.ofNat 0, .ofNat 0), (.negSucc 127, .ofNat 127), (.ofNat 0, .ofNat 0)],
  [(.ofNat 0, .ofNat 15), (.ofNat 0, .ofNat 15), (.ofNat 0, .ofNat 0), (.ofNat 0, .ofNat 0), (.negSucc 127, .ofNat 127), (.ofNat 0, .ofNat 0)],
  [(.ofNat 0, .ofNat 15), (.ofNat 0, .ofNat 15), (.ofNat 0, .ofNat 0), (.ofNat 0, .ofNat 0), (.negSucc 127, .ofNat 127), (.ofNat 0, .ofNat 0)],
  [(.ofNat 0, .ofNat 15), (.ofNat 0, .ofNat 15), (.ofNat 0, .ofNat 0), (.ofNat 0, .ofNat 0), (.negSucc 127, .ofNat 127), (.ofNat 0, .ofNat 0)],
  [(.ofNat 0, .ofNat 15), (.ofNat 0, .ofNat 0), (.ofNat 0, .ofNat 0), (.ofNat 0, .ofNat 0), (.ofNat 0, .ofNat 0), (.ofNat 0, .ofNat 0)],
  [(.ofNat 0, .ofNat 15), (.ofNat 0, .ofNat 0), (.ofNat 0, .ofNat 0), (.ofNat 0, .ofNat 0), (.ofNat 0, .ofNat 0), (.ofNat 0, .ofNat 0)],
  [(.ofNat 0, .ofNat 15), (.ofNat 0, .ofNat 15), (.ofNat 0, .ofNat 0), (.ofNat 0, .ofNat 0), (.negSucc 127, .ofNat 127), (.ofNat 0, .ofNat 0)],
  [(.ofNat 0, .ofNat 15), (.ofNat 0, .ofNat 15), (.ofNat 0, .ofNat 15), (.ofNat 0, .ofNat 0), (.negSucc 127, .ofNat 127), (.ofNat 0, .ofNat 0)],
  [(.ofNat 0, .ofNat 15), (.ofNat 0, .ofNat 15), (.ofNat 0, .ofNat 0), (.ofNat 0, .ofNat 0), (.negSucc 127, .ofNat 127), (.ofNat 0, .ofNat 0)],
  [(.ofNat 0, .ofNat 0), (.ofNat 0, .ofNat 0), (.ofNat 0, .ofNat 0), (.ofNat 0, .ofNat 0), (.ofNat 0, .ofNat 0), (.ofNat 0, .ofNat 0)],
  [(.ofNat 0, .ofNat 0), (.ofNat 0, .ofNat 15), (.ofNat 0, .ofNat 0), (.ofNat 0, .ofNat 0), (.ofNat 0, .ofNat 0), (.ofNat 0, .ofNat 0)],
  [(.ofNat 0, .ofNat 0), (.ofNat 0, .ofNat 15), (.ofNat 0, .ofNat 0), (.ofNat 0, .ofNat 0), (.ofNat 0, .ofNat 0), (.ofNat 0, .ofNat 0)],
  [(.ofNat 0, .ofNat 0), (.ofNat 0, .ofNat 0), (.ofNat 0, .ofNat 0), (.ofNat 0, .ofNat 0), (.ofNat 0, .ofNat 0), (.ofNat 0, .ofNat 0)],
  [(.ofNat 0, .ofNat 0), (.ofNat 0, .ofNat 0), (.ofNat 0, .ofNat 0), (.ofNat 0, .ofNat 0), (.ofNat 0, .ofNat 0), (.ofNat 0, .ofNat 0)],
  [(.ofNat 0, .ofNat 0), (.ofNat 0, .ofNat 0), (.ofNat 0, .ofNat 0), (.ofNat 0, .ofNat 0), (.ofNat 0, .ofNat 0), (.ofNat 0, .ofNat 0)],
  [(.ofNat 0, .ofNat 0), (.ofNat 0, .ofNat 0), (.ofNat 0, .ofNat 0), (.ofNat 0, .ofNat 0), (.ofNat 0, .ofNat 0), (.ofNat 0, .ofNat 0)],
  [(.ofNat 0, .ofNat 15), (.ofNat 0, .ofNat 0), (.ofNat 0, .ofNat 0), (.ofNat 0, .ofNat 0), (.ofNat 0, .ofNat 0), (.ofNat 0, .ofNat 0)],
  [(.ofNat 0, .ofNat 0), (.ofNat 0, .ofNat 15), (.ofNat 0, .ofNat 0), (.ofNat 0, .ofNat 0), (.ofNat 0, .ofNat 0), (.ofNat 0, .ofNat 0)],
  [(.ofNat 0, .ofNat 7), (.ofNat 0, .ofNat 15), (.ofNat 0, .ofNat 0), (.ofNat 0, .ofNat 0), (.negSucc 127, .ofNat 127), (.ofNat 0, .ofNat 0)],
  [(.ofNat 0, .ofNat 7), (.ofNat 0, .ofNat 15), (.ofNat 0, .ofNat 0), (.ofNat 0, .ofNat 0), (.negSucc 127, .ofNat 127), (.ofNat 0, .ofNat 0)],
  [(.ofNat 0, .ofNat 7), (.ofNat 0, .ofNat 7), (.ofNat 0, .ofNat 0), (.ofNat 0, .ofNat 0), (.ofNat 0, .ofNat 0), (.ofNat 0, .ofNat 0)],
  [(.ofNat 0, .ofNat 7), (.ofNat 0, .ofNat 7), (.ofNat 0, .ofNat 7), (.ofNat 0, .ofNat 2), (.ofNat 0, .ofNat 0), (.ofNat 0, .ofNat 0)],
  [(.ofNat 0, .ofNat 7), (.ofNat 0, .ofNat 7), (.ofNat 0, .ofNat 7), (.ofNat 0, .ofNat 2), (.ofNat 0, .ofNat 0), (.ofNat 0, .ofNat 0)],
  [(.ofNat 0, .ofNat 7), (.ofNat 0, .ofNat 7), (.ofNat 0, .ofNat 7), (.ofNat 0, .ofNat 2), (.ofNat 0, .ofNat 0), (.ofNat 0, .ofNat 0)],
  [(.ofNat 0, .ofNat 7), (.ofNat 0, .ofNat 7), (.ofNat 0, .ofNat 7), (.ofNat 0, .ofNat 0), (.ofNat 0, .ofNat 0), (.ofNat 0, .ofNat 0)],
  [(.ofNat 0, .ofNat 7), (.ofNat 0, .ofNat 7), (.ofNat 0, .ofNat 7), (.ofNat 0, .ofNat 0), (.ofNat 0, .ofNat 0), (.ofNat 0, .ofNat 0)],
  [(.ofNat 0, .ofNat 7), (.ofNat 0, .ofNat 7), (.ofNat 0, .ofNat 7), (.ofNat 0, .ofNat 0), (.ofNat 0, .ofNat 0), (.ofNat 0, .ofNat 0)],
  [(.ofNat 0, .ofNat 7), (.ofNat 0, .ofNat 7), (.ofNat 0, .ofNat 7), (.ofNat 0, .ofNat 0), (.ofNat 0, .ofNat 0), (.ofNat 0, .ofNat 0)],
  [(.ofNat 0, .ofNat 7), (.ofNat 0, .ofNat 15), (.ofNat 0, .ofNat 0), (.ofNat 0, .ofNat 3), (.ofNat 0, .ofNat 0), (.ofNat 0, .ofNat 0)],
  [(.ofNat 0, .ofNat 15), (.ofNat 0, .ofNat 7), (.ofNat 0, .ofNat 0), (.ofNat 0, .ofNat 3), (.ofNat 0, .ofNat 0), (.ofNat 0, .ofNat 0)],
  [(.ofNat 0, .ofNat 7), (.ofNat 0, .ofNat 15), (.ofNat 0, .ofNat 0), (.ofNat 0, .ofNat 0), (.ofNat 0, .ofNat 0), (.ofNat 0, .ofNat 0)],
  [(.ofNat 0, .ofNat 15), (.ofNat 0, .ofNat 7), (.ofNat 0, .ofNat 0), (.ofNat 0, .ofNat 0), (.ofNat 0, .ofNat 0), (.ofNat 0, .ofNat 0)],
  [(.ofNat 0, .ofNat 7), (.ofNat 0, .ofNat 7), (.ofNat 0, .ofNat 7), (.ofNat 0, .ofNat 0), (.ofNat 0, .ofNat 0), (.ofNat 0, .ofNat 0)],
  [(.ofNat 0, .ofNat 7), (.ofNat 0, .ofNat 7), (.ofNat 0, .ofNat 7), (.ofNat 0, .ofNat 0), (.ofNat 0, .ofNat 0), (.ofNat 0, .ofNat 0)],
  [(.ofNat 0, .ofNat 15), (.ofNat 0, .ofNat 0), (.ofNat 0, .ofNat 0), (.ofNat 0, .ofNat 0), (.ofNat 0, .ofNat 0), (.ofNat 0, .ofNat 4294967295)],
  [(.ofNat 0, .ofNat 15), (.ofNat 0, .ofNat 15), (.ofNat 0, .ofNat 0), (.ofNat 0, .ofNat 0), (.ofNat 0, .ofNat 0), (.ofNat 0, .ofNat 4294967295)],
  [(.ofNat 0, .ofNat 0), (.ofNat 0, .ofNat 0), (.ofNat 0, .ofNat 0), (.ofNat 0, .ofNat 0), (.ofNat 0, .ofNat 0), (.ofNat 0, .ofNat 4294967295)],
  [(.ofNat 0, .ofNat 0), (.ofNat 0, .ofNat 0), (.ofNat 0, .ofNat 0), (.ofNat 0, .ofNat 15), (.ofNat 0, .ofNat 0), (.ofNat 0, .ofNat 4294967295)],
  [(.ofNat 0, .ofNat 0), (.ofNat 0, .ofNat 0), (.ofNat 0, .ofNat 0), (.ofNat 0, .ofNat 0), (.ofNat 0, .ofNat 0), (.ofNat 0, .ofNat 4294967295)],
  [(.ofNat 0, .ofNat 15), (.ofNat 0, .ofNat 15), (.ofNat 0, .ofNat 0), (.ofNat 0, .ofNat 0), (.ofNat 0, .ofNat 0), (.ofNat 0, .ofNat 4294967295)],
  [(.ofNat 0, .ofNat 15), (.ofNat 0, .ofNat 15), (.ofNat 0, .ofNat 0), (.ofNat 0, .ofNat 0), (.ofNat 0, .ofNat 0), (.ofNat 0, .ofNat 4294967295)],
  [(.ofNat 0, .ofNat 15), (.ofNat 0, .ofNat 15), (.ofNat 0, .ofNat 15), (.ofNat 0, .ofNat 3), (.ofNat 0, .ofNat 0), (.ofNat 0, .ofNat 4294967295)],
  [(.ofNat 0, .ofNat 0), (.ofNat 0, .ofNat 15), (.ofNat 0, .ofNat 0), (.ofNat 0, .ofNat 0), (.ofNat 0, .ofNat 0), (.ofNat 0, .ofNat 4294967295)]]

def rt (i : Nat) : List (Int × Int) := match nth rtab i with | some l => l | none => []
def spanCells : List (Int × Int) → List AV
  | [] => []
  | (a, b) :: l => .int .i64 a :: .int .i64 b :: spanCells l
def spansV : List (Int × Int) → List Value
  | [] => []
  | (a, b) :: l => .int .i64 a :: .int .i64 b :: spansV l
theorem goodS_spans [Unk] : ∀ l, GoodS (spanCells l)
  | [] => trivial
  | (_, _) :: l => ⟨trivial, trivial, goodS_spans l⟩
theorem denS_spans [Unk] : ∀ {l : List (Int × Int)} {vs : List Value}, DenS (spanCells l) vs → vs = spansV l
  | [], [], _ => rfl
  | [], _ :: _, h => h.elim
  | (_, _) :: _, [], h => h.elim
  | (_, _) :: _, [_], h => h.2.elim
  | (a, b) :: l, u :: v :: vs, h => by
    obtain ⟨h1, h2, h3⟩ := h
    have h1 : u = .int .i64 a := h1
    have h2 : v = .int .i64 b := h2
    rw [h1, h2, denS_spans h3]; rfl
noncomputable def orcN (_ : Nat) : Option Orc := none
theorem orcN_snd [Unk] (G : Nat → Nat → Option AV) : OrcSound Tryz.prog G orcN := fun f oc H avs v hf => by cases hf
set_option maxRecDepth 1000000 in
theorem ranges_ev (m : Int) : uptoB (fun i => evalA Tryz.prog (G1 m) orcN 100000 58 [.int .i64 (.ofNat i)] (isRet (.agg (spanCells (rt i))))) 73 = true := by kernel_rfl
theorem ranges_calls {m : Int} {w : World} (hG : GlobU m w) {op : Nat} (h : op < 73) :
    Calls Tryz.prog 58 #[.int .i64 (op : Int)] w fun e w' => e = .returned (.agg (spansV (rt op)).toArray) ∧ Below w.heap.size w w' := by
  letI : Unk := Unk.mk (nthI [])
  refine Calls.mono (rowOK_of_eval (orcN_snd _) noNG1 mix1 (uptoB_true (ranges_ev m) op h) (vs := [.int .i64 (op : Int)]) (.cons _ _ _ _ (.int _ _) .nil) (show Good (.agg _) from goodS_spans _) (hG _)) fun e w' he => ?_
  obtain ⟨u, rfl, hd, _, hb⟩ := he
  obtain ⟨cs, rfl, hs⟩ := hd
  exact ⟨by rw [← denS_spans hs], hb⟩

/-! ### Which numbers are an instruction -/
def inSpans : List (Int × Int) → List Int → Bool
  | [], [] => true
  | (a, b) :: l, x :: xs => decide (a ≤ x) && decide (x ≤ b) && inSpans l xs
  | _, _ => false
def isOpB (op : Int) : Bool := (decide (1 ≤ op) && decide (op ≤ 61)) || (decide (64 ≤ op) && decide (op ≤ 72))
def validB (op a b c d k i : Int) : Bool := isOpB op && inSpans (rt op.toNat) [a, b, c, d, k, i]
/-- What is so of every operation's ranges. -/
def okSpans : List (Int × Int) → Bool
  | [(a0, b0), (a1, b1), (a2, b2), (a3, b3), (a4, b4), (a5, b5)] =>
    decide (a0 = 0) && decide (a1 = 0) && decide (a2 = 0) && decide (a3 = 0) && decide (-128 ≤ a4) && decide (a4 ≤ 0) && decide (a5 = 0) &&
    decide (0 ≤ b0) && decide (b0 ≤ 15) && decide (0 ≤ b1) && decide (b1 ≤ 15) && decide (0 ≤ b2) && decide (b2 ≤ 15) && decide (0 ≤ b3) && decide (b3 ≤ 15) && decide (0 ≤ b4) && decide (b4 ≤ 127) && decide (0 ≤ b5) && decide (b5 ≤ 4294967295)
  | _ => false
theorem okSpans_all : uptoB (fun i => okSpans (rt i)) 73 = true := by kernel_rfl
theorem spans_of {op : Nat} (h : op < 73) : ∃ a4 b0 b1 b2 b3 b4 b5, rt op = [(0, b0), (0, b1), (0, b2), (0, b3), (a4, b4), (0, b5)] ∧ -128 ≤ a4 ∧ a4 ≤ 0 ∧
    (0 ≤ b0 ∧ b0 ≤ 15) ∧ (0 ≤ b1 ∧ b1 ≤ 15) ∧ (0 ≤ b2 ∧ b2 ≤ 15) ∧ (0 ≤ b3 ∧ b3 ≤ 15) ∧ (0 ≤ b4 ∧ b4 ≤ 127) ∧ (0 ≤ b5 ∧ b5 ≤ 4294967295) := by
  have := @uptoB_true (Unk.mk (nthI [])) _ _ okSpans_all op h
  unfold okSpans at this
  split at this
  · rename_i a0 b0 a1 b1 a2 b2 a3 b3 a4 b4 a5 b5 e
    simp only [Bool.and_eq_true, decide_eq_true_eq] at this
    obtain ⟨⟨⟨⟨⟨⟨⟨⟨⟨⟨⟨⟨⟨⟨⟨⟨⟨⟨rfl, rfl⟩, rfl⟩, rfl⟩, h4⟩, h5⟩, rfl⟩, h7⟩, h8⟩, h9⟩, h10⟩, h11⟩, h12⟩, h13⟩, h14⟩, h15⟩, h16⟩, h17⟩, h18⟩ := this
    exact ⟨a4, b0, b1, b2, b3, b4, b5, e, h4, h5, ⟨h7, h8⟩, ⟨h9, h10⟩, ⟨h11, h12⟩, ⟨h13, h14⟩, ⟨h15, h16⟩, h17, h18⟩
  · cases this

/-! ### Check, upon unknowns: op, the six fields, and how far each one is above its least and below its greatest number -/
def big : Int := .ofNat 36893488147419103232
def nbig : Int := .negSucc 36893488147419103231
def dOf (j t : Nat) : Int × Int := match Nat.blt t j with | true => (.ofNat 0, big) | false => match Nat.beq t j with | true => (nbig, .negSucc 0) | false => (nbig, big)
def cbs (opb : Int × Int) (j : Nat) : List (Int × Int) :=
  [opb, (nbig, big), (nbig, big), (nbig, big), (nbig, big), (nbig, big), (.ofNat 0, .ofNat 4294967295), dOf j 0, dOf j 2, dOf j 4, dOf j 6, dOf j 8, dOf j 10, dOf j 1, dOf j 3, dOf j 5, dOf j 7, dOf j 9, dOf j 11]
def argC (bs : List (Int × Int)) : AV := .agg [.lin .i64 (.ofNat 0) (e1 0 (.ofNat 1)) bs, .lin .i64 (.ofNat 0) (e1 1 (.ofNat 1)) bs, .lin .i64 (.ofNat 0) (e1 2 (.ofNat 1)) bs, .lin .i64 (.ofNat 0) (e1 3 (.ofNat 1)) bs, .lin .i64 (.ofNat 0) (e1 4 (.ofNat 1)) bs, .lin .i64 (.ofNat 0) (e1 5 (.ofNat 1)) bs, .lin .u32 (.ofNat 0) (e1 6 (.ofNat 1)) bs]
def loC (i : Nat) (bs : List (Int × Int)) : AV := .lin .i64 (.ofNat 0) (Lin.add (e1 i (.ofNat 1)) (e1 (i + 6) (.negSucc 0))) bs
def hiC (i : Nat) (bs : List (Int × Int)) : AV := .lin .i64 (.ofNat 0) (Lin.add (e1 i (.ofNat 1)) (e1 (i + 12) (.ofNat 1))) bs
def rngC (bs : List (Int × Int)) : AV := .agg [loC 1 bs, hiC 1 bs, loC 2 bs, hiC 2 bs, loC 3 bs, hiC 3 bs, loC 4 bs, hiC 4 bs, loC 5 bs, hiC 5 bs, loC 6 bs, hiC 6 bs]
def orcC (bs : List (Int × Int)) (f : Nat) : Option Orc := match Nat.beq f 58 with
  | true => some (.given [([.lin .i64 (.ofNat 0) (e1 0 (.ofNat 1)) bs], rngC bs)])
  | false => none
def retC (j : Nat) : AV := .int .i64 (match Nat.beq j 12 with | true => .ofNat 0 | false => .ofNat 6)
set_option maxRecDepth 1000000 in
theorem check_ev1 (m : Int) : uptoB (fun j => evalA Tryz.prog (G1 m) (orcC (cbs (.ofNat 1, .ofNat 61) j)) 100000 18 [argC (cbs (.ofNat 1, .ofNat 61) j)] (isRet (retC j))) 13 = true := by kernel_rfl
set_option maxRecDepth 1000000 in
theorem check_ev2 (m : Int) : uptoB (fun j => evalA Tryz.prog (G1 m) (orcC (cbs (.ofNat 64, .ofNat 72) j)) 100000 18 [argC (cbs (.ofNat 64, .ofNat 72) j)] (isRet (retC j))) 13 = true := by kernel_rfl
set_option maxRecDepth 1000000 in
theorem check_ev3 (m : Int) : evalA Tryz.prog (G1 m) orcN 100000 18 [argC (cbs (nbig, .ofNat 0) 99)] (isRet (.int .i64 (.ofNat 6))) = true := by kernel_rfl
set_option maxRecDepth 1000000 in
theorem check_ev4 (m : Int) : evalA Tryz.prog (G1 m) orcN 100000 18 [argC (cbs (.ofNat 62, .ofNat 63) 99)] (isRet (.int .i64 (.ofNat 6))) = true := by kernel_rfl
set_option maxRecDepth 1000000 in
theorem check_ev5 (m : Int) : evalA Tryz.prog (G1 m) orcN 100000 18 [argC (cbs (.ofNat 73, big) 99)] (isRet (.int .i64 (.ofNat 6))) = true := by kernel_rfl
/-- The first of n numbers that is below 0. -/
theorem first_neg (x : Nat → Int) : ∀ n, ∃ j, j ≤ n ∧ (∀ t, t < j → 0 ≤ x t) ∧ (j < n → x j < 0)
  | 0 => ⟨0, Nat.le_refl _, fun t h => by omega, fun h => by omega⟩
  | n + 1 => by
    obtain ⟨j, h1, h2, h3⟩ := first_neg x n
    rcases Nat.lt_or_ge j n with hj | hj
    · exact ⟨j, by omega, h2, fun _ => h3 hj⟩
    · obtain rfl : j = n := by omega
      rcases Int.lt_or_le (x j) 0 with h | h
      · exact ⟨j, by omega, h2, fun _ => h⟩
      · refine ⟨j + 1, Nat.le_refl _, fun t ht => ?_, fun hc => by omega⟩
        rcases Nat.lt_or_ge t j with ht' | ht'
        · exact h2 t ht'
        · obtain rfl : t = j := by omega
          exact h
theorem dOf_ok {j t : Nat} {x : Int} (h1 : t < j → 0 ≤ x) (h2 : t = j → x < 0) (hl : -36893488147419103232 ≤ x) (hu : x ≤ 36893488147419103232) : (dOf j t).1 ≤ x ∧ x ≤ (dOf j t).2 := by
  have eb : big = 36893488147419103232 := rfl
  have en : nbig = -36893488147419103232 := rfl
  unfold dOf
  split
  · rename_i h
    have := h1 (by simpa [Nat.blt_eq] using h)
    simp only [eb]; exact ⟨this, hu⟩
  · split
    · rename_i h
      have := h2 (Nat.eq_of_beq_eq_true h)
      simp only [en]; exact ⟨hl, by show x ≤ -1; omega⟩
    · simp only [eb, en]; exact ⟨hl, hu⟩
theorem retC_eq (j : Nat) : retC j = .int .i64 (if j = 12 then 0 else 6) := by
  unfold retC
  by_cases h : j = 12
  · subst h; rfl
  · have : Nat.beq j 12 = false := by
      cases hb : Nat.beq j 12 with
      | false => rfl
      | true => exact absurd (Nat.eq_of_beq_eq_true hb) h
    rw [this, if_neg h]; rfl
theorem vr_lin1 {L : List Int} {bs : List (Int × Int)} (hw : Ins L bs) (k : IntKind) (n : Nat) (ρ : Rho) : @VR (Unk.mk (nthI L)) ρ (.lin k (.ofNat 0) (e1 n (.ofNat 1)) bs) (.int k (nthI L n)) :=
  letI : Unk := Unk.mk (nthI L)
  .lin _ _ _ _ _ (by show nthI L n = (0 : Int) + Lin.val (nthI L) (e1 n 1) 0; rw [val_u]; omega) (within_unkL hw)
theorem vr_lin2 {L : List Int} {bs : List (Int × Int)} (hw : Ins L bs) (k : IntKind) (n n' : Nat) (c : Int) {z : Int} (hz : z = nthI L n + c * nthI L n') (ρ : Rho) : @VR (Unk.mk (nthI L)) ρ (.lin k (.ofNat 0) (Lin.add (e1 n (.ofNat 1)) (e1 n' c)) bs) (.int k z) :=
  letI : Unk := Unk.mk (nthI L)
  .lin _ _ _ _ _ (by show z = (0 : Int) + Lin.val (nthI L) (Lin.add (e1 n 1) (e1 n' c)) 0; rw [Lin.val_add, val_u, val_u, hz]; omega) (within_unkL hw)
/-- An instruction's seven numbers by the unknowns 0 .. 6. -/
theorem vr_argC {L : List Int} {bs : List (Int × Int)} (hw : Ins L bs) (ρ : Rho) : @VR (Unk.mk (nthI L)) ρ (argC bs) (insnV (nthI L 0) (nthI L 1) (nthI L 2) (nthI L 3) (nthI L 4) (nthI L 5) (nthI L 6)) :=
  letI : Unk := Unk.mk (nthI L)
  .agg _ _ (.cons _ _ _ _ (vr_lin1 hw _ _ _) (.cons _ _ _ _ (vr_lin1 hw _ _ _) (.cons _ _ _ _ (vr_lin1 hw _ _ _) (.cons _ _ _ _ (vr_lin1 hw _ _ _) (.cons _ _ _ _ (vr_lin1 hw _ _ _) (.cons _ _ _ _ (vr_lin1 hw _ _ _) (.cons _ _ _ _ (vr_lin1 hw _ _ _) .nil)))))))
/-- A run that yields a number. -/
theorem num_of_eval [Unk] {G : Nat → Nat → Option AV} {orc : Nat → Option Orc} (hO : OrcSound Tryz.prog G orc) {fuel f : Nat} {args : List AV} {n : Int} (h : evalA Tryz.prog G orc fuel f args (isRet (.int .i64 n)) = true) {vs : List Value} (hv : VRs (fun _ => none) args vs)
    {w : World} (hG : Globals G w) : Calls Tryz.prog f vs.toArray w fun e w' => e = .returned (.int .i64 n) ∧ Below w.heap.size w w' := by
  refine Calls.mono (rowOK_of_eval hO noNG1 mix1 h hv (show Good (.int _ _) from trivial) hG) fun e w' he => ?_
  obtain ⟨u, rfl, hd, _, hb⟩ := he
  have hd : u = .int .i64 n := hd
  exact ⟨by rw [hd], hb⟩
theorem hb58 : HasBody Tryz.prog 58 := ⟨_, _, Tryz.func58, by kernel_rfl, rfl⟩
/-- What the oracle says of rangesOf is so. -/
theorem orcC_snd {m : Int} {L : List Int} {bs : List (Int × Int)} (hw : Ins L bs) {op : Nat} (hop : op < 73) (h0 : nthI L 0 = op) {a4 b0 b1 b2 b3 b4 b5 : Int} (hr : rt op = [(0, b0), (0, b1), (0, b2), (0, b3), (a4, b4), (0, b5)])
    (d0 : 0 = nthI L 1 - nthI L 7) (d1 : 0 = nthI L 2 - nthI L 8) (d2 : 0 = nthI L 3 - nthI L 9) (d3 : 0 = nthI L 4 - nthI L 10) (d4 : a4 = nthI L 5 - nthI L 11) (d5 : 0 = nthI L 6 - nthI L 12)
    (u0 : b0 = nthI L 1 + nthI L 13) (u1 : b1 = nthI L 2 + nthI L 14) (u2 : b2 = nthI L 3 + nthI L 15) (u3 : b3 = nthI L 4 + nthI L 16) (u4 : b4 = nthI L 5 + nthI L 17) (u5 : b5 = nthI L 6 + nthI L 18) : @OrcSound (Unk.mk (nthI L)) Tryz.prog (G1 m) (orcC bs) := by
  letI : Unk := Unk.mk (nthI L)
  refine orcSound_given fun f oc hf => ?_
  unfold orcC at hf
  split at hf
  · rename_i hfe
    have hfe := beqF hfe
    subst hfe
    cases hf
    refine ⟨_, rfl, hb58, fun pat v hm => ?_⟩
    simp only [List.mem_cons, List.not_mem_nil, or_false, Prod.mk.injEq] at hm
    obtain ⟨rfl, rfl⟩ := hm
    intro w vs hG hd
    match vs, hd with
    | [x], hd =>
      have hx : x = .int .i64 ((.ofNat 0 : Int) + Lin.val (nthI L) (e1 0 (.ofNat 1)) 0) := hd.1
      have hx : x = .int .i64 (op : Int) := by
        rw [hx, val_u, h0]
        show Value.int .i64 ((0 : Int) + 1 * (op : Int)) = _
        rw [Int.one_mul, Int.zero_add]
      subst hx
      refine Calls.mono (ranges_calls (globU_of hG) hop) fun e w' he => ?_
      obtain ⟨rfl, hb⟩ := he
      refine ⟨_, rfl, fun ρ => ?_, hb⟩
      rw [hr]
      have lo : ∀ (i : Nat) (z : Int), z = nthI L i - nthI L (i + 6) → VR ρ (loC i bs) (.int .i64 z) := fun i z hz => vr_lin2 hw _ i (i + 6) _ (by rw [hz]; show _ = _ + (-1 : Int) * _; omega) ρ
      have hi : ∀ (i : Nat) (z : Int), z = nthI L i + nthI L (i + 12) → VR ρ (hiC i bs) (.int .i64 z) := fun i z hz => vr_lin2 hw _ i (i + 12) _ (by rw [hz]; show _ = _ + (1 : Int) * _; omega) ρ
      exact .agg _ _ (.cons _ _ _ _ (lo 1 _ d0) (.cons _ _ _ _ (hi 1 _ u0) (.cons _ _ _ _ (lo 2 _ d1) (.cons _ _ _ _ (hi 2 _ u1) (.cons _ _ _ _ (lo 3 _ d2) (.cons _ _ _ _ (hi 3 _ u2) (.cons _ _ _ _ (lo 4 _ d3) (.cons _ _ _ _ (hi 4 _ u3) (.cons _ _ _ _ (lo 5 _ d4) (.cons _ _ _ _ (hi 5 _ u4) (.cons _ _ _ _ (lo 6 _ d5) (.cons _ _ _ _ (hi 6 _ u5) .nil))))))))))))
  · cases hf
/-- Which numbers are an instruction, by the twelve distances from its bounds. -/
theorem valid_iff {op a b c d k i a4 b0 b1 b2 b3 b4 b5 : Int} (hop : isOpB op = true) (hr : rt op.toNat = [(0, b0), (0, b1), (0, b2), (0, b3), (a4, b4), (0, b5)]) :
    validB op a b c d k i = true ↔ (0 ≤ a ∧ a ≤ b0) ∧ (0 ≤ b ∧ b ≤ b1) ∧ (0 ≤ c ∧ c ≤ b2) ∧ (0 ≤ d ∧ d ≤ b3) ∧ (a4 ≤ k ∧ k ≤ b4) ∧ (0 ≤ i ∧ i ≤ b5) := by
  unfold validB
  rw [hop, hr]
  simp only [inSpans, Bool.true_and, Bool.and_true, Bool.and_eq_true, decide_eq_true_eq]
def dist (a b c d k i a4 b0 b1 b2 b3 b4 b5 : Int) : Nat → Int := nthI [a, b0 - a, b, b1 - b, c, b2 - c, d, b3 - d, k - a4, b4 - k, i, b5 - i]
theorem dist_iff {a b c d k i a4 b0 b1 b2 b3 b4 b5 : Int} : (∀ t, t < 12 → 0 ≤ dist a b c d k i a4 b0 b1 b2 b3 b4 b5 t) ↔ (0 ≤ a ∧ a ≤ b0) ∧ (0 ≤ b ∧ b ≤ b1) ∧ (0 ≤ c ∧ c ≤ b2) ∧ (0 ≤ d ∧ d ≤ b3) ∧ (a4 ≤ k ∧ k ≤ b4) ∧ (0 ≤ i ∧ i ≤ b5) := by
  constructor
  · intro h
    have h0 : 0 ≤ a := h 0 (by omega)
    have h1 : 0 ≤ b0 - a := h 1 (by omega)
    have h2 : 0 ≤ b := h 2 (by omega)
    have h3 : 0 ≤ b1 - b := h 3 (by omega)
    have h4 : 0 ≤ c := h 4 (by omega)
    have h5 : 0 ≤ b2 - c := h 5 (by omega)
    have h6 : 0 ≤ d := h 6 (by omega)
    have h7 : 0 ≤ b3 - d := h 7 (by omega)
    have h8 : 0 ≤ k - a4 := h 8 (by omega)
    have h9 : 0 ≤ b4 - k := h 9 (by omega)
    have h10 : 0 ≤ i := h 10 (by omega)
    have h11 : 0 ≤ b5 - i := h 11 (by omega)
    omega
  · intro ⟨h0, h1, h2, h3, h4, h5⟩ t ht
    match t, ht with
    | 0, _ => show 0 ≤ a; omega
    | 1, _ => show 0 ≤ b0 - a; omega
    | 2, _ => show 0 ≤ b; omega
    | 3, _ => show 0 ≤ b1 - b; omega
    | 4, _ => show 0 ≤ c; omega
    | 5, _ => show 0 ≤ b2 - c; omega
    | 6, _ => show 0 ≤ d; omega
    | 7, _ => show 0 ≤ b3 - d; omega
    | 8, _ => show 0 ≤ k - a4; omega
    | 9, _ => show 0 ≤ b4 - k; omega
    | 10, _ => show 0 ≤ i; omega
    | 11, _ => show 0 ≤ b5 - i; omega
    | t + 12, ht => omega
theorem check_op {m : Int} {w : World} (hG : GlobU m w) {lo hi : Int} (hev : ∀ j, j < 13 → evalA Tryz.prog (G1 m) (orcC (cbs (lo, hi) j)) 100000 18 [argC (cbs (lo, hi) j)] (isRet (retC j)) = true) {op a b c d k i : Int} (hlo : lo ≤ op) (hhi : op ≤ hi) (hop : isOpB op = true)
    (ha : inI64 a) (hb : inI64 b) (hc : inI64 c) (hd : inI64 d) (hk : inI64 k) (hi' : inU32 i) :
    Calls Tryz.prog 18 #[insnV op a b c d k i] w fun e w' => e = .returned (.int .i64 (if validB op a b c d k i = true then 0 else 6)) ∧ Below w.heap.size w w' := by
  have hop' := hop
  simp only [isOpB, Bool.or_eq_true, Bool.and_eq_true, decide_eq_true_eq] at hop'
  have hn : op.toNat < 73 := by omega
  have hz : (op.toNat : Int) = op := by omega
  obtain ⟨a4, b0, b1, b2, b3, b4, b5, hr, k1, k2, ⟨g0, g0'⟩, ⟨g1, g1'⟩, ⟨g2, g2'⟩, ⟨g3, g3'⟩, ⟨g4, g4'⟩, ⟨g5, g5'⟩⟩ := spans_of hn
  have hv := valid_iff (a := a) (b := b) (c := c) (d := d) (k := k) (i := i) hop hr
  obtain ⟨j, hj, hpos, hneg⟩ := first_neg (dist a b c d k i a4 b0 b1 b2 b3 b4 b5) 12
  have hres : (if validB op a b c d k i = true then (0 : Int) else 6) = if j = 12 then 0 else 6 := by
    by_cases hj12 : j = 12
    · subst hj12
      rw [if_pos (hv.2 (dist_iff.1 hpos)), if_pos rfl]
    · have hlt : j < 12 := by omega
      rw [if_neg hj12, if_neg]
      intro hval
      have := dist_iff.2 (hv.1 hval) j hlt
      have := hneg hlt
      omega
  rw [hres]
  unfold inI64 at ha hb hc hd hk
  unfold inU32 at hi'
  have D : ∀ (t : Nat) (x : Int), t < 12 → dist a b c d k i a4 b0 b1 b2 b3 b4 b5 t = x → -36893488147419103232 ≤ x → x ≤ 36893488147419103232 → (dOf j t).1 ≤ x ∧ x ≤ (dOf j t).2 := fun t x ht hx h1 h2 => by
    subst hx
    exact dOf_ok (fun h => hpos t h) (fun h => by subst h; exact hneg ht) h1 h2
  have big' : ∀ x : Int, (-9223372036854775808 ≤ x ∧ x ≤ 9223372036854775807) → nbig ≤ x ∧ x ≤ big := fun x hx => by
    have eb : big = 36893488147419103232 := rfl
    have en : nbig = -36893488147419103232 := rfl
    rw [eb, en]; omega
  have hw : Ins [op, a, b, c, d, k, i, a, b, c, d, k - a4, i, b0 - a, b1 - b, b2 - c, b3 - d, b4 - k, b5 - i] (cbs (lo, hi) j) :=
    ⟨⟨hlo, hhi⟩, big' a ha, big' b hb, big' c hc, big' d hd, big' k hk, hi',
      D 0 a (by omega) rfl (by omega) (by omega), D 2 b (by omega) rfl (by omega) (by omega), D 4 c (by omega) rfl (by omega) (by omega), D 6 d (by omega) rfl (by omega) (by omega), D 8 (k - a4) (by omega) rfl (by omega) (by omega), D 10 i (by omega) rfl (by omega) (by omega),
      D 1 (b0 - a) (by omega) rfl (by omega) (by omega), D 3 (b1 - b) (by omega) rfl (by omega) (by omega), D 5 (b2 - c) (by omega) rfl (by omega) (by omega), D 7 (b3 - d) (by omega) rfl (by omega) (by omega), D 9 (b4 - k) (by omega) rfl (by omega) (by omega), D 11 (b5 - i) (by omega) rfl (by omega) (by omega), trivial⟩
  have hev := hev j (by omega)
  rw [retC_eq] at hev
  have hO := orcC_snd (m := m) hw hn hz.symm hr (by show (0 : Int) = a - a; omega) (by show (0 : Int) = b - b; omega) (by show (0 : Int) = c - c; omega) (by show (0 : Int) = d - d; omega) (by show a4 = k - (k - a4); omega) (by show (0 : Int) = i - i; omega)
    (by show b0 = a + (b0 - a); omega) (by show b1 = b + (b1 - b); omega) (by show b2 = c + (b2 - c); omega) (by show b3 = d + (b3 - d); omega) (by show b4 = k + (b4 - k); omega) (by show b5 = i + (b5 - i); omega)
  letI : Unk := Unk.mk (nthI [op, a, b, c, d, k, i, a, b, c, d, k - a4, i, b0 - a, b1 - b, b2 - c, b3 - d, b4 - k, b5 - i])
  exact num_of_eval hO hev (.cons _ _ _ _ (vr_argC hw _) .nil) (hG _)
theorem check_no {m : Int} {w : World} (hG : GlobU m w) {lo hi : Int} (hev : evalA Tryz.prog (G1 m) orcN 100000 18 [argC (cbs (lo, hi) 99)] (isRet (.int .i64 (.ofNat 6))) = true) {op a b c d k i : Int} (hlo : lo ≤ op) (hhi : op ≤ hi) (hop : isOpB op = false)
    (ha : inI64 a) (hb : inI64 b) (hc : inI64 c) (hd : inI64 d) (hk : inI64 k) (hi' : inU32 i) :
    Calls Tryz.prog 18 #[insnV op a b c d k i] w fun e w' => e = .returned (.int .i64 (if validB op a b c d k i = true then 0 else 6)) ∧ Below w.heap.size w w' := by
  have hres : (if validB op a b c d k i = true then (0 : Int) else 6) = .ofNat 6 := by
    unfold validB; rw [hop]; rfl
  rw [hres]
  unfold inI64 at ha hb hc hd hk
  unfold inU32 at hi'
  have eb : big = 36893488147419103232 := rfl
  have en : nbig = -36893488147419103232 := rfl
  have big' : ∀ x : Int, (-9223372036854775808 ≤ x ∧ x ≤ 9223372036854775807) → nbig ≤ x ∧ x ≤ big := fun x hx => by rw [eb, en]; omega
  have D : ∀ t : Nat, t < 12 → (dOf 99 t).1 ≤ 0 ∧ (0 : Int) ≤ (dOf 99 t).2 := fun t ht => dOf_ok (fun _ => by omega) (fun h => by omega) (by omega) (by omega)
  have hw : Ins [op, a, b, c, d, k, i] (cbs (lo, hi) 99) :=
    ⟨⟨hlo, hhi⟩, big' a ha, big' b hb, big' c hc, big' d hd, big' k hk, hi', D 0 (by omega), D 2 (by omega), D 4 (by omega), D 6 (by omega), D 8 (by omega), D 10 (by omega), D 1 (by omega), D 3 (by omega), D 5 (by omega), D 7 (by omega), D 9 (by omega), D 11 (by omega), trivial⟩
  letI : Unk := Unk.mk (nthI [op, a, b, c, d, k, i])
  exact num_of_eval (orcN_snd _) hev (.cons _ _ _ _ (vr_argC hw _) .nil) (hG _)
/-- THE CONTRACT OF isa.Check. -/
theorem check_calls {m : Int} {w : World} (hG : GlobU m w) {op a b c d k i : Int} (ho : inI64 op) (ha : inI64 a) (hb : inI64 b) (hc : inI64 c) (hd : inI64 d) (hk : inI64 k) (hi : inU32 i) :
    Calls Tryz.prog 18 #[insnV op a b c d k i] w fun e w' => e = .returned (.int .i64 (if validB op a b c d k i = true then 0 else 6)) ∧ Below w.heap.size w w' := by
  unfold inI64 at ho
  by_cases h1 : op ≤ 0
  · exact check_no hG (check_ev3 m) (by show (-36893488147419103232 : Int) ≤ op; omega) h1 (by simp [isOpB]; omega) ha hb hc hd hk hi
  by_cases h2 : op ≤ 61
  · exact check_op hG (@uptoB_true (Unk.mk (nthI [])) _ _ (check_ev1 m)) (by show (1 : Int) ≤ op; omega) h2 (by simp [isOpB]; omega) ha hb hc hd hk hi
  by_cases h3 : op ≤ 63
  · exact check_no hG (check_ev4 m) (by show (62 : Int) ≤ op; omega) h3 (by simp [isOpB]; omega) ha hb hc hd hk hi
  by_cases h4 : op ≤ 72
  · exact check_op hG (@uptoB_true (Unk.mk (nthI [])) _ _ (check_ev2 m)) (by show (64 : Int) ≤ op; omega) h4 (by simp [isOpB]; omega) ha hb hc hd hk hi
  · exact check_no hG (check_ev5 m) (by show (73 : Int) ≤ op; omega) (by show op ≤ (36893488147419103232 : Int); omega) (by simp [isOpB]; omega) ha hb hc hd hk hi
end Go.Ev
