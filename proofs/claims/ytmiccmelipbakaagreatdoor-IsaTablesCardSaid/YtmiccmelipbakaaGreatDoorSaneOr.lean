import Derived.Test.YtmiccmelipbakaaGreatDoorEvZb
import Derived.Lib.Bytealg
import Derived.Lib.Index
import Derived.Lib.Join
set_option linter.unusedSectionVars false
set_option linter.unusedVariables false
set_option linter.unusedSimpArgs false
namespace Go.Ev
open Go.RowKit
section
variable [Unk]
variable {P : Program} {G : Nat → Nat → Option AV}

/-! ### The given functions: what they answer, in the evaluator's words -/
theorem nat_bytes {s : ByteArray} {l : List Nat} (h : s.data.toList.map UInt8.toNat = l) : ∀ n ∈ l, n < 256 := by
  subst h
  intro n hn
  obtain ⟨b, _, rfl⟩ := List.mem_map.1 hn
  exact b.toNat_lt
theorem prefB_eq : ∀ (a b : List UInt8), prefB (a.map UInt8.toNat) (b.map UInt8.toNat) = a.isPrefixOf b
  | [], b => by simp [prefB]
  | _ :: _, [] => rfl
  | a :: x, b :: y => by
    simp only [List.map_cons, prefB, List.isPrefixOf]
    rw [prefB_eq x y]
    by_cases h : a = b
    · subst h; simp
    · have hn : a.toNat ≠ b.toNat := fun e => h (UInt8.toNat_inj.1 e)
      have : Nat.beq a.toNat b.toNat = false := by
        cases hb : Nat.beq a.toNat b.toNat with
        | false => rfl
        | true => exact absurd (Nat.eq_of_beq_eq_true hb) hn
      rw [this]
      simp [h]
def ofIdx : Option Nat → Int
  | some i => (i : Int)
  | none => -1
theorem idxL_eq (sub : List UInt8) : ∀ (s : List UInt8) (k : Nat), ofIdx (idxL (sub.map UInt8.toNat) (s.map UInt8.toNat) k) = if Lib.index s sub = -1 then -1 else Lib.index s sub + k
  | [], k => by
    cases sub with
    | nil => simp [idxL, Lib.index, ofIdx]
    | cons c l => simp [idxL, Lib.index, ofIdx]
  | b :: s, k => by
    have ih := idxL_eq sub s (k + 1)
    have hp := prefB_eq sub (b :: s)
    have hcons : idxL (sub.map UInt8.toNat) ((b :: s).map UInt8.toNat) k = if sub.isPrefixOf (b :: s) = true then some k else idxL (sub.map UInt8.toNat) (s.map UInt8.toNat) (k + 1) := by
      rw [← hp]
      simp only [List.map_cons]
      rw [idxL]
      cases prefB (sub.map UInt8.toNat) (b.toNat :: s.map UInt8.toNat) <;> rfl
    have hidx : Lib.index (b :: s) sub = if sub.isPrefixOf (b :: s) = true then 0 else if (Lib.index s sub == -1) = true then -1 else Lib.index s sub + 1 := rfl
    rw [hcons, hidx]
    have hge := Lib.index_ge s sub
    by_cases hpr : sub.isPrefixOf (b :: s) = true
    · rw [if_pos hpr, if_pos hpr]; simp [ofIdx]
    · rw [if_neg hpr, if_neg hpr, ih]
      by_cases h1 : Lib.index s sub = -1
      · simp [h1]
      · have h2 : (Lib.index s sub == -1) = false := by simpa using h1
        rw [if_neg h1, h2]
        simp only [Bool.false_eq_true, if_false]
        rw [if_neg (by omega)]
        omega
theorem idxL_index (sub s : List UInt8) : ofIdx (idxL (sub.map UInt8.toNat) (s.map UInt8.toNat) 0) = Lib.index s sub := by
  rw [idxL_eq]
  split
  · exact ‹Lib.index s sub = -1›.symm
  · simp
theorem index_one : ∀ (s : List UInt8) (c : UInt8), Lib.index s [c] = Lib.indexByte s c
  | [], c => rfl
  | b :: s, c => by
    have ih := index_one s c
    have hc : (c == b) = (b == c) := by
      by_cases h : c = b
      · subst h; rfl
      · rw [beq_eq_false_iff_ne.2 h, beq_eq_false_iff_ne.2 fun e : b = c => h e.symm]
    have hp : ([c] : List UInt8).isPrefixOf (b :: s) = (b == c) := by
      rw [List.isPrefixOf_cons_cons, hc]; simp
    have h1 : Lib.index (b :: s) [c] = if ([c] : List UInt8).isPrefixOf (b :: s) = true then 0 else if (Lib.index s [c] == -1) = true then -1 else Lib.index s [c] + 1 := rfl
    have h2 : Lib.indexByte (b :: s) c = if (b == c) = true then 0 else if (Lib.indexByte s c == -1) = true then -1 else Lib.indexByte s c + 1 := rfl
    rw [h1, h2, hp, ih]
theorem vr_idx {ρ : Rho} {o : Option Nat} {v : AV} (h : v = match o with | some i => .int .i64 (.ofNat i) | none => .int .i64 (.negSucc 0)) {n : Int} (hn : ofIdx o = n) : VR ρ v (.int .i64 n) := by
  subst h hn
  cases o <;> exact .int _ _
theorem joinV_join {ρ : Rho} {sep : ByteArray} : ∀ {l : List AV} {vs : List Value} {r : List Nat}, VRs ρ l vs → OrcV.JoinV (sep.data.toList.map UInt8.toNat) l r →
    ∃ xs : List ByteArray, vs = xs.map Value.string ∧ r = (Lib.join (xs.map (·.data.toList)) sep.data.toList).map UInt8.toNat
  | _, _, r, .nil, h => ⟨[], rfl, by simp [OrcV.JoinV] at h; subst h; simp [Lib.join_nil]⟩
  | _, _, r, .cons a v [] _ h1 .nil, h => by
    cases a <;> first | (exact h.elim) | skip
    rename_i x
    cases h1 with
    | str _ s hs =>
      have h : r = x := h
      exact ⟨[s], rfl, by rw [h, ← hs]; simp [Lib.join_one]⟩
  | _, _, r, .cons a v (a2 :: l) _ h1 h2, h => by
    cases a <;> first | (exact h.elim) | skip
    rename_i x
    obtain ⟨r', hj, hr⟩ := h
    obtain ⟨xs, e1, e2⟩ := joinV_join (sep := sep) h2 hj
    cases h1 with
    | str _ s hs =>
      refine ⟨s :: xs, by rw [e1]; rfl, ?_⟩
      cases xs with
      | nil => cases h2; cases e1
      | cons y ys => rw [hr, ← hs, e2]; simp [Lib.join, List.intercalate]
end
end Go.Ev
