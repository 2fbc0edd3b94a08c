import Derived.Test.YtepopmplcjhfbaaGreatObLaw
import Derived.Test.YtepopmplcjhfbaaGreatObBits
set_option linter.unusedSectionVars false
set_option linter.unusedVariables false
set_option linter.unusedSimpArgs false
/-
  Stage 3: the walk of the law ObjApplied, where the field is there.
-/
namespace Go.Ev
open Go.RowKit Go.Proofs
theorem BytesAt.congr {w : World} {a : Option Addr} {n : Nat} {q q' : Nat → Int} (h : BytesAt w a n q) (e : ∀ j, j < n → q j = q' j) : BytesAt w a n q' := by
  rcases h with h | ⟨b, o, rfl, hc⟩
  · exact .inl h
  · exact .inr ⟨b, o, rfl, fun j hj => e j hj ▸ hc j hj⟩
theorem BytesAt.sub {w : World} {b o n : Nat} {q : Nat → Int} (h : ∀ j, j < n → w.cell? ⟨b, o + j, none⟩ = some (.int .u8 (q j))) {i m : Nat} (hm : i + m ≤ n) : BytesAt w (some ⟨b, o + i, none⟩) m fun j => q (i + j) :=
  .inr ⟨b, o + i, rfl, fun j hj => by rw [Nat.add_assoc]; exact h (i + j) (by omega)⟩
theorem BytesAt.drewN {w : World} {a : Option Addr} {n : Nat} {q : Nat → Int} (h : BytesAt w a n q) (N : Nat) : BytesAt (w.drewN N) a n q := h
theorem BytesAt.tail {w : World} {b o n cap i : Nat} {q : Nat → Int} (h : ∀ j, j < n → w.cell? ⟨b, o + j, none⟩ = some (.int .u8 (q j))) (hi : i ≤ n) (hn : n ≤ cap) : BytesAt w (if cap = i then some ⟨b, o, none⟩ else some ⟨b, o + i, none⟩) (n - i) fun j => q (i + j) := by
  by_cases e : cap = i
  · rw [if_pos e]
    exact .inr ⟨b, o, rfl, fun j hj => by omega⟩
  · rw [if_neg e]
    exact BytesAt.sub h (by omega)
theorem putB_low {q F : Nat → Int} {off m j : Nat} (h : j < off) : putB q off m F j = q j := by unfold putB; rw [if_neg (by omega)]
theorem putB_high {q F : Nat → Int} {off m j : Nat} (h : off + m ≤ j) : putB q off m F j = q j := by unfold putB; rw [if_neg (by omega)]
theorem putB_in {q F : Nat → Int} {off m j : Nat} (h : j < m) : putB q off m F (off + j) = F j := by unfold putB; rw [if_pos (by omega)]; congr 1; omega
theorem putB_eq {q F G : Nat → Int} {off m : Nat} (h : ∀ i, F i = G i) : putB q off m F = putB q off m G := by funext j; simp [putB, h]
theorem putB_twice {q F : Nat → Int} {off m : Nat} : putB (putB q off m F) off m F = putB q off m F := by
  funext j
  unfold putB
  split <;> simp_all
end Go.Ev
