import Derived.Test.YtepopmplcjhfbaaGreatObLa
set_option linter.unusedSectionVars false
set_option linter.unusedVariables false
set_option linter.unusedSimpArgs false
set_option linter.unnecessarySimpa false
/-
  Stage 3: what the last line before a place is, where the lines are in their order.
-/
namespace Go.Ev
open Go.RowKit Go.Proofs Go.Rw
theorem steps_lt {l : List LineT} (h : Steps l) : ∀ (d i : Nat) (x y : LineT), l[i]? = some x → l[i + d + 1]? = some y → x.sec < y.sec ∨ (x.sec = y.sec ∧ x.off < y.off) := by
  intro d
  induction d with
  | zero => exact fun i x y hx hy => h i x y hx hy
  | succ d ih =>
    intro i x y hx hy
    have hl : i + (d + 1) + 1 < l.length := (List.getElem?_eq_some_iff.1 hy).1
    obtain ⟨z, hz⟩ : ∃ z, l[i + d + 1]? = some z := ⟨l[i + d + 1], List.getElem?_eq_getElem (by omega)⟩
    have h1 := ih i x z hx hz
    have h2 := h (i + d + 1) z y hz hy
    omega
/-- From line k to the next line of the section, line k is the last. -/
theorem best_at {l : List LineT} (h : Steps l) {k : Nat} {x : LineT} (hx : l[k]? = some x) {a : Int} (h0 : x.off ≤ a) (hn : ∀ z, l[k + 1]? = some z → z.sec = x.sec → a < z.off) : ∀ m, k < m → m ≤ l.length → best l x.sec a m = x := by
  intro m
  induction m with
  | zero => intro h; omega
  | succ m ih =>
    intro hm hl
    by_cases hk : m = k
    · subst hk
      exact best_yes hx ⟨rfl, h0⟩
    · obtain ⟨z, hz⟩ : ∃ z, l[m]? = some z := ⟨l[m], List.getElem?_eq_getElem (by omega)⟩
      rw [best_no hz ?_, ih (by omega) (by omega)]
      rintro ⟨hs, ho⟩
      obtain ⟨y, hy⟩ : ∃ y, l[k + 1]? = some y := ⟨l[k + 1], List.getElem?_eq_getElem (by omega)⟩
      have h1 := h k x y hx hy
      by_cases hmk : m = k + 1
      · subst hmk
        have e : y = z := Option.some.inj (hy.symm.trans hz)
        subst e
        have := hn y hy hs
        omega
      · have h2 := steps_lt h (m - (k + 1) - 1) (k + 1) y z hy (by rw [show k + 1 + (m - (k + 1) - 1) + 1 = m by omega]; exact hz)
        have h3 := hn y hy (by omega)
        omega
end Go.Ev
