import Derived.Test.YtepopmplcjhfbaaGreatEvZb
set_option linter.unusedSectionVars false
set_option linter.unusedVariables false
set_option linter.unusedSimpArgs false
set_option linter.unnecessarySimpa false
namespace Go.Ev
open Go.RowKit
theorem run_entersP {P : Program} {f : Nat} (h : ∃ fn c, P.funcs[f]? = some fn ∧ (fn.name == "runtime.NumGoroutine") = false ∧ fn.body = some c) (args : Array Value) (w : World) : (callFunc f args).run P w = .ok (.enter f args) w := by
  obtain ⟨fn, c, h1, h2, h3⟩ := h
  have hne : ¬ fn.name = "runtime.NumGoroutine" := by simpa using h2
  simp [callFunc, h1, hne, h3]
section
variable [Unk]
def Good1 : AV → Prop
  | .bool _ => True
  | .int _ _ => True
  | .str _ => True
  | .lin _ _ _ bs => Lin.Within Unk.s bs 0
  | _ => False
def GoodS : List AV → Prop
  | [] => True
  | a :: l => Good1 a ∧ GoodS l
def Good : AV → Prop
  | .agg l => GoodS l
  | a => Good1 a
variable {P : Program} {G : Nat → Nat → Option AV} {orc : Nat → Option Orc}
def HasBody (P : Program) (f : Nat) : Prop := ∃ fn c, P.funcs[f]? = some fn ∧ (fn.name == "runtime.NumGoroutine") = false ∧ fn.body = some c
def RowOK (P : Program) (G : Nat → Nat → Option AV) (f : Nat) (pat : List AV) (v : AV) : Prop :=
  ∀ w vs, Globals G w → DenL pat vs → Calls P f vs.toArray w fun e w' => ∃ u, e = .returned u ∧ (∀ ρ, VR ρ v u) ∧ Below w.heap.size w w'
theorem orcSound_given (h : ∀ f oc, orc f = some oc → ∃ rows, oc = .given rows ∧ HasBody P f ∧ ∀ pat v, (pat, v) ∈ rows → RowOK P G f pat v) : OrcSound P G orc := by
  intro f oc H avs v hf hv ρ nx lo N w vs hI hvs
  obtain ⟨rows, rfl, hb, hr⟩ := h f oc hf
  obtain ⟨pat, hm, he⟩ := hv
  refine .inr ⟨run_entersP hb _ _, ?_⟩
  have hG : Globals G w := fun g off a e => by
    obtain ⟨h1, h2⟩ := hI.glob g off a e
    exact ⟨Nat.lt_of_lt_of_le h1 hI.size, h2⟩
  refine Calls.mono (hr pat v hm w vs hG (avEqL_den he hvs)) fun e w' h => ?_
  obtain ⟨u, rfl, h1, h2⟩ := h
  exact ⟨u, rfl, h1 ρ, h2⟩
def isRet (a : AV) : AEnd → Bool
  | .ret v => avEq v a
  | _ => false
end
end Go.Ev

