import Derived.Test.YtepopmplcjhfbaaGreatEvZc
import Derived.KernelRfl
import Derived.Test.YtepopmplcjhfbaaGreatProg
set_option linter.unusedSectionVars false
set_option linter.unusedVariables false
set_option linter.unusedSimpArgs false
set_option linter.unnecessarySimpa false
/-
  Stage 3: the document's examples hold.
-/
namespace Go.Ev
open Go.RowKit Go.Proofs
noncomputable def orc0 (_ : Nat) : Option Orc := none
noncomputable def G0 (_ _ : Nat) : Option AV := none
def isTrue : AEnd → Bool
  | .ret (.bool true) => true
  | _ => false
theorem mix1 : Tryz.prog.follows .mixedOrders = true := by kernel_rfl
theorem ng1 : (Tryz.prog.funcs.toList.all fun fn => !(fn.name == "runtime.NumGoroutine")) = true := by kernel_rfl
theorem noNG1 : NoNG Tryz.prog := fun f fn h => by
  have := List.all_eq_true.1 ng1 fn (by
    have := Array.mem_of_getElem? h
    simpa using this)
  simpa using this
set_option maxRecDepth 1000000 in
theorem sane_ev : evalB Tryz.prog G0 orc0 1000000 15 isTrue = true := by kernel_rfl
theorem orc0_snd [Unk] : OrcSound Tryz.prog G0 orc0 := orcSound_given fun f oc hf => by cases hf
theorem glob0 [Unk] (w : World) : Globals G0 w := fun g off a e => by cases e
theorem sane_calls (w : World) : Calls Tryz.prog 15 #[] w fun e w' => e = .returned (.bool true) ∧ Below w.heap.size w w' := by
  letI : Unk := Unk.mk fun _ => 0
  obtain ⟨e, he, hc⟩ := evalB_true orc0_snd noNG1 mix1 sane_ev (glob0 w)
  refine Calls.mono hc fun e' w' h => ?_
  obtain ⟨hb, ρ, hr⟩ := h
  unfold isTrue at he
  split at he
  · cases e' with
    | returned v => cases hr; exact ⟨rfl, hb⟩
    | panicked c => exact hr.elim
    | outgrown => exact hr.elim
  · cases he
end Go.Ev
