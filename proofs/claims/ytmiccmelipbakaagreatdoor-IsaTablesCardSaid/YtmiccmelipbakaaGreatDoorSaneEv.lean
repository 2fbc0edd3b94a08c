import Derived.Test.YtmiccmelipbakaaGreatDoorEvZb
import Derived.KernelRfl
import Derived.Test.YtmiccmelipbakaaGreatDoorProg
set_option linter.unusedSectionVars false
set_option linter.unusedVariables false
set_option linter.unusedSimpArgs false
namespace Go.Ev
open Go.RowKit Go.Proofs
/-- The functions whose contracts are given from outside of the evaluator. -/
noncomputable def orc1 (f : Nat) : Option Orc := match Nat.beq f 70 with | true => some .join | false => match Nat.beq f 148 with | true => some .index | false => match Nat.beq f 188 with | true => some .indexByte | false => none
def tab64 : List Nat := [0, 1, 56, 2, 57, 49, 28, 3, 61, 58, 42, 50, 38, 29, 17, 4, 62, 47, 59, 36, 45, 43, 51, 22, 53, 39, 33, 30, 24, 18, 12, 5, 63, 55, 48, 27, 60, 41, 37, 16, 46, 35, 44, 21, 52, 32, 23, 11, 54, 26, 40, 15, 34, 20, 31, 10, 25, 14, 19, 9, 13, 8, 7, 6]
noncomputable def G1 (m : Int) (g off : Nat) : Option AV := match Nat.beq g 7 with
  | true => (match nth tab64 off with | some n => some (.int .u8 (.ofNat n)) | none => none)
  | false => match Nat.beq g 0 with
    | true => (match Nat.beq off 0 with | true => some (.int .i64 m) | false => none)
    | false => none
def isTrue : AEnd → Bool
  | .ret (.bool true) => true
  | _ => false
theorem mix1 : Tryz.prog.follows .mixedOrders = true := by kernel_rfl
theorem ng1 : (Tryz.prog.funcs.toList.all fun fn => !(fn.name == "runtime.NumGoroutine")) = true := by kernel_rfl
theorem noNG1 : NoNG Tryz.prog := fun f fn h => by
  have := List.all_eq_true.1 ng1 fn (by
    have := Array.mem_of_getElem? h
    simpa using this)
  simpa using this
set_option maxRecDepth 1000000 in
theorem sane_ev (m : Int) : evalB Tryz.prog (G1 m) orc1 1000000 15 isTrue = true := by kernel_rfl
theorem sane_calls [Unk] {m : Int} (hO : OrcSound Tryz.prog (G1 m) orc1) {w : World} (hG : Globals (G1 m) w) :
    Calls Tryz.prog 15 #[] w fun e w' => e = .returned (.bool true) ∧ Below w.heap.size w w' := by
  obtain ⟨e, he, hc⟩ := evalB_true hO noNG1 mix1 (sane_ev m) hG
  refine Calls.mono hc fun e' w' h => ?_
  obtain ⟨hb, ρ, hr⟩ := h
  unfold isTrue at he
  split at he
  · cases e' with
    | returned v => cases hr; exact ⟨rfl, hb⟩
    | panicked c => exact hr.elim
    | outgrown => exact hr.elim
  · cases he
end Go.Ev
