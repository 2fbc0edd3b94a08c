import Derived.Test.YtepopmplcjhfbaaGreatEvN
set_option linter.unusedSectionVars false
set_option linter.unusedVariables false
set_option linter.unusedSimpArgs false
set_option linter.unnecessarySimpa false
namespace Go.Ev
open Go.RowKit
variable [Unk]
section
variable {P : Program} {G : Nat → Nat → Option AV} {orc : Nat → Option Orc}
def NoNG (P : Program) : Prop := ∀ (f : Nat) (fn : Func), P.funcs[f]? = some fn → (fn.name == "runtime.NumGoroutine") = false
theorem oCall_snd (hO : OrcSound P G orc) (hNG : NoNG P) (c : Call) : OpSnd P G orc (.call c) (oCall c) := by
  obtain ⟨callee, args, ts⟩ := c
  cases callee with
  | value f => exact oCallV_snd hO hNG f args ts
  | invoke a b => exact oNo_snd _
  | builtin b =>
    cases b <;> first
      | exact bLen_snd args ts
      | exact bCap_snd args ts
      | exact bMin_snd args ts
      | exact bAppend_snd args ts
      | exact recover_snd args ts
      | exact oNo_snd _
theorem aopF_snd (hO : OrcSound P G orc) (hNG : NoNG P) (op : Op) : OpSnd P G orc op (aopF op) := by
  cases op <;> first
    | exact oMove_snd _ _ (Or.inl rfl)
    | exact oMove_snd _ _ (Or.inr rfl)
    | exact oPick_snd _ _ _
    | exact oAlloc_snd _
    | exact oBox_snd _ _
    | exact oBuild_snd _ _
    | exact oBuildSlice_snd _ _ _
    | exact oInsert_snd _ _ _ _ _ (Or.inl rfl)
    | exact oInsert_snd _ _ _ _ _ (Or.inr rfl)
    | exact oLoad_snd _ _
    | exact oStore_snd _ _ _
    | exact oNilCheck_snd _
    | exact oBin_snd _ _ _ _ _
    | exact oUn_snd _ _ _
    | exact oConvert_snd _ _ _
    | exact oMakeInterface_snd _ _
    | exact oMakeFunc_snd _ _ _
    | exact oMakeMap_snd _ _
    | exact oMakeSlice_snd _ _ _
    | exact oSlice_snd _ _ _ _ _
    | exact oFieldAddr_snd _ _ _
    | exact oField_snd _ _ _
    | exact oIndexAddr_snd _ _ _
    | exact oIndex_snd _ _ _
    | exact oLookup_snd _ _ _ _
    | exact oRange_snd _ _
    | exact oNext_snd _ _
    | exact oExtract_snd _ _
    | exact oCall_snd hO hNG _
    | exact oDefer_snd _
    | exact oPanic_snd _
    | exact oAssert_snd _ _ _ _
    | exact oNo_snd _
end
end Go.Ev

