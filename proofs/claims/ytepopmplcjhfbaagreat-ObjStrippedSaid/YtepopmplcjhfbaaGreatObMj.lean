/- ObjStripped returns true at all objects (P3.11), as the row says it. -/
import Derived.Test.YtepopmplcjhfbaaGreatObHmm
import Derived.Test.YtepopmplcjhfbaaGreatObFr
import Derived.Test.YtepopmplcjhfbaaGreatRows
set_option linter.unusedSectionVars false
set_option linter.unusedVariables false
set_option linter.unusedSimpArgs false
set_option linter.unnecessarySimpa false
namespace Go.Proofs.YtepopmplcjhfbaaGreat
open Go.ChangeShapes Go.WideShapes Go.ChangeAt Go.RowKit Go.Ev
namespace ObjStripped

set_option maxRecDepth 100000 in
theorem lifted (os : Os) (started : os.Started) (H : Type) (enc : TypeId × Value → H) :
    ReturnsInHanded {} Tryz.checked os 13 .any (Rows.objStrippedSpec.pre6 enc Tryz.prog Tryz.f13 Rows.objStrippedRow.domain false)
      (Rows.objStrippedSpec.post enc Tryz.prog Tryz.f13 false true false false) := by
  refine handed_and_sized (C := Tryz.checked) ownT started (by kernel_rfl) Tryz.func13
    (ChangeSpec.witness_shaped (enc := enc) (C := Tryz.checked) (os := os) (X := fun _ _ => True) false (World.laidAll Tryz.prog os []) #[.agg #[.slice none 0 0, .slice none 0 0, .slice none 0 0, .slice none 0 0, .slice none 0 0]] 8 (World.laidAll_os _ _ _)
      (World.shaped_of_ZipB (by kernel_rfl) (by kernel_rfl)) (by kernel_rfl) (by kernel_rfl) (by kernel_rfl) trivial) ?_
  intro W base args ds gs before hval0 hW hsh hwt
  have hval : ∀ (j : Nat) t v, Tryz.f13.params[j]? = some t → args[j]? = some v → Value.okWide Tryz.prog W .any base t v := hval0
  have hW' := hW
  obtain ⟨p, q, hA0, hV, rfl, _, _⟩ := hW
  have hA : DataW.TrodAll enc Tryz.prog W 0 (fun _ => true) true Tryz.f13.params.toList args.toList ds p := hA0
  rw [Tryz.params13] at hA hval
  obtain ⟨v0, vs0, d0, ds0, p0, q0, ha, rfl, rfl, h0, hA⟩ := trodAll_cons hA
  obtain ⟨rfl, rfl, rfl⟩ := trodAll_nil hA
  obtain rfl : args = #[v0] := by
    apply Array.ext'
    exact ha
  obtain ⟨rfl, rfl⟩ := trodVars_none hV
  have hwt' : (DataW.weightsEach Tryz.prog (Tryz.f13.params.toList ++ Rows.objStrippedSpec.plain.varTypes Tryz.prog) ([d0] ++ [])).all (· ≤ reachBytes) = true := hwt
  rw [Tryz.params13] at hwt'
  obtain ⟨a, hO, hR, hC⟩ := open_objB (hval 0 28 v0 rfl rfl) h0 (fun k hk => by
    have := List.all_eq_true.1 hwt' k (DataW.weights_mem_each (j := 0) rfl rfl k hk)
    simpa using this)
  exact law_end rfl (by kernel_rfl) (fun b => by kernel_rfl) (by kernel_rfl) hW' rfl rfl (stripped_calls hO hR (C := secStr W) (fun x hx => secStr_in (hC x hx)))

theorem named : Tryz.pinned.checked.prog.funcNamed Rows.objStrippedRow.func = some 13 := by kernel_rfl
theorem facts : joinedFacts Tryz.pinned.checked.prog 13 Tryz.f13 Rows.objStrippedSpec Rows.objStrippedRow = true := by kernel_rfl
theorem holds : Rows.ObjStrippedSaid :=
  OpenClaim.holds_of_wide 13 Tryz.f13 rfl rfl rfl rfl rfl rfl rfl ⟨rfl, rfl, rfl, rfl, rfl⟩ rfl rfl rfl rfl rfl named Tryz.func13 facts
    (of_decide_eq_true (by kernel_rfl)) (by unfold Func.isWrapper; first | (rw [if_pos (by decide +kernel)]; kernel_rfl) | (rw [if_neg (by decide +kernel)]; exact ⟨rfl, rfl⟩))
    (fun os started H enc _ => lifted os started H enc)
end ObjStripped
theorem objStripped_holds : Rows.ObjStrippedSaid := ObjStripped.holds
#print axioms objStripped_holds
end Go.Proofs.YtepopmplcjhfbaaGreat
