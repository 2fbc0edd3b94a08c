/- ObjChecks returns true at all pairs of objects (P3.1), as the row says it. -/
import Derived.Test.YtepopmplcjhfbaaGreatObHly
import Derived.Test.YtepopmplcjhfbaaGreatObHly
import Derived.Test.YtepopmplcjhfbaaGreatObFr
import Derived.Test.YtepopmplcjhfbaaGreatRows
set_option linter.unusedSectionVars false
set_option linter.unusedVariables false
set_option linter.unusedSimpArgs false
set_option linter.unnecessarySimpa false
namespace Go.Proofs.YtepopmplcjhfbaaGreat
open Go.ChangeShapes Go.WideShapes Go.ChangeAt Go.RowKit Go.Ev
namespace ObjChecks

set_option maxRecDepth 100000 in
theorem lifted (os : Os) (started : os.Started) (H : Type) (enc : TypeId × Value → H) :
    ReturnsInHanded {} Tryz.checked os 3 .any (Rows.objChecksSpec.pre6 enc Tryz.prog Tryz.f3 Rows.objChecksRow.domain false)
      (Rows.objChecksSpec.post enc Tryz.prog Tryz.f3 false true false false) := by
  refine handed_and_sized (C := Tryz.checked) ownT started (by kernel_rfl) Tryz.func3
    (ChangeSpec.witness_shaped (enc := enc) (C := Tryz.checked) (os := os) (X := fun _ _ => True) false (World.laidAll Tryz.prog os []) #[.agg #[.slice none 0 0, .slice none 0 0, .slice none 0 0, .slice none 0 0, .slice none 0 0], .agg #[.slice none 0 0, .slice none 0 0, .slice none 0 0, .slice none 0 0, .slice none 0 0]] 8 (World.laidAll_os _ _ _)
      (World.shaped_of_ZipB (by kernel_rfl) (by kernel_rfl)) (by kernel_rfl) (by kernel_rfl) (by kernel_rfl) trivial) ?_
  intro W base args ds gs before hval0 hW hsh hwt
  have hval : ∀ (j : Nat) t v, Tryz.f3.params[j]? = some t → args[j]? = some v → Value.okWide Tryz.prog W .any base t v := hval0
  have hW' := hW
  obtain ⟨p, q, hA0, hV, rfl, _, _⟩ := hW
  have hA : DataW.TrodAll enc Tryz.prog W 0 (fun _ => true) true Tryz.f3.params.toList args.toList ds p := hA0
  rw [Tryz.params3] at hA hval
  obtain ⟨v0, vs0, d0, ds0, p0, q0, ha, rfl, rfl, h0, hA⟩ := trodAll_cons hA
  obtain ⟨v1, vs1, d1, ds1, p1, q1, rfl, rfl, rfl, h1, hA⟩ := trodAll_cons hA
  obtain ⟨rfl, rfl, rfl⟩ := trodAll_nil hA
  obtain rfl : args = #[v0, v1] := by
    apply Array.ext'
    exact ha
  obtain ⟨rfl, rfl⟩ := trodVars_none hV
  have hwt' : (DataW.weightsEach Tryz.prog (Tryz.f3.params.toList ++ Rows.objChecksSpec.plain.varTypes Tryz.prog) ([d0, d1] ++ [])).all (· ≤ reachBytes) = true := hwt
  rw [Tryz.params3] at hwt'
  obtain ⟨a, hO, hR, hC⟩ := open_objB (hval 0 28 v0 rfl rfl) h0 (fun k hk => by
    have := List.all_eq_true.1 hwt' k (DataW.weights_mem_each (j := 0) rfl rfl k hk)
    simpa using this)
  obtain ⟨b, hO', hR', hC'⟩ := open_objB (hval 1 28 v1 rfl rfl) h1 (fun k hk => by
    have := List.all_eq_true.1 hwt' k (DataW.weights_mem_each (j := 1) rfl rfl k hk)
    simpa using this)
  exact law_end rfl (by kernel_rfl) (fun b => by kernel_rfl) (by kernel_rfl) hW' rfl rfl (checks_calls hO hO' hR hR' (C := secStr W) (fun x hx => secStr_in (hC x hx)) (fun x hx => secStr_in (hC' x hx)))

theorem named : Tryz.pinned.checked.prog.funcNamed Rows.objChecksRow.func = some 3 := by kernel_rfl
theorem facts : joinedFacts Tryz.pinned.checked.prog 3 Tryz.f3 Rows.objChecksSpec Rows.objChecksRow = true := by kernel_rfl
theorem holds : Rows.ObjChecksSaid :=
  OpenClaim.holds_of_wide 3 Tryz.f3 rfl rfl rfl rfl rfl rfl rfl ⟨rfl, rfl, rfl, rfl, rfl⟩ rfl rfl rfl rfl rfl named Tryz.func3 facts
    (of_decide_eq_true (by kernel_rfl)) (by unfold Func.isWrapper; first | (rw [if_pos (by decide +kernel)]; kernel_rfl) | (rw [if_neg (by decide +kernel)]; exact ⟨rfl, rfl⟩))
    (fun os started H enc _ => lifted os started H enc)
end ObjChecks
theorem objChecks_holds : Rows.ObjChecksSaid := ObjChecks.holds
#print axioms objChecks_holds
end Go.Proofs.YtepopmplcjhfbaaGreat
