/- IsaCodes returns true at all instructions and all slices of bytes (P1.1), as the tied card says it: the listed package-level variables read as the program's text lays them. -/
import Derived.Test.YtecebagkbjimmaaGreatDoorIsaCoAO
import Derived.Test.YtecebagkbjimmaaGreatDoorIsaFr
import Derived.Test.YtecebagkbjimmaaGreatDoorTie
import Derived.Test.YtecebagkbjimmaaGreatDoorCards
set_option linter.unusedSectionVars false
set_option linter.unusedVariables false
set_option linter.unusedSimpArgs false
namespace Go.Proofs.YtecebagkbjimmaaGreatDoor
open Go.ChangeShapes Go.WideShapes Go.ChangeAt Go.RowKit Go.Ev
namespace IsaCodes

set_option maxRecDepth 100000 in
theorem lifted (os : Os) (started : os.Started) (H : Type) (enc : TypeId × Value → H) :
    ReturnsInHanded {} Tryz.checked os 3 .any (fun w args => (Rows.isaCodesSpec.pre enc Tryz.prog Tryz.f3 [] false w args ∧ laidMetH Tryz.prog Rows.isaCodesRow.laid w) ∧ sizedMet enc Tryz.prog Tryz.f3 (OpenSpec.ofChange Rows.isaCodesSpec) false w args)
      (Rows.isaCodesSpec.post enc Tryz.prog Tryz.f3 false true false false) := by
  refine handed_and_shaped (C := Tryz.checked) (X := fun w _ => laidMetH Tryz.prog Rows.isaCodesRow.laid w) (fun _ _ _ hh h => h.of_heap hh) ownT started (by kernel_rfl) Tryz.func3
    (ChangeSpec.witness_shaped (enc := enc) (C := Tryz.checked) (os := os) (X := fun w _ => laidMetH Tryz.prog Rows.isaCodesRow.laid w) false (World.laidAll Tryz.prog os Rows.isaCodesRow.laid) #[insnV 0 0 0 0 0 0 0, .slice none 0 0] 8 (World.laidAll_os _ _ _)
      (World.shaped_of_ZipB (by kernel_rfl) (by kernel_rfl)) (by kernel_rfl) (by kernel_rfl) (by kernel_rfl)
      (by rw [MakeChecks.laidMetH_plain _ _ _ (by kernel_rfl)]; exact laidMet_laidAll _ (by kernel_rfl) (by kernel_rfl))) ?_
  intro W base args ds gs before hval0 hW hsh hL
  have hval : ∀ (j : Nat) t v, Tryz.f3.params[j]? = some t → args[j]? = some v → Value.okWide Tryz.prog W .any base t v := hval0
  have hW' := hW
  obtain ⟨p, q, hA0, hV, rfl, _, _⟩ := hW
  have hA : DataW.TrodAll enc Tryz.prog W 0 (fun _ => true) true Tryz.f3.params.toList args.toList ds p := hA0
  rw [Tryz.params3] at hA hval
  obtain ⟨v0, v1, d0, d1, p0, p1, rfl, rfl, rfl, h0, h1⟩ := trodAll_two hA
  obtain ⟨rfl, rfl⟩ := trodVars_none hV
  obtain ⟨m, hG⟩ := glob_row (show Tryz.prog.globalNamed (Rows.isaCodesRow.laid[1]).1 = some 7 by kernel_rfl) (fun h => by rw [MakeChecks.laidMetH_plain _ _ _ (by kernel_rfl)] at h; exact h) (.tail _ (.head _)) hL hsh
  obtain ⟨o0, a0, b0, c0, d0', k0, i0, rfl, r00, r01, r02, r03, r04, r05, r06⟩ := open_insn (hval 0 24 v0 rfl rfl) h0
  have u1 := open_u8s (hval 1 25 v1 rfl rfl) h1
  obtain ⟨x, hx⟩ := isX_some ⟨r00, r01, r02, r03, r04, r05, r06⟩
  rcases u1 with rfl | ⟨blk, off, n, cap, xs, rfl, hle, hcap, hlen, hcell, hin⟩
  · exact law_end rfl (by kernel_rfl) (fun b => by kernel_rfl) (by kernel_rfl) hW' rfl rfl (codes_nil hG hx)
  · exact law_end rfl (by kernel_rfl) (fun b => by kernel_rfl) (by kernel_rfl) hW' rfl rfl (codes_calls hG hx hle hcap hlen hcell hin)

theorem holds : Rows.IsaCodesSaid :=
  OpenClaim.holds_of_wide 3 Tryz.f3 rfl rfl rfl rfl rfl rfl rfl ⟨rfl, rfl, rfl, rfl, rfl⟩ rfl rfl rfl rfl rfl (by kernel_rfl) Tryz.func3 (by kernel_rfl)
    (of_decide_eq_true (by kernel_rfl)) (by unfold Func.isWrapper; first | (rw [if_pos (by decide +kernel)]; kernel_rfl) | (rw [if_neg (by decide +kernel)]; exact ⟨rfl, rfl⟩))
    (fun os started H enc _ => lifted os started H enc)
end IsaCodes
theorem isaCodes_card_holds : Rows.IsaCodesCardSaid :=
  Claim7.holds_tied_plain_at .later [] [.data, .data, .data, .data, .sentinel, .sentinel, .pinned] true (true, "9d41e12e891b35596871435f118a6c22c40ee310617d78ede83837bcc766437d") true
    IsaCodes.holds (fun _ h => by cases h) (by kernel_rfl) (fun _ h => by cases h) isaCodes_row_tie rfl ⟨rfl, rfl⟩ (by kernel_rfl) rfl
    (fun f fn hf hfn => by
      obtain rfl : f = 3 := Option.some.inj ((show Tryz.prog.funcNamed Rows.isaCodesRow.func = some 3 by kernel_rfl).symm.trans hf) |>.symm
      obtain rfl : fn = Tryz.f3 := (Option.some.inj (Tryz.func3.symm.trans hfn)).symm
      exact ⟨by kernel_rfl, fun j t ht => by
        rw [Tryz.params3] at ht
        have hm : t ∈ [24, 25] := by simpa using Array.mem_of_getElem? ht
        have hall : ([24, 25].all fun u => !Tryz.prog.wantsStandIn u) = true := by kernel_rfl
        exact (show Tryz.prog.wantsStandIn t = false by simpa using List.all_eq_true.1 hall t hm)⟩)
    (by kernel_rfl)
#print axioms isaCodes_card_holds
end Go.Proofs.YtecebagkbjimmaaGreatDoor
