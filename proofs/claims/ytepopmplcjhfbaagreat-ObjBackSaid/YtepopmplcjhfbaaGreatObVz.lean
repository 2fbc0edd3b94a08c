/- ObjBack returns true at all objects and all slices of bytes (P3.5), as the row says it. -/
import Derived.Test.YtepopmplcjhfbaaGreatObG21
import Derived.Test.YtepopmplcjhfbaaGreatObG11
import Derived.Test.YtepopmplcjhfbaaGreatRows
set_option linter.unusedSectionVars false
set_option linter.unusedVariables false
set_option linter.unusedSimpArgs false
set_option linter.unnecessarySimpa false
namespace Go.Proofs.YtepopmplcjhfbaaGreat
open Go.ChangeShapes Go.WideShapes Go.ChangeAt Go.RowKit Go.Ev Go.Rw
namespace ObjBack
set_option maxRecDepth 100000 in
/-- A slice of bytes as an argument, with its reach and its range. -/
theorem open_bytesB {H : Type} {enc : TypeId × Value → H} {W : World} {r : Go.Reach} {b0 : Nat} {v : Value} {d : DataW H} {p : List MemPlace} (hv : Value.okWide Tryz.prog W r b0 34 v) (h : DataW.Trod enc Tryz.prog W 0 (fun _ => true) true 34 v d p)
    (hsz : ∀ elems spare, d = .slice elems spare → (elems.length + spare.length) * Tryz.prog.bytesOf 5 ≤ reachBytes) :
    ∃ (a : Option Addr) (n cap : Nat) (q : Nat → Int), v = .slice a n cap ∧ BytesAt W a n q ∧ n ≤ cap ∧ cap ≤ 140737488351232 ∧ ∀ j, InB (q j) := by
  obtain ⟨a0, len, cap, rfl⟩ := okWide_slice Tryz.underlying34 hv
  obtain ⟨fuel, hf⟩ := h
  rcases open_ints Tryz.underlying34 Tryz.underlying5 cells5 hf with ⟨hcs, _⟩ | ⟨a, len', cap', zs, hcs, _, hl, hm, hz, hd, hcell, hwz⟩
  · simp [Value.cells] at hcs
    obtain ⟨rfl, rfl, rfl⟩ := hcs
    exact ⟨none, 0, 0, fun _ => 0, rfl, .inl ⟨rfl, rfl⟩, Nat.le_refl _, by omega, fun _ => ⟨Int.le_refl _, by show (0 : Int) ≤ 255; omega⟩⟩
  · simp [Value.cells] at hcs
    obtain ⟨rfl, rfl, rfl⟩ := hcs
    obtain ⟨blk, off, spot⟩ := a
    have hs : spot = none := by
      unfold Value.okWide at hv
      rw [Tryz.underlying34] at hv
      unfold Cell.okWide at hv
      rw [Tryz.underlying34] at hv
      unfold Cell.ok at hv
      rw [Tryz.underlying34] at hv
      exact hv.2.2.2.1
    subst hs
    simp only [if_true] at hz
    have hr := hsz _ _ (Prod.mk.inj hd).1
    rw [bytes5] at hr
    simp only [lits, List.length_map, List.length_take, List.length_drop] at hr
    have hr : (min len zs.length + (zs.length - len)) * 1 ≤ 140737488351232 := hr
    have hin : ∀ j, InB (zs.getD j 0) := fun j => by
      by_cases h : j < zs.length
      · have : zs.getD j 0 = zs[j] := by simp [List.getD, h]
        rw [this]
        have := hwz _ (List.getElem_mem h)
        simpa [Lit.wf, IntKind.min, IntKind.max, IntKind.signed, IntKind.bits, InB] using this
      · have : zs.getD j 0 = 0 := by simp [List.getD, List.getElem?_eq_none (Nat.le_of_not_lt h)]
        rw [this]
        exact ⟨Int.le_refl _, by omega⟩
    exact ⟨_, len, cap, fun j => zs.getD j 0, rfl, .inr ⟨blk, off, rfl, fun j hj => by rw [← hcell j (by omega), cell_add]⟩, hl, by omega, hin⟩
set_option maxRecDepth 100000 in
theorem lifted (os : Os) (started : os.Started) (H : Type) (enc : TypeId × Value → H) :
    ReturnsInHanded {} Tryz.checked os 7 .any (Rows.objBackSpec.pre6 enc Tryz.prog Tryz.f7 Rows.objBackRow.domain false)
      (Rows.objBackSpec.post enc Tryz.prog Tryz.f7 false true false false) := by
  refine handed_and_sized (C := Tryz.checked) ownT started (by kernel_rfl) Tryz.func7
    (ChangeSpec.witness_shaped (enc := enc) (C := Tryz.checked) (os := os) (X := fun _ _ => True) false (World.laidAll Tryz.prog os []) #[.agg #[.slice none 0 0, .slice none 0 0, .slice none 0 0, .slice none 0 0, .slice none 0 0], .slice none 0 0] 8 (World.laidAll_os _ _ _)
      (World.shaped_of_ZipB (by kernel_rfl) (by kernel_rfl)) (by kernel_rfl) (by kernel_rfl) (by kernel_rfl) trivial) ?_
  intro W base args ds gs before hval0 hW hsh hwt
  have hval : ∀ (j : Nat) t v, Tryz.f7.params[j]? = some t → args[j]? = some v → Value.okWide Tryz.prog W .any base t v := hval0
  have hW' := hW
  obtain ⟨p, q, hA0, hV, rfl, _, _⟩ := hW
  have hA : DataW.TrodAll enc Tryz.prog W 0 (fun _ => true) true Tryz.f7.params.toList args.toList ds p := hA0
  rw [Tryz.params7] at hA hval
  obtain ⟨v0, vs0, d0, ds0, p0, q0, ha, rfl, rfl, h0, hA⟩ := trodAll_cons hA
  obtain ⟨v1, vs1, d1, ds1, p1, q1, rfl, rfl, rfl, h1, hA⟩ := trodAll_cons hA
  obtain ⟨rfl, rfl, rfl⟩ := trodAll_nil hA
  obtain rfl : args = #[v0, v1] := by
    apply Array.ext'
    exact ha
  obtain ⟨rfl, rfl⟩ := trodVars_none hV
  have hwt' : (DataW.weightsEach Tryz.prog (Tryz.f7.params.toList ++ Rows.objBackSpec.plain.varTypes Tryz.prog) ([d0, d1] ++ [])).all (· ≤ reachBytes) = true := hwt
  rw [Tryz.params7] at hwt'
  obtain ⟨o, hO, hR, hC⟩ := open_objB (hval 0 28 v0 rfl rfl) h0 (fun k hk => by
    have := List.all_eq_true.1 hwt' k (DataW.weights_mem_each (j := 0) rfl rfl k hk)
    simpa using this)
  obtain ⟨a, n, cap, q, rfl, hb, hle, hcap, hz⟩ := open_bytesB (hval 1 34 v1 rfl rfl) h1 (fun el sp hd => by subst hd; exact sized_slice (j := 1) hwt' rfl rfl Tryz.underlying34)
  exact law_end rfl (by kernel_rfl) (fun b => by kernel_rfl) (by kernel_rfl) hW' rfl rfl (back_calls hO hR (C := secStr W) (fun x hx => secStr_in (hC x hx)) hb hz hle hcap)
theorem named : Tryz.pinned.checked.prog.funcNamed Rows.objBackRow.func = some 7 := by kernel_rfl
theorem facts : joinedFacts Tryz.pinned.checked.prog 7 Tryz.f7 Rows.objBackSpec Rows.objBackRow = true := by kernel_rfl
theorem holds : Rows.ObjBackSaid :=
  OpenClaim.holds_of_wide 7 Tryz.f7 rfl rfl rfl rfl rfl rfl rfl ⟨rfl, rfl, rfl, rfl, rfl⟩ rfl rfl rfl rfl rfl named Tryz.func7 facts
    (of_decide_eq_true (by kernel_rfl)) (by unfold Func.isWrapper; first | (rw [if_pos (by decide +kernel)]; kernel_rfl) | (rw [if_neg (by decide +kernel)]; exact ⟨rfl, rfl⟩))
    (fun os started H enc _ => lifted os started H enc)
end ObjBack
theorem objBack_holds : Rows.ObjBackSaid := ObjBack.holds
#print axioms objBack_holds
end Go.Proofs.YtepopmplcjhfbaaGreat

