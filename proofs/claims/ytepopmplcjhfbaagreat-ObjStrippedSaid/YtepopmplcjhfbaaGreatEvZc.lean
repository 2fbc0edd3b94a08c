import Derived.Test.YtepopmplcjhfbaaGreatEvZb
set_option linter.unusedSectionVars false
set_option linter.unusedVariables false
set_option linter.unusedSimpArgs false
set_option linter.unnecessarySimpa false
namespace Go.Ev
open Go.RowKit

theorem run_entersP {P : Program} {f : Nat} (h : ∃ fn c, P.funcs[f]? = some fn ∧ (fn.name == "runtime.NumGoroutine") = false ∧ fn.body = some c) (args : Array Value) (w : World) : (callFunc f args).run P w = .ok (.enter f args) w := by
  obtain ⟨fn, c, h1, h2, h3⟩ := h
  have hne : ¬ fn.name = "runtime.NumGoroutine" := by simpa using h2
  simp [callFunc, h1, hne, h3]

section
variable [Unk]
/-- Values without blocks whose bounds hold. -/
def Good1 : AV → Prop
  | .bool _ => True
  | .int _ _ => True
  | .str _ => True
  | .lin _ _ _ bs => Lin.Within Unk.s bs 0
  | _ => False
def GoodS : List AV → Prop
  | [] => True
  | a :: l => Good1 a ∧ GoodS l
def Good : AV → Prop
  | .agg l => GoodS l
  | a => Good1 a
theorem vr_of_den1 {ρ : Rho} {a : AV} {v : Value} (hg : Good1 a) (hd : Den1 a v) : VR ρ a v := by
  cases a <;> first
    | exact hg.elim
    | (obtain ⟨s, rfl, hs⟩ := hd; exact .str _ _ hs)
    | (cases hd; first | exact .bool _ | exact .int _ _ | exact .lin _ _ _ _ _ rfl hg)
theorem vrs_of_denS {ρ : Rho} : ∀ {l : List AV} {vs : List Value}, GoodS l → DenS l vs → VRs ρ l vs
  | [], [], _, _ => .nil
  | [], _ :: _, _, h => h.elim
  | _ :: _, [], _, h => h.elim
  | _ :: _, _ :: _, hg, hd => .cons _ _ _ _ (vr_of_den1 hg.1 hd.1) (vrs_of_denS hg.2 hd.2)
/-- A value that two plain forms stand for is one. -/
theorem den1_unique {a : AV} {u v : Value} (h : Den1 a u) (h' : Den1 a v) : u = v := by
  cases a <;> first
    | exact h.elim
    | (obtain ⟨s, rfl, hs⟩ := h; obtain ⟨t, rfl, ht⟩ := h'; rw [show s = t from ByteArray.ext (Array.toList_inj.1 ((List.map_inj_right fun _ _ => UInt8.toNat_inj.1).1 (hs.trans ht.symm)))])
    | exact (show u = _ from h).trans (show v = _ from h').symm
theorem denS_unique : ∀ {l : List AV} {us vs : List Value}, DenS l us → DenS l vs → us = vs
  | [], [], [], _, _ => rfl
  | [], _ :: _, _, h, _ => h.elim
  | [], [], _ :: _, _, h => h.elim
  | _ :: _, [], _, h, _ => h.elim
  | _ :: _, _ :: _, [], _, h => h.elim
  | _ :: _, _ :: _, _ :: _, h, h' => by rw [den1_unique h.1 h'.1, denS_unique h.2 h'.2]
theorem den_cases {a : AV} {v : Value} (h : Den a v) : Den1 a v ∨ ∃ l cs, a = .agg l ∧ v = .agg cs ∧ DenS l cs.toList := by
  unfold Den at h
  split at h
  · obtain ⟨cs, rfl, hs⟩ := h
    exact .inr ⟨_, cs, rfl, rfl, hs⟩
  · exact .inl h
theorem den_unique {a : AV} {u v : Value} (h : Den a u) (h' : Den a v) : u = v := by
  rcases den_cases h with h | ⟨l, cs, rfl, rfl, hs⟩
  · rcases den_cases h' with h' | ⟨l, cs, rfl, rfl, hs⟩
    · exact den1_unique h h'
    · exact h.elim
  · rcases den_cases h' with h' | ⟨l', ds, e, rfl, hd⟩
    · exact h'.elim
    · cases e
      rw [show cs = ds from Array.toList_inj.1 (denS_unique hs hd)]
theorem vr_of_den {ρ : Rho} {a : AV} {v : Value} (hg : Good a) (hd : Den a v) : VR ρ a v := by
  rcases den_cases hd with h | ⟨l, cs, rfl, rfl, hs⟩
  · unfold Good at hg
    split at hg
    · exact h.elim
    · exact vr_of_den1 hg h
  · exact .agg _ _ (vrs_of_denS hg hs)
theorem denL_unique : ∀ {l : List AV} {us vs : List Value}, DenL l us → DenL l vs → us = vs
  | [], [], [], _, _ => rfl
  | [], _ :: _, _, h, _ => h.elim
  | [], [], _ :: _, _, h => h.elim
  | _ :: _, [], _, h, _ => h.elim
  | _ :: _, _ :: _, [], _, h => h.elim
  | _ :: _, _ :: _, _ :: _, h, h' => by rw [den_unique h.1 h'.1, denL_unique h.2 h'.2]

variable {P : Program} {G : Nat → Nat → Option AV} {orc : Nat → Option Orc}
def HasBody (P : Program) (f : Nat) : Prop := ∃ fn c, P.funcs[f]? = some fn ∧ (fn.name == "runtime.NumGoroutine") = false ∧ fn.body = some c
/-- What a row says: called at these values, in a world with these globals, f returns this value; what was there stays as it was. -/
def RowOK (P : Program) (G : Nat → Nat → Option AV) (f : Nat) (pat : List AV) (v : AV) : Prop :=
  ∀ w vs, Globals G w → DenL pat vs → Calls P f vs.toArray w fun e w' => ∃ u, e = .returned u ∧ (∀ ρ, VR ρ v u) ∧ Below w.heap.size w w'
theorem orcSound_given (h : ∀ f oc, orc f = some oc → ∃ rows, oc = .given rows ∧ HasBody P f ∧ ∀ pat v, (pat, v) ∈ rows → RowOK P G f pat v) : OrcSound P G orc := by
  intro f oc H avs v hf hv ρ nx lo N w vs hI hvs
  obtain ⟨rows, rfl, hb, hr⟩ := h f oc hf
  obtain ⟨pat, hm, he⟩ := hv
  refine .inr ⟨run_entersP hb _ _, ?_⟩
  have hG : Globals G w := fun g off a e => by
    obtain ⟨h1, h2⟩ := hI.glob g off a e
    exact ⟨Nat.lt_of_lt_of_le h1 hI.size, h2⟩
  refine Calls.mono (hr pat v hm w vs hG (avEqL_den he hvs)) fun e w' h => ?_
  obtain ⟨u, rfl, h1, h2⟩ := h
  exact ⟨u, rfl, h1 ρ, h2⟩
/-- The end is a return of this plain value. -/
def isRet (a : AV) : AEnd → Bool
  | .ret v => avEq v a
  | _ => false
theorem rowOK_of_eval (hO : OrcSound P G orc) (hNG : NoNG P) (hmix : P.follows .mixedOrders = true) {fuel f : Nat} {args : List AV} {v : AV} (h : evalA P G orc fuel f args (isRet v) = true) {vs : List Value} (hv : VRs (fun _ => none) args vs) (hg : Good v)
    {w : World} (hG : Globals G w) : Calls P f vs.toArray w fun e w' => ∃ u, e = .returned u ∧ Den v u ∧ (∀ ρ, VR ρ v u) ∧ Below w.heap.size w w' := by
  obtain ⟨e, he, hc⟩ := evalA_true hO hNG hmix h hv hG
  unfold isRet at he
  split at he
  · refine Calls.mono hc fun e' w' h => ?_
    obtain ⟨hb, ρ', hr⟩ := h
    cases e' with
    | returned u =>
      have := avEq_den he hr
      exact ⟨u, rfl, this, fun ρ => vr_of_den hg this, hb⟩
    | panicked c => exact hr.elim
    | outgrown => exact hr.elim
  · cases he
end
end Go.Ev
