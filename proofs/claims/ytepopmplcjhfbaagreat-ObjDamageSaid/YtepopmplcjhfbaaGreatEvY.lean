import Derived.Test.YtepopmplcjhfbaaGreatEvX
set_option linter.unusedSectionVars false
set_option linter.unusedVariables false
set_option linter.unusedSimpArgs false
set_option linter.unnecessarySimpa false
namespace Go.Ev
open Go.RowKit
variable [Unk]
section
variable {P : Program} {G : Nat → Nat → Option AV} {orc : Nat → Option Orc} {ec : Nat → Nat → List AV → Heap → Nat → (AEnd → Heap → Nat → Bool) → Bool}
theorem hasN_false {n : Nat} : ∀ {l : List Nat}, hasN n l = false → n ∉ l
  | [], _ => by simp
  | x :: l, h => by
    unfold hasN at h
    split at h
    · cases h
    · rename_i hx
      have hx := beq_false hx
      have := hasN_false h
      simp only [List.mem_cons, not_or]
      exact ⟨fun e => hx e.symm, this⟩
theorem looks_eq (ops : Array Oper) (o : Oper) : ∀ d, d ∈ o.looksAt ops → d ∈ looks ops o := by
  intro d hd
  unfold Oper.looksAt at hd
  unfold looks
  rw [List.mem_append] at hd ⊢
  refine hd.imp id ?_
  cases hg : o.guard with
  | none => simp
  | some p =>
    obtain ⟨g, w⟩ := p
    simp only [nth_eq, Array.getElem?_toList]
    cases hog : ops[g]? with
    | none => simp
    | some og => simp
theorem apartB_true {ops : Array Oper} {x y : Oper} (h : apartB ops x y = true) :
    (∀ d, x.dst = some d → d ∉ y.looksAt ops) ∧ (∀ d, x.dst = some d → y.dst ≠ some d) ∧ (∀ d, y.dst = some d → d ∉ x.looksAt ops) := by
  unfold apartB at h
  rw [Bool.and_eq_true] at h
  obtain ⟨h1, h2⟩ := h
  have nbt : ∀ {b : Bool}, nb b = true → b = false := fun {b} h => by cases b <;> first | rfl | cases h
  refine ⟨fun d hd hm => ?_, fun d hd he => ?_, fun d hd hm => ?_⟩
  · rw [hd] at h1
    simp only [Bool.and_eq_true] at h1
    exact hasN_false (nbt h1.1) (looks_eq ops y d hm)
  · rw [hd] at h1
    simp only [Bool.and_eq_true] at h1
    have := nbt h1.2
    rw [he] at this
    simp [obeq] at this
  · rw [hd] at h2
    exact hasN_false (nbt h2) (looks_eq ops x d hm)
theorem freeB_true {ops : Array Oper} {i : Nat} {o : Oper} : ∀ {l : List Oper} {bl : List Nat} {aw ok : Bool}, l.length = bl.length → freeB ops i o l bl = (aw, ok) →
    (aw = true → ∀ (j b : Nat), bl[j]? = some b → Nat.testBit b i = true) ∧ (ok = true → ∀ (j b : Nat) oj, bl[j]? = some b → l[j]? = some oj → Nat.testBit b i = false → apartB ops o oj = true)
  | [], [], _, _, _, h => by simp
  | [], _ :: _, _, _, hl, _ => by simp at hl
  | _ :: _, [], _, _, hl, _ => by simp at hl
  | oj :: l, bj :: bl, aw, ok, hl, h => by
    unfold freeB at h
    cases hf : freeB ops i o l bl with
    | mk aw' ok' =>
      obtain ⟨h1, h2⟩ := freeB_true (l := l) (bl := bl) (by simpa using hl) hf
      rw [hf] at h
      simp only at h
      split at h
      · rename_i ht
        cases h
        refine ⟨fun ha j b hj => ?_, fun ha j b o' hj ho' hn => ?_⟩
        · cases j with
          | zero => simp at hj; subst hj; exact ht
          | succ j => exact h1 ha j b (by simpa using hj)
        · cases j with
          | zero => simp at hj; subst hj; rw [ht] at hn; cases hn
          | succ j => exact h2 ha j b o' (by simpa using hj) (by simpa using ho') hn
      · rename_i ht
        split at h
        · rename_i hap
          cases h
          refine ⟨fun ha => by (cases ha), fun ha j b o' hj ho' hn => ?_⟩
          cases j with
          | zero => simp at ho'; subst ho'; exact hap
          | succ j => exact h2 ha j b o' (by simpa using hj) (by simpa using ho') hn
        · cases h
          exact ⟨fun ha => by (cases ha), fun ha => by (cases ha)⟩
theorem waitsAll_true {b : Nat} : ∀ {n : Nat}, waitsAll b n = true → ∀ i, i < n → Nat.testBit b i = true
  | 0, _, i, hi => by omega
  | n + 1, h, i, hi => by
    unfold waitsAll at h
    split at h
    · rename_i ht
      by_cases hin : i = n
      · subst hin; exact ht
      · exact waitsAll_true h i (by omega)
    · cases h
def PlanOK (ops : Array Oper) (B : List Nat) (kp : Nat → Bool) : Nat → List (Oper × Bool × Bool) → Prop
  | i, [] => ops.size ≤ i
  | i, (o, k, q) :: r => ops[i]? = some o ∧ kp i = k ∧ (∀ e ∈ o.after, Region.binds .any e = true → e.on < i) ∧ (k = false → ∀ b, B[i]? = some b → ∀ i', i' < i → Nat.testBit b i' = true) ∧ (k = true → keepOp o = true) ∧
    (q = true → k = true ∧ quietOp o = true ∧ ∀ j oj b, i < j → ops[j]? = some oj → B[j]? = some b → Nat.testBit b i = false → apartB ops o oj = true) ∧
    (q = false → ∀ j b, i < j → B[j]? = some b → Nat.testBit b i = true) ∧ PlanOK ops B kp (i + 1) r
theorem quiet_keep {o : Oper} (h : quietOp o = true) : keepOp o = true := by
  unfold quietOp at h
  unfold keepOp
  split at h <;> first | (simp_all; done) | skip
  all_goals (try (rename_i c hc; rw [hc]; simp only; split at h <;> first | (simp_all; done) | skip))
theorem planL_ok {ops : Array Oper} {B : List Nat} (hB : GoodB ops B) {kp : Nat → Bool} : ∀ (l : List Oper) (bl : List Nat) (i : Nat) (pl : List (Oper × Bool × Bool)), (∀ j, l[j]? = ops[i + j]?) → (∀ j, bl[j]? = B[i + j]?) → l.length = bl.length →
    planL ops i l bl = some pl → (∀ j, (pl[j]?).map (fun x => x.2.1) = if j < l.length then some (kp (i + j)) else none) → PlanOK ops B kp i pl
  | [], [], i, pl, hl, _, _, h, _ => by
    unfold planL at h
    cases h
    have := hl 0
    simp at this
    exact this
  | [], _ :: _, _, _, _, _, he, _, _ => by simp at he
  | _ :: _, [], _, _, _, _, he, _, _ => by simp at he
  | o :: l, b :: bl, i, pl, hl, hbl, he, h, hkp => by
    have ho : ops[i]? = some o := by have := hl 0; simpa using this.symm
    have hb : B[i]? = some b := by have := hbl 0; simpa using this.symm
    have hl' : ∀ j, l[j]? = ops[i + 1 + j]? := fun j => by have := hl (j + 1); rw [List.getElem?_cons_succ] at this; rw [this]; congr 1; omega
    have hbl' : ∀ j, bl[j]? = B[i + 1 + j]? := fun j => by have := hbl (j + 1); rw [List.getElem?_cons_succ] at this; rw [this]; congr 1; omega
    have he' : l.length = bl.length := by simpa using he
    unfold planL at h
    split at h
    · cases h
    · rename_i hlt
      have hlt := blt_true hlt
      have hon : ∀ e ∈ o.after, Region.binds .any e = true → e.on < i := fun e hm hbi => by
        obtain ⟨o', ho', _, h3⟩ := hB i b hb
        rw [ho] at ho'; cases ho'
        have := h3 e hm hbi
        rcases Nat.lt_or_ge e.on i with h' | h'
        · exact h'
        · exact absurd this (by rw [Nat.testBit_lt_two_pow (Nat.lt_of_lt_of_le hlt (Nat.pow_le_pow_right (by decide) h'))]; simp)
      have hrec : ∀ {r k q}, pl = (o, k, q) :: r → planL ops (i + 1) l bl = some r → kp i = k ∧ PlanOK ops B kp (i + 1) r := by
        intro r k q hp hr
        subst hp
        have h0 := hkp 0
        simp at h0
        refine ⟨h0.symm, planL_ok hB l bl (i + 1) r hl' hbl' he' hr fun j => ?_⟩
        have := hkp (j + 1)
        rw [List.getElem?_cons_succ] at this
        rw [this]
        simp only [List.length_cons, Nat.add_lt_add_iff_right]
        split
        · congr 2; omega
        · rfl
      have far : ∀ {j b'}, i < j → B[j]? = some b' → bl[j - (i + 1)]? = some b' := fun {j b'} hj hb' => by rw [hbl', ← hb']; congr 1; omega
      have farl : ∀ {j oj}, i < j → ops[j]? = some oj → l[j - (i + 1)]? = some oj := fun {j b'} hj hb' => by rw [hl', ← hb']; congr 1; omega
      split at h
      · cases h
      · rename_i hf
        obtain ⟨f1, f2⟩ := freeB_true he' hf
        split at h
        · rename_i hwa
          split at h
          · rename_i r hr
            cases h
            obtain ⟨k1, k2⟩ := hrec rfl hr
            exact ⟨ho, k1, hon, fun _ b' hb' => by rw [hb] at hb'; cases hb'; exact waitsAll_true hwa, fun h => by (cases h), fun h => by (cases h), fun _ j b' hj hb' => f1 rfl _ b' (far hj hb'), k2⟩
          · cases h
        · split at h
          · rename_i hk
            split at h
            · rename_i r hr
              cases h
              obtain ⟨k1, k2⟩ := hrec rfl hr
              exact ⟨ho, k1, hon, fun h => by (cases h), fun _ => hk, fun h => by (cases h), fun _ j b' hj hb' => f1 rfl _ b' (far hj hb'), k2⟩
            · cases h
          · cases h
      · rename_i hf
        obtain ⟨f1, f2⟩ := freeB_true he' hf
        split at h
        · rename_i hq
          split at h
          · rename_i r hr
            cases h
            obtain ⟨k1, k2⟩ := hrec rfl hr
            exact ⟨ho, k1, hon, fun h => by (cases h), fun _ => quiet_keep hq, fun _ => ⟨rfl, hq, fun j oj b' hj hoj hb' hn => f2 rfl _ b' oj (far hj hb') (farl hj hoj) hn⟩, fun h => by (cases h), k2⟩
          · cases h
        · cases h
theorem PlanOK.later {ops : Array Oper} {B : List Nat} {kp : Nat → Bool} : ∀ {pl : List (Oper × Bool × Bool)} {i : Nat}, PlanOK ops B kp i pl → ∀ {j oj b i'}, i ≤ j → ops[j]? = some oj → B[j]? = some b → i' < j → Nat.testBit b i' = false → kp j = true ∧ keepOp oj = true
  | [], i, h, j, oj, b, i', hj, hoj, _, _, _ => by
    have : ops.size ≤ i := h
    have := getElem?_lt hoj
    omega
  | (o, k, q) :: r, i, h, j, oj, b, i', hj, hoj, hb, hi', hn => by
    obtain ⟨h1, h2, _, h3, h4, _, _, h5⟩ := h
    by_cases hij : i = j
    · subst hij
      cases k with
      | false => rw [h3 rfl b hb i' hi'] at hn; cases hn
      | true => rw [h1] at hoj; cases hoj; exact ⟨h2, h4 rfl⟩
    · exact PlanOK.later h5 (by omega) hoj hb hi' hn
theorem keepOp_keepF {o : Oper} (h : keepOp o = true) : keepF o.op = true := by
  obtain ⟨dst, op, ty, pos, after, guard⟩ := o
  cases op <;> first | rfl | (cases h; done) | (exact h) | skip
  rename_i c
  obtain ⟨callee, args, ts⟩ := c
  cases callee with
  | value f => rfl
  | invoke a b => cases h
  | builtin b => cases b <;> first | rfl | (cases h)
theorem keepOp_select {o : Oper} (h : keepOp o = true) : ∀ cs b, o.op ≠ .select cs b := by
  intro cs b e
  unfold keepOp at h
  rw [e] at h
  cases h
end
end Go.Ev

