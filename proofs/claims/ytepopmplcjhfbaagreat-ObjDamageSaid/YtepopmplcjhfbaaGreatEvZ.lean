import Derived.Test.YtepopmplcjhfbaaGreatEvY
set_option linter.unusedSectionVars false
set_option linter.unusedVariables false
set_option linter.unusedSimpArgs false
set_option linter.unnecessarySimpa false
namespace Go.Ev
open Go.RowKit
variable [Unk]
section
variable {P : Program} {G : Nat → Nat → Option AV} {orc : Nat → Option Orc} {ec : Nat → Nat → List AV → Heap → Nat → (AEnd → Heap → Nat → Bool) → Bool}
theorem hasId_true {H : Heap} {id : Nat} (h : hasId H id = true) : ∃ o, H.get id = some o := by
  unfold hasId at h
  split at h
  · exact ⟨_, ‹_›⟩
  · cases h
theorem exAs_move {p : AV → Bool} {ρ1 ρ2 : Rho} (hp : ∀ a u, p a = true → VR ρ1 a u → VR ρ2 a u) : ∀ {l : List AV} {vs : List Value}, exAs p l = true → VRs ρ1 l vs → VRs ρ2 l vs
  | _, _, _, .nil => .nil
  | a :: l, _, h, .cons _ v _ vs h1 h2 => by
    unfold exAs at h
    split at h
    · exact .cons _ _ _ _ (hp _ _ ‹_› h1) (exAs_move hp h h2)
    · cases h
theorem exA_move {H : Heap} {ρ1 ρ2 : Rho} (hid : ∀ id o p, H.get id = some o → ρ1 id = some p → ρ2 id = some p) : ∀ d a u, exA H d a = true → VR ρ1 a u → VR ρ2 a u
  | 0, a, u, h, _ => by cases h
  | d + 1, a, u, h, hv => by
    cases hv with
    | bool b => exact .bool b
    | int k n => exact .int k n
    | lin k c0 l bs n hn hb => exact .lin k c0 l bs n hn hb
    | bts k c l n hn => exact .bts k c l n hn
    | str l s hs => exact .str l s hs
    | pnil => exact .pnil
    | ptr id off b sz hr => obtain ⟨o, ho⟩ := hasId_true (H := H) (id := id) h; exact .ptr _ _ _ _ (hid _ _ _ ho hr)
    | glob g off => exact .glob g off
    | snil => exact .snil
    | sliceK id off len cap b sz hr hl =>
      simp only [exA] at h
      split at h
      · obtain ⟨o, ho⟩ := hasId_true (H := H) (id := id) ‹_›; exact .sliceK _ _ _ _ _ _ (hid _ _ _ ho hr) hl
      · cases h
    | sliceU id off len s cap b sz hr hl hs =>
      simp only [exA] at h
      split at h
      · obtain ⟨o, ho⟩ := hasId_true (H := H) (id := id) ‹_›; exact .sliceU _ _ _ _ _ _ _ (hid _ _ _ ho hr) hl hs
      · cases h
    | gsl g off c0 l bs n hn hb hl => exact .gsl g off c0 l bs n hn hb hl
    | mnil => exact .mnil
    | map id b sz hr => obtain ⟨o, ho⟩ := hasId_true (H := H) (id := id) h; exact .map _ _ _ (hid _ _ _ ho hr)
    | func f fs cs fa ca hf hc =>
      simp only [exA] at h
      split at h
      · exact .func _ _ _ _ _ (exAs_move (exA_move hid d) ‹_› hf) (exAs_move (exA_move hid d) h hc)
      · cases h
    | yld id b sz hr => obtain ⟨o, ho⟩ := hasId_true (H := H) (id := id) h; exact .yld _ _ _ (hid _ _ _ ho hr)
    | nilFunc => exact .nilFunc
    | iface t a v hv => exact .iface _ _ _ (exA_move hid d _ _ h hv)
    | nilIface => exact .nilIface
    | agg l cs hc => exact .agg _ _ (exAs_move (exA_move hid d) h hc)
    | tup l cs hc => exact .tup _ _ (exAs_move (exA_move hid d) h hc)
theorem exAs_uniq {p : AV → Bool} {ρ : Rho} (hp : ∀ a u u', p a = true → VR ρ a u → VR ρ a u' → u = u') : ∀ {l : List AV} {vs vs' : List Value}, exAs p l = true → VRs ρ l vs → VRs ρ l vs' → vs = vs'
  | _, _, _, _, .nil, .nil => rfl
  | a :: l, _, _, h, .cons _ v _ vs h1 h2, .cons _ v' _ vs' h1' h2' => by
    unfold exAs at h
    split at h
    · rw [hp _ _ _ ‹_› h1 h1', exAs_uniq hp h h2 h2']
    · cases h
theorem bytes_inj' {s s' : ByteArray} (h : s.data.toList.map UInt8.toNat = s'.data.toList.map UInt8.toNat) : s = s' := by
  have h2 : s.data.toList = s'.data.toList := (List.map_inj_right (fun x y e => UInt8.toNat_inj.1 e)).1 h
  have h3 : s.data = s'.data := Array.toList_inj.1 h2
  cases s; cases s'; simp at h3; rw [h3]
theorem exA_uniq {H : Heap} {ρ : Rho} : ∀ d a u u', exA H d a = true → VR ρ a u → VR ρ a u' → u = u'
  | 0, a, u, u', h, _, _ => by cases h
  | d + 1, a, u, u', h, hv, hv' => by
    cases hv with
    | bool b => cases hv'; rfl
    | int k n => cases hv'; rfl
    | lin k c0 l bs n hn hb => cases hv' with | lin _ _ _ _ n' hn' hb' => rw [hn, hn']
    | bts k c l n hn => cases hv' with | bts _ _ _ n' hn' => rw [hn, hn']
    | str l s hs => cases hv' with | str _ s' hs' => rw [bytes_inj' (hs.trans hs'.symm)]
    | pnil => cases hv'; rfl
    | ptr id off b sz hr => cases hv' with | ptr _ _ b' sz' hr' => rw [hr] at hr'; cases hr'; rfl
    | glob g off => cases hv'; rfl
    | snil => cases hv'; rfl
    | sliceK id off len cap b sz hr hl => cases hv' with | sliceK _ _ _ _ b' sz' hr' hl' => rw [hr] at hr'; cases hr'; rfl
    | sliceU id off len s cap b sz hr hl hs =>
      cases hv' with
      | sliceU _ _ _ _ cap' b' sz' hr' hl' hs' =>
        rw [hr] at hr'; cases hr'
        simp only [exA] at h
        split at h
        · have hs0 := beq_false (nb_true h)
          have e : cap * s = cap' * s := by omega
          rw [Nat.eq_of_mul_eq_mul_right (Nat.pos_of_ne_zero hs0) e]
        · cases h
    | gsl g off c0 l bs n hn hb hl => cases hv' with | gsl _ _ _ _ _ n' hn' hb' hl' => rw [show n = n' by omega]
    | mnil => cases hv'; rfl
    | map id b sz hr => cases hv' with | map _ b' sz' hr' => rw [hr] at hr'; cases hr'; rfl
    | func f fs cs fa ca hf hc =>
      cases hv' with
      | func _ _ _ fa' ca' hf' hc' =>
        simp only [exA] at h
        split at h
        · have e1 := exAs_uniq (exA_uniq d) ‹_› hf hf'
          have e2 := exAs_uniq (exA_uniq d) h hc hc'
          rw [Array.toList_inj.1 e1, Array.toList_inj.1 e2]
        · cases h
    | yld id b sz hr => cases hv' with | yld _ b' sz' hr' => rw [hr] at hr'; cases hr'; rfl
    | nilFunc => cases hv'; rfl
    | iface t a v hv => cases hv' with | iface _ _ v' hv' => rw [exA_uniq d _ _ _ h hv hv']
    | nilIface => cases hv'; rfl
    | agg l cs hc => cases hv' with | agg _ cs' hc' => rw [Array.toList_inj.1 (exAs_uniq (exA_uniq d) h hc hc')]
    | tup l cs hc => cases hv' with | tup _ cs' hc' => rw [Array.toList_inj.1 (exAs_uniq (exA_uniq d) h hc hc')]
theorem exA_back {H : Heap} {ρ ρ' : Rho} {nx lo N : Nat} {w : World} (hI : Inv G ρ H nx lo N w) (hle : ρ.le ρ') {d : Nat} {a : AV} {u : Value} (h : exA H d a = true) (hv : VR ρ' a u) : VR ρ a u :=
  exA_move (fun id o p ho hp => by
    obtain ⟨b, sz, ob, h1, _⟩ := hI.obj id o ho
    rw [hle _ _ h1] at hp; cases hp; exact h1) d a u h hv
def Qt (P : Program) (ops : Array Oper) (o : Oper) (v : Value) (a : Act) (w : World) : Prop :=
  ∀ w', Below w.heap.size w w' → (Region.wanted o (yielded ops a.tmps) = true → does P true w' (fun u _ => u = v) (fun _ _ => False) ((execOp a.eval o).run P w')) ∧ (Region.wanted o (yielded ops a.tmps) = false → v = undef)
theorem does_weak {kp : Bool} {w0 : World} {K : Value → World → Prop} {Kp Kp' : List PanicEntry → World → Prop} {r : Result Next} (h : does P true w0 K Kp r) : does P kp w0 K Kp' r := by
  cases r with
  | halt x w' => exact h.elim
  | ok x w' =>
    cases x <;> first
      | exact ⟨h.1, fun _ => h.2 rfl⟩
      | (exact Calls.mono h fun e w'' he => by
          cases e with
          | returned u => exact ⟨he.1, fun _ => he.2 rfl⟩
          | panicked c => cases he.1
          | outgrown => exact he)
      | exact h.elim
theorem anyC_first {ops : Array Oper} {B : List Nat} (hB : GoodB ops B) (hlen : ∀ (j : Nat) oj, ops[j]? = some oj → ∃ b, B[j]? = some b) {kp : Nat → Bool} {K : Act → World → Prop} {Kp : List PanicEntry → Act → World → Prop} {i : Nat} {oi : Oper} {v : Value}
    (hi : ops[i]? = some oi) (hsel : ∀ cs b, oi.op ≠ .select cs b) : ∀ (fuel : Nat) (listed : Array Bool) (a : Act) (w : World),
    (∀ (j : Nat) oj b, ops[j]? = some oj → B[j]? = some b → j ≠ i → listed.getD j true = false → Nat.testBit b i = false → kp j = true ∧ (∀ cs b, oj.op ≠ .select cs b) ∧ apartB ops oi oj = true) →
    Closed ops listed → i ∈ Region.ready .any ops listed → Qt P ops oi v a w → anyC P ops kp K Kp fuel (listed.setIfInBounds i true) (a.put oi.dst v) w → anyC P ops kp K Kp (fuel + 1) listed a w := by
  intro fuel
  have atI : ∀ (fuel : Nat) (listed : Array Bool) (a : Act) (w w0 : World), Below w.heap.size w w0 → Qt P ops oi v a w → anyC P ops kp K Kp fuel (listed.setIfInBounds i true) (a.put oi.dst v) w →
      opC P ops kp i (anyC P ops kp K Kp fuel (listed.setIfInBounds i true)) Kp a w0 := by
    intro fuel listed a w w0 h0 hq H
    refine ⟨oi, hi, fun hw => ?_, fun hw => ?_⟩
    · refine does_weak (does_mono ((hq w0 h0).1 hw) (K' := fun u w' => anyC P ops kp K Kp fuel (listed.setIfInBounds i true) (a.put oi.dst u) w') (Kp' := fun _ _ => False) (fun u w' hb e => ?_) (fun h => by cases h))
      subst e
      exact H.cls (Below.cls h0 (hb rfl))
    · rw [← (hq w0 h0).2 hw]
      exact H.cls h0
  induction fuel with
  | zero =>
    intro listed a w _ _ hr hq H w0 h0
    refine ⟨fun h => (by rw [h] at hr; cases hr), fun j hj => ?_⟩
    by_cases hji : j = i
    · subst hji; exact atI 0 listed a w w0 h0 hq H
    · have := ready_mono hj hji
      rw [H.1] at this
      cases this
  | succ fuel ih =>
    intro listed a w hfree hc hr hq H w0 h0
    refine ⟨fun h => (by rw [h] at hr; cases hr), fun j hj => ?_⟩
    by_cases hji : j = i
    · subst hji; exact atI (fuel + 1) listed a w w0 h0 hq H
    · obtain ⟨oj, hoj, hd, hn⟩ := (H w0 h0).2 j (ready_mono hj hji)
      obtain ⟨hjun, _⟩ := mem_ready.1 hj
      obtain ⟨b, hb⟩ := hlen j oj hoj
      have hnb : Nat.testBit b i = false := by
        cases ht : Nat.testBit b i with
        | false => rfl
        | true =>
          have h1 := ready_waits hB hc hj hb ht
          have h0 := (mem_ready.1 hr).1
          rcases Nat.lt_or_ge i listed.size with h' | h'
          · simp [h'] at h0 h1; rw [h0] at h1; cases h1
          · simp [Array.getElem?_eq_none h'] at h1
      obtain ⟨hkp, hsj, hap⟩ := hfree j oj b hoj hb hji hjun hnb
      obtain ⟨p1, p2, p3⟩ := apartB_true hap
      have hfree' : ∀ (j' : Nat) oj b, ops[j']? = some oj → B[j']? = some b → j' ≠ i → (listed.setIfInBounds j true).getD j' true = false → Nat.testBit b i = false → kp j' = true ∧ (∀ cs b, oj.op ≠ .select cs b) ∧ apartB ops oi oj = true :=
        fun j' oj' b' h1 h2 h3 h4 h5 => hfree j' oj' b' h1 h2 h3 (by
          by_cases hjk : j = j'
          · subst hjk; exact hjun
          · rw [getD_set_ne true hjk] at h4; exact h4) h5
      have next : ∀ (u : Value) (w' : World), Below w0.heap.size w0 w' → anyC P ops kp K Kp fuel ((listed.setIfInBounds i true).setIfInBounds j true) ((a.put oi.dst v).put oj.dst u) w' →
          anyC P ops kp K Kp (fuel + 1) (listed.setIfInBounds j true) (a.put oj.dst u) w' := by
        intro u w' hb' hk
        refine ih (listed.setIfInBounds j true) (a.put oj.dst u) w' hfree' (hc.set hj) (ready_mono hr (Ne.symm hji)) (fun w'' h'' => ?_) ?_
        · have hcl := Below.cls (Below.cls h0 hb') h''
          rw [wanted_put oi a oj.dst u p3, execOp_put oi hsel a oj.dst u p3]
          exact hq w'' hcl
        · rw [Array.setIfInBounds_comm _ _ hji, ← Go.Act.put_comm a v u p2]
          exact hk
      refine ⟨oj, hoj, fun hw => ?_, fun hw => ?_⟩
      · have hd' := hd (by rw [wanted_put oj a oi.dst v p1]; exact hw)
        rw [execOp_put oj hsj a oi.dst v p1] at hd'
        exact does_mono hd' (fun u w' hb' hk => next u w' (hb' hkp) hk) (fun hf => by rw [hkp] at hf; cases hf)
      · exact next undef w0 (Below.refl _ _) (hn (by rw [wanted_put oj a oi.dst v p1]; exact hw))
end
end Go.Ev

