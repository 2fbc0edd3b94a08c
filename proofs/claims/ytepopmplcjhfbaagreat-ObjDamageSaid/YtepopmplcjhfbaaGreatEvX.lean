import Derived.Test.YtepopmplcjhfbaaGreatEvW
import Derived.Orders
set_option linter.unusedSectionVars false
set_option linter.unusedVariables false
set_option linter.unusedSimpArgs false
set_option linter.unnecessarySimpa false
namespace Go.Ev
open Go.RowKit
variable [Unk]
section
variable {P : Program}
theorem Below.cls {w w1 w2 : World} (h : Below w.heap.size w w1) (h' : Below w1.heap.size w1 w2) : Below w.heap.size w w2 := h.trans (h'.mono h.size)
def does (P : Program) (kp : Bool) (w0 : World) (K : Value → World → Prop) (Kp : List PanicEntry → World → Prop) : Result Next → Prop
  | .ok (.value u) w' => K u w' ∧ (kp = true → Below w0.heap.size w0 w')
  | .ok .skip w' => K undef w' ∧ (kp = true → Below w0.heap.size w0 w')
  | .ok (.enter f args) w' => Calls P f args w' fun
    | .returned u, w'' => K u w'' ∧ (kp = true → Below w0.heap.size w0 w'')
    | .panicked c, w'' => kp = false ∧ Kp c w''
    | .outgrown, _ => False
  | _ => False
theorem does_mono {kp : Bool} {w0 : World} {K K' : Value → World → Prop} {Kp Kp' : List PanicEntry → World → Prop} {r : Result Next} (h : does P kp w0 K Kp r)
    (h1 : ∀ u w', (kp = true → Below w0.heap.size w0 w') → K u w' → K' u w') (h2 : kp = false → ∀ c w', Kp c w' → Kp' c w') : does P kp w0 K' Kp' r := by
  cases r with
  | halt x w' => exact h.elim
  | ok x w' =>
    cases x <;> first
      | exact ⟨h1 _ _ h.2 h.1, h.2⟩
      | (exact Calls.mono h fun e w'' he => by
          cases e with
          | returned u => exact ⟨h1 _ _ he.2 he.1, he.2⟩
          | panicked c => exact ⟨he.1, h2 he.1 _ _ he.2⟩
          | outgrown => exact he)
      | exact h.elim
theorem does_noDefer {kp : Bool} {w0 w : World} {K : Value → World → Prop} {Kp : List PanicEntry → World → Prop} {o : Oper} {ev : Operand → Value} (h : does P kp w0 K Kp ((execOp ev o).run P w)) : ∀ c, o.op ≠ .defer c := by
  intro c hc
  have : (execOp ev o) = (do let d ← resolve ev c o.type; pure (.defer d)) := by simp [execOp, hc]
  rw [this, Sem.run_bind] at h
  cases hr : (resolve ev c o.type).run P w with
  | ok d w' => rw [hr] at h; exact h
  | halt x w' => rw [hr] at h; exact h
def opC (P : Program) (ops : Array Oper) (kp : Nat → Bool) (i : Nat) (K : Act → World → Prop) (Kp : List PanicEntry → Act → World → Prop) (a : Act) (w : World) : Prop :=
  ∃ o, ops[i]? = some o ∧ (Region.wanted o (yielded ops a.tmps) = true → does P (kp i) w (fun u w' => K (a.put o.dst u) w') (fun c w' => Kp c a w') ((execOp a.eval o).run P w)) ∧
    (Region.wanted o (yielded ops a.tmps) = false → K (a.put o.dst undef) w)
theorem opC_mono {ops : Array Oper} {kp : Nat → Bool} {i : Nat} {K K' : Act → World → Prop} {Kp : List PanicEntry → Act → World → Prop} {a : Act} {w : World} (h : opC P ops kp i K Kp a w) (hK : ∀ a w, K a w → K' a w) : opC P ops kp i K' Kp a w := by
  obtain ⟨o, h1, h2, h3⟩ := h
  exact ⟨o, h1, fun hw => does_mono (h2 hw) (fun _ _ _ hk => hK _ _ hk) (fun _ _ _ h => h), fun hw => hK _ _ (h3 hw)⟩
def anyC (P : Program) (ops : Array Oper) (kp : Nat → Bool) (K : Act → World → Prop) (Kp : List PanicEntry → Act → World → Prop) : Nat → Array Bool → Act → World → Prop
  | 0, listed, a, w => Region.ready .any ops listed = [] ∧ ∀ w0, Below w.heap.size w w0 → K a w0
  | fuel + 1, listed, a, w => ∀ w0, Below w.heap.size w w0 → (Region.ready .any ops listed = [] → K a w0) ∧
    ∀ i ∈ Region.ready .any ops listed, opC P ops kp i (anyC P ops kp K Kp fuel (listed.setIfInBounds i true)) Kp a w0
theorem anyC.cls {ops : Array Oper} {kp : Nat → Bool} {K : Act → World → Prop} {Kp : List PanicEntry → Act → World → Prop} {fuel : Nat} {listed : Array Bool} {a : Act} {w w' : World} (h : anyC P ops kp K Kp fuel listed a w) (hb : Below w.heap.size w w') :
    anyC P ops kp K Kp fuel listed a w' := by
  cases fuel with
  | zero => exact ⟨h.1, fun w0 h0 => h.2 w0 (Below.cls hb h0)⟩
  | succ fuel => exact fun w0 h0 => h w0 (Below.cls hb h0)
def opsC (P : Program) (ops : Array Oper) (kp : Nat → Bool) (K : Act → World → Prop) (Kp : List PanicEntry → Act → World → Prop) : List Nat → Act → World → Prop
  | [], a, w => K a w
  | i :: is, a, w => opC P ops kp i (opsC P ops kp K Kp is) Kp a w
theorem anyC_sound {ops : Array Oper} {kp : Nat → Bool} {K : Act → World → Prop} {Kp : List PanicEntry → Act → World → Prop} : ∀ (fuel t : Nat) (listed : Array Bool) (a : Act) (w : World), anyC P ops kp K Kp fuel listed a w →
    opsC P ops kp K Kp (Region.linearise.go .any ops fuel t listed []) a w := by
  intro fuel
  induction fuel with
  | zero => intro t listed a w h; simpa [Region.linearise.go, opsC] using h.2 w (Below.refl _ _)
  | succ fuel ih =>
    intro t listed a w h
    obtain ⟨h₀, h₁⟩ := h w (Below.refl _ _)
    simp only [Region.linearise.go]
    change opsC P ops kp K Kp (match (Region.ready .any ops listed)[t % (Region.ready .any ops listed).length]? with
      | some i => Region.linearise.go .any ops fuel (t / (Region.ready .any ops listed).length) (listed.setIfInBounds i true) [i]
      | none => [].reverse) a w
    cases hi : (Region.ready .any ops listed)[t % (Region.ready .any ops listed).length]? with
    | none =>
      have hnil : Region.ready .any ops listed = [] := by
        cases hr : Region.ready .any ops listed with
        | nil => rfl
        | cons x xs =>
          rw [hr] at hi
          have hlt : t % (x :: xs).length < (x :: xs).length := Nat.mod_lt _ (by simp)
          simp at hi
          simp at hlt
          omega
      simpa [opsC] using h₀ hnil
    | some i =>
      simp only []
      rw [linearise_go_acc, List.reverse_singleton, List.singleton_append]
      exact opC_mono (h₁ i (List.mem_of_getElem? hi)) fun a w => ih _ _ a w
theorem opsC_steps {ops : Array Oper} {kp : Nat → Bool} {K : Act → World → Prop} {Kp : List PanicEntry → Act → World → Prop} {b : Frame} {k : List Item} {cs : List Frame} : ∀ (is : List Nat) (a : Act) (w : World), opsC P ops kp K Kp is a w →
    (∃ a' w', K a' w' ∧ Steps P (lone (b.atR a (.inRegion ops is :: k)) cs w) (lone (b.atR a' (.inRegion ops [] :: k)) cs w')) ∨
    (∃ chain a' w' todo, Kp chain a' w' ∧ Calm todo ∧ Steps P (lone (b.atR a (.inRegion ops is :: k)) cs w) (lone { b.atR a' todo with mode := .panicking chain } cs w'))
  | [], a, w, h => .inl ⟨a, w, h, Steps.refl P _⟩
  | i :: is, a, w, h => by
    obtain ⟨o, ho, h1, h2⟩ := h
    have go : ∀ {u : Value} {w' : World}, opsC P ops kp K Kp is (a.put o.dst u) w' → Steps P (lone (b.atR a (.inRegion ops (i :: is) :: k)) cs w) (lone (b.atR (a.put o.dst u) (.inRegion ops is :: k)) cs w') →
        (∃ a' w', K a' w' ∧ Steps P (lone (b.atR a (.inRegion ops (i :: is) :: k)) cs w) (lone (b.atR a' (.inRegion ops [] :: k)) cs w')) ∨
        (∃ chain a' w' todo, Kp chain a' w' ∧ Calm todo ∧ Steps P (lone (b.atR a (.inRegion ops (i :: is) :: k)) cs w) (lone { b.atR a' todo with mode := .panicking chain } cs w')) := by
      intro u w' hk hs
      rcases opsC_steps (b := b) (k := k) (cs := cs) is _ _ hk with ⟨a', w'', k1, k2⟩ | ⟨chain, a', w'', todo, k1, k2, k3⟩
      · exact .inl ⟨a', w'', k1, Steps.trans hs k2⟩
      · exact .inr ⟨chain, a', w'', todo, k1, k2, Steps.trans hs k3⟩
    cases hw : Region.wanted o (yielded ops a.tmps) with
    | false =>
      have hs := stepR_op_skip (P := P) (b := b) (a := a) (k := k) (cs := cs) (w := w) (ops := ops) (i := i) (rest := is) (by rw [ho]; simp [hw])
      rw [ho] at hs
      exact go (h2 hw) (.one hs)
    | true =>
      have hd := h1 hw
      have hsem : o.semAt b.roundOf a.eval = execOp a.eval o := Oper.semAt_eq _ _ _ (does_noDefer hd)
      generalize hr : (execOp a.eval o).run P w = r at hd
      cases r with
      | halt x w' => exact hd.elim
      | ok x w' =>
        cases x with
        | value u => exact go hd.1 (.one (step_op_value ho hw hsem hr))
        | skip => exact go hd.1 (.one (step_op_skip' ho hw hsem hr))
        | enter f args =>
          obtain ⟨e, w'', fr, he, hc, hf, hl⟩ := hd (b.atR a (.inRegion ops (i :: is) :: k) :: cs)
          cases e with
          | returned u =>
            refine go he.1 (.head (step_op_enter ho hw hsem hr) (Steps.trans hc (.one ?_)))
            rw [step_leave_returned hl, Frame.finish_atR, ho]; rfl
          | panicked c =>
            refine .inr ⟨c, a, w'', .inRegion ops (i :: is) :: k, he.2, fun d wr re sa k e => (by cases e), .head (step_op_enter ho hw hsem hr) (Steps.trans hc (.one ?_))⟩
            rw [step_leave_panicked hl, Frame.raise_atR]
          | outgrown => exact he.elim
        | _ => exact hd.elim
def Closed (ops : Array Oper) (listed : Array Bool) : Prop := ∀ m, listed.getD m false = true → ∃ o, ops[m]? = some o ∧ ∀ e ∈ o.after, Region.binds .any e = true → listed.getD e.on false = true
def GoodB (ops : Array Oper) (B : List Nat) : Prop := ∀ j b, B[j]? = some b → ∃ o, ops[j]? = some o ∧ (∀ i, Nat.testBit b i = true → ∃ e ∈ o.after, Region.binds .any e = true ∧ (e.on = i ∨ ∃ b', e.on < j ∧ B[e.on]? = some b' ∧ Nat.testBit b' i = true)) ∧
  ∀ e ∈ o.after, Region.binds .any e = true → Nat.testBit b e.on = true
theorem fold_bits (acc : List Nat) (i : Nat) : ∀ (l : List Edge) (s : Nat), Nat.testBit (l.foldl (befF acc) s) i = true →
    Nat.testBit s i = true ∨ ∃ e ∈ l, Region.binds .any e = true ∧ (e.on = i ∨ ∃ b', nth acc e.on = some b' ∧ Nat.testBit b' i = true)
  | [], s, h => .inl h
  | e :: l, s, h => by
    rw [List.foldl_cons] at h
    rcases fold_bits acc i l _ h with h | ⟨e', he, hb, hh⟩
    · unfold befF at h
      split at h
      · rename_i hb
        rw [Nat.testBit_or, Nat.testBit_or, Bool.or_eq_true, Bool.or_eq_true] at h
        rcases h with (h | h) | h
        · exact .inl h
        · rw [Nat.testBit_two_pow] at h
          exact .inr ⟨e, by simp, hb, .inl (by simpa using h)⟩
        · split at h
          · rename_i b' hb'
            exact .inr ⟨e, by simp, hb, .inr ⟨b', hb', h⟩⟩
          · simp at h
      · exact .inl h
    · exact .inr ⟨e', by simp [he], hb, hh⟩
theorem fold_keeps (acc : List Nat) (i : Nat) : ∀ (l : List Edge) (s : Nat), Nat.testBit s i = true ∨ (∃ e ∈ l, Region.binds .any e = true ∧ e.on = i) →
    Nat.testBit (l.foldl (befF acc) s) i = true
  | [], s, h => by
    rcases h with h | ⟨e, he, _⟩
    · exact h
    · cases he
  | e :: l, s, h => by
    rw [List.foldl_cons]
    refine fold_keeps acc i l _ ?_
    rcases h with h | ⟨e', he, hb, hh⟩
    · refine .inl ?_
      unfold befF
      split
      · rw [Nat.testBit_or, Nat.testBit_or, h]; simp
      · exact h
    · rcases List.mem_cons.1 he with rfl | he
      · refine .inl ?_
        unfold befF
        rw [hb]
        simp only
        rw [Nat.testBit_or, Nat.testBit_or, Nat.testBit_two_pow, hh]; simp
      · exact .inr ⟨e', he, hb, hh⟩
theorem befL_good {ops : Array Oper} : ∀ (l : List Oper) (acc : List Nat), (∀ j, l[j]? = ops[acc.length + j]?) → GoodB ops acc → GoodB ops (befL l acc) ∧ (befL l acc).length = acc.length + l.length
  | [], acc, _, h => ⟨h, by simp [befL]⟩
  | o :: l, acc, hl, h => by
    unfold befL
    have ho : ops[acc.length]? = some o := by have := hl 0; simpa using this.symm
    obtain ⟨h1, h2⟩ := befL_good l (acc ++ [o.after.toList.foldl (befF acc) 0]) (fun j => by
      have := hl (j + 1)
      rw [List.getElem?_cons_succ] at this
      rw [this, List.length_append]; congr 1; simp; omega) (by
      intro j b hj
      by_cases hlt : j < acc.length
      · rw [List.getElem?_append_left hlt] at hj
        obtain ⟨oj, k1, k2, k3⟩ := h j b hj
        refine ⟨oj, k1, fun i hi => ?_, k3⟩
        obtain ⟨e, e1, e2, e3⟩ := k2 i hi
        refine ⟨e, e1, e2, e3.imp id ?_⟩
        rintro ⟨b', q1, q2, q3⟩
        exact ⟨b', q1, by rw [List.getElem?_append_left (by omega)]; exact q2, q3⟩
      · have hj' : j = acc.length := by
          have := (List.getElem?_eq_some_iff.1 hj).1
          simp at this; omega
        subst hj'
        rw [List.getElem?_append_right (Nat.le_refl _), Nat.sub_self, List.getElem?_cons_zero, Option.some.injEq] at hj
        subst hj
        refine ⟨o, ho, fun i hi => ?_, fun e he hb => fold_keeps acc e.on _ 0 (.inr ⟨e, by simpa using he, hb, rfl⟩)⟩
        rcases fold_bits acc i _ _ hi with h0 | ⟨e, e1, e2, e3⟩
        · simp at h0
        · refine ⟨e, by simpa using e1, e2, e3.imp id ?_⟩
          rintro ⟨b', q1, q2⟩
          rw [nth_eq] at q1
          have hlt := (List.getElem?_eq_some_iff.1 q1).1
          exact ⟨b', hlt, by rw [List.getElem?_append_left hlt]; exact q1, q2⟩)
    exact ⟨h1, by rw [h2]; simp; omega⟩
theorem waits_listed {ops : Array Oper} {B : List Nat} (hB : GoodB ops B) {listed : Array Bool} (hc : Closed ops listed) : ∀ (m b i : Nat), B[m]? = some b → listed.getD m false = true → Nat.testBit b i = true → listed.getD i false = true := by
  intro m
  induction m using Nat.strongRecOn with
  | _ m ih =>
    intro b i hb hm hi
    obtain ⟨o, ho, h1, _⟩ := hB m b hb
    obtain ⟨o', ho', h2⟩ := hc m hm
    rw [ho] at ho'; cases ho'
    obtain ⟨e, e1, e2, e3⟩ := h1 i hi
    rcases e3 with rfl | ⟨b', q1, q2, q3⟩
    · exact h2 e e1 e2
    · exact ih e.on q1 b' i q2 (h2 e e1 e2) q3
theorem ready_waits {ops : Array Oper} {B : List Nat} (hB : GoodB ops B) {listed : Array Bool} (hc : Closed ops listed) {j b i : Nat} (hj : j ∈ Region.ready .any ops listed) (hb : B[j]? = some b) (hi : Nat.testBit b i = true) : listed.getD i false = true := by
  obtain ⟨_, o, ho, hall⟩ := mem_ready.1 hj
  obtain ⟨o', ho', h1, _⟩ := hB j b hb
  rw [ho] at ho'; cases ho'
  obtain ⟨e, e1, e2, e3⟩ := h1 i hi
  rcases e3 with rfl | ⟨b', q1, q2, q3⟩
  · exact hall e e1 e2
  · exact waits_listed hB hc e.on b' i q2 (hall e e1 e2) q3
theorem Closed.set {ops : Array Oper} {listed : Array Bool} (hc : Closed ops listed) {j : Nat} (hj : j ∈ Region.ready .any ops listed) : Closed ops (listed.setIfInBounds j true) := by
  intro m hm
  obtain ⟨_, o, ho, hall⟩ := mem_ready.1 hj
  by_cases hmj : j = m
  · subst hmj
    exact ⟨o, ho, fun e he hb => getD_set_true (hall e he hb)⟩
  · rw [getD_set_ne false hmj] at hm
    obtain ⟨o', ho', h⟩ := hc m hm
    exact ⟨o', ho', fun e he hb => getD_set_true (h e he hb)⟩
end
end Go.Ev

