import Derived.Test.YtepopmplcjhfbaaGreatEvZa
set_option linter.unusedSectionVars false
set_option linter.unusedVariables false
set_option linter.unusedSimpArgs false
set_option linter.unnecessarySimpa false
namespace Go.Ev
open Go.RowKit
variable [Unk]
section
variable {P : Program} {G : Nat → Nat → Option AV} {orc : Nat → Option Orc}
def Rem (ops : Array Oper) (R : List Nat) (listed : Array Bool) : Prop := listed.size = ops.size ∧ (∀ j, j ∈ R → j < ops.size) ∧ R.Nodup ∧ ∀ j, j < ops.size → ∀ d, listed.getD j d = decide (j ∉ R)
theorem Rem.next {ops : Array Oper} {R : List Nat} {listed : Array Bool} (h : Rem ops R listed) {i : Nat} (hi : i ∈ R) : Rem ops (R.erase i) (listed.setIfInBounds i true) := by
  obtain ⟨h1, h2, h3, h4⟩ := h
  refine ⟨by simp [h1], fun j hj => h2 j (List.mem_of_mem_erase hj), h3.erase i, fun j hj d => ?_⟩
  by_cases hij : i = j
  · subst hij
    have : i < listed.size := by rw [h1]; exact hj
    have hn : i ∉ R.erase i := by simp [List.Nodup.mem_erase_iff h3]
    simp [this, hn]
  · rw [getD_set_ne d hij, h4 j hj d]
    congr 1
    rw [List.Nodup.mem_erase_iff h3]
    simp
    exact .inl fun e => hij e.symm
theorem depsL_true {sz : Nat} {R : List Nat} : ∀ {l : List Edge}, depsL sz R l = true → ∀ e, e ∈ l → Region.binds .any e = true → e.on < sz ∧ e.on ∉ R
  | [], _, e, he, _ => by cases he
  | x :: l, h, e, he, hb => by
    unfold depsL at h
    split at h
    · split at h
      · rename_i hs
        split at h
        · cases h
        · rename_i hn
          rcases List.mem_cons.1 he with rfl | he
          · exact ⟨blt_true hs, hasN_false hn⟩
          · exact depsL_true h e he hb
      · cases h
    · rename_i hbx
      rcases List.mem_cons.1 he with rfl | he
      · rw [hb] at hbx; cases hbx
      · exact depsL_true h e he hb
theorem opAt_eq (ops : Array Oper) (j : Nat) : opAt ops j = ops[j]? := by unfold opAt; rw [nth_eq]; simp
theorem cand_true {ops : Array Oper} {R : List Nat} {test : Nat → Oper → Bool} : ∀ {l : List Nat} {i : Nat} {o : Oper}, cand ops R test l = some (i, o) → i ∈ l ∧ ops[i]? = some o ∧ o.guard = none ∧ (∀ e, e ∈ o.after → Region.binds .any e = true → e.on < ops.size ∧ e.on ∉ R) ∧ test i o = true
  | [], _, _, h => by cases h
  | x :: l, i, o, h => by
    unfold cand at h
    split at h
    · cases h
    · rename_i ox hox
      have rec' : cand ops R test l = some (i, o) → i ∈ x :: l ∧ ops[i]? = some o ∧ o.guard = none ∧ (∀ e, e ∈ o.after → Region.binds .any e = true → e.on < ops.size ∧ e.on ∉ R) ∧ test i o = true := fun h => by
        obtain ⟨h1, h2⟩ := cand_true h
        exact ⟨List.mem_cons_of_mem _ h1, h2⟩
      split at h
      · exact rec' h
      · rename_i hg
        split at h
        · exact rec' h
        · rename_i hd
          split at h
          · rename_i ht
            cases h
            rw [opAt_eq] at hox
            refine ⟨List.mem_cons_self .., hox, ?_, fun e he hb => depsL_true hd e (by simpa using he) hb, ht⟩
            unfold noG at hg
            split at hg
            · assumption
            · cases hg
          · exact rec' h
theorem Rem.ready {ops : Array Oper} {R : List Nat} {listed : Array Bool} (h : Rem ops R listed) {i : Nat} {o : Oper} (hi : i ∈ R) (ho : ops[i]? = some o) (he : ∀ e, e ∈ o.after → Region.binds .any e = true → e.on < ops.size ∧ e.on ∉ R) : i ∈ Region.ready .any ops listed :=
  mem_ready.2 ⟨by rw [h.2.2.2 i (h.2.1 i hi)]; simp [hi], o, ho, fun e hm hb => by
    obtain ⟨h1, h2⟩ := he e hm hb
    rw [h.2.2.2 _ h1]; simp [h2]⟩
theorem Rem.of_ready {ops : Array Oper} {R : List Nat} {listed : Array Bool} (h : Rem ops R listed) {j : Nat} (hj : j ∈ Region.ready .any ops listed) : j ∈ R := by
  obtain ⟨hun, oj, hoj, _⟩ := mem_ready.1 hj
  rw [h.2.2.2 j (getElem?_lt hoj)] at hun
  simpa using hun
theorem othQ_true {ops : Array Oper} {B : List Nat} {i : Nat} {o : Oper} : ∀ {R : List Nat}, othQ ops B i o R = true → ∀ j, j ∈ R → j ≠ i → ∃ b, B[j]? = some b ∧ (Nat.testBit b i = false → ∃ oj, ops[j]? = some oj ∧ keepOp oj = true ∧ apartB ops o oj = true)
  | [], _, j, hj, _ => by cases hj
  | x :: R, h, j, hj, hji => by
    unfold othQ at h
    split at h
    · rename_i hx
      have hx := beq_true hx
      rcases List.mem_cons.1 hj with rfl | hj
      · exact absurd hx hji
      · exact othQ_true h j hj hji
    · split at h
      · cases h
      · rename_i b hb
        rw [nth_eq] at hb
        split at h
        · rename_i ht
          rcases List.mem_cons.1 hj with rfl | hj
          · exact ⟨b, hb, fun hf => by rw [ht] at hf; cases hf⟩
          · exact othQ_true h j hj hji
        · split at h
          · cases h
          · rename_i oj hoj
            rw [opAt_eq] at hoj
            split at h
            · cases h
            · rename_i hk
              split at h
              · cases h
              · rename_i ha
                rcases List.mem_cons.1 hj with rfl | hj
                · exact ⟨b, hb, fun _ => ⟨oj, hoj, hk, ha⟩⟩
                · exact othQ_true h j hj hji
theorem othA_true {ops : Array Oper} {B : List Nat} {i : Nat} {o : Oper} : ∀ {R : List Nat}, othA ops B i o R = true → ∀ j, j ∈ R → j ≠ i → ∃ b, B[j]? = some b ∧ (Nat.testBit b i = false → ∃ oj, ops[j]? = some oj ∧ noSel oj = true ∧ apartB ops o oj = true)
  | [], _, j, hj, _ => by cases hj
  | x :: R, h, j, hj, hji => by
    unfold othA at h
    split at h
    · rename_i hx
      have hx := beq_true hx
      rcases List.mem_cons.1 hj with rfl | hj
      · exact absurd hx hji
      · exact othA_true h j hj hji
    · split at h
      · cases h
      · rename_i b hb
        rw [nth_eq] at hb
        split at h
        · rename_i ht
          rcases List.mem_cons.1 hj with rfl | hj
          · exact ⟨b, hb, fun hf => by rw [ht] at hf; cases hf⟩
          · exact othA_true h j hj hji
        · split at h
          · cases h
          · rename_i oj hoj
            rw [opAt_eq] at hoj
            split at h
            · cases h
            · rename_i hk
              split at h
              · cases h
              · rename_i ha
                rcases List.mem_cons.1 hj with rfl | hj
                · exact ⟨b, hb, fun _ => ⟨oj, hoj, hk, ha⟩⟩
                · exact othA_true h j hj hji
theorem noSel_ne {o : Oper} (h : noSel o = true) : ∀ cs b, o.op ≠ .select cs b := by
  intro cs b e
  unfold noSel at h
  rw [e] at h
  cases h
theorem pure_sel {o : Oper} (h : pureOp o = true) : ∀ cs b, o.op ≠ .select cs b := by
  intro cs b e
  unfold pureOp at h
  rw [e] at h
  cases h
def OpAny (P : Program) (op : Op) (env : Env) (a : AV) : Prop := ∀ (ρ : Rho) (n : Nat) (act : Act) (o : Oper), o.op = op → EnvR ρ env n act.tmps → ∃ u, VR ρ a u ∧ ∀ w : World, (execOp act.eval o).run P w = .ok (.value u) w
def PureR (P : Program) (op : Op) (env : Env) (H : Heap) (nx : Nat) (k : KO) : Prop := ∃ a, k (.val a) H nx = true ∧ OpAny P op env a
theorem pure_move {x : Operand} {op : Op} (hop : op = .move x ∨ op = .assign x) {env : Env} {H : Heap} {nx lo : Nat} {k : KO} (h : oMove x P G orc lo env H nx k = true) : PureR P op env H nx k := by
  obtain ⟨a, ha, h⟩ := ov_true h
  refine ⟨a, h, fun ρ n act o ho hE => ⟨act.eval x, aev_sound hE ha, fun w => ?_⟩⟩
  rcases hop with rfl | rfl <;> simp [execOp, ho]
theorem pure_pick {c a b : Operand} {env : Env} {H : Heap} {nx lo : Nat} {k : KO} (h : oPick c a b P G orc lo env H nx k = true) : PureR P (.pick c a b) env H nx k := by
  obtain ⟨v, hv, h⟩ := ov_true h
  split at h
  · obtain ⟨r, hr, h⟩ := ov_true h
    refine ⟨_, h, fun ρ n act o ho hE => ⟨act.eval a, aev_sound hE hr, fun w => ?_⟩⟩
    have := aev_sound hE hv
    generalize hc : act.eval c = u at this
    cases this
    simp [execOp, ho, hc, asBool]
  · obtain ⟨r, hr, h⟩ := ov_true h
    refine ⟨_, h, fun ρ n act o ho hE => ⟨act.eval b, aev_sound hE hr, fun w => ?_⟩⟩
    have := aev_sound hE hv
    generalize hc : act.eval c = u at this
    cases this
    simp [execOp, ho, hc, asBool]
  · cases h
theorem pure_nilCheck {x : Operand} {env : Env} {H : Heap} {nx lo : Nat} {k : KO} (h : oNilCheck x P G orc lo env H nx k = true) : PureR P (.nilCheck x) env H nx k := by
  obtain ⟨a, ha, h⟩ := ov_true h
  split at h <;> first
    | (cases h; done)
    | (refine ⟨_, h, fun ρ n act o ho hE => ⟨act.eval x, aev_sound hE ha, fun w => ?_⟩⟩
       have h1 := aev_sound hE ha
       generalize hx : act.eval x = u at h1
       cases h1
       simp [execOp, ho, hx])
theorem pure_extract {x : Operand} {i : Nat} {env : Env} {H : Heap} {nx lo : Nat} {k : KO} (h : oExtract x i P G orc lo env H nx k = true) : PureR P (.extract x i) env H nx k := by
  obtain ⟨a, ha, h⟩ := ov_true h
  split at h
  · obtain ⟨v, hv, h⟩ := opt_true h
    rw [nth_eq] at hv
    refine ⟨_, h, fun ρ n act o ho hE => ?_⟩
    have h1 := aev_sound hE ha
    generalize hx : act.eval x = u at h1
    cases h1 with
    | tup _ cs hc =>
      obtain ⟨r, e1, e2⟩ := hc.get i v hv
      have e1' : cs[i]? = some r := by simpa using e1
      exact ⟨r, e2, fun w => by simp [execOp, ho, hx, Instr.extract, e1']⟩
  · cases h
theorem pure_fieldAddr {s : TypeId} {x : Operand} {f : Nat} {env : Env} {H : Heap} {nx lo : Nat} {k : KO} (h : oFieldAddr s x f P G orc lo env H nx k = true) : PureR P (.fieldAddr s x f) env H nx k := by
  unfold oFieldAddr at h
  split at h
  · rename_i fs e
    obtain ⟨fd, hf, h⟩ := opt_true h
    rw [nth_eq] at hf
    have hf' : fs[f]? = some fd := by simpa using hf
    obtain ⟨i, _, h, hsz⟩ := sizeK_true h
    obtain ⟨h2, h⟩ := guardB_true h
    have h2 := beq_false (nb_true h2)
    obtain ⟨a, ha, h⟩ := ov_true h
    split at h
    · rename_i id off
      rw [fN_eq] at h
      refine ⟨_, h, fun ρ n act o ho hE => ?_⟩
      have h1 := aev_sound hE ha
      generalize hx : act.eval x = u at h1
      cases h1 with
      | ptr _ _ b sz hr =>
        exact ⟨.pointer (some ⟨b, off + fd.offset, none⟩), .ptr _ _ _ _ hr, fun w => by simp [execOp, ho, hx, Instr.fieldAt, run_underlying e, hf', Instr.sureAddr, fieldPlace, hsz, h2, add_none]⟩
    · rename_i g off
      rw [fN_eq] at h
      refine ⟨_, h, fun ρ n act o ho hE => ?_⟩
      have h1 := aev_sound hE ha
      generalize hx : act.eval x = u at h1
      cases h1 with
      | glob _ _ =>
        exact ⟨.pointer (some (gp g (off + fd.offset))), .glob _ _, fun w => by simp [gp, Nat.add_assoc, execOp, ho, hx, Instr.fieldAt, run_underlying e, hf', Instr.sureAddr, fieldPlace, hsz, h2, add_none]⟩
    · cases h
  · cases h
theorem pure_snd {o : Oper} (hp : pureOp o = true) {env : Env} {H : Heap} {nx lo : Nat} {k : KO} (h : aopF o.op P G orc lo env H nx k = true) : PureR P o.op env H nx k := by
  obtain ⟨dst, op, ty, pos, after, guard⟩ := o
  cases op <;> first
    | (cases hp; done)
    | (rename_i x; exact pure_move (P := P) (G := G) (orc := orc) (lo := lo) (Or.inl rfl) (show oMove x P G orc lo env H nx k = true from h))
    | (rename_i x; exact pure_move (P := P) (G := G) (orc := orc) (lo := lo) (Or.inr rfl) (show oMove x P G orc lo env H nx k = true from h))
    | (rename_i c a b; exact pure_pick (show oPick c a b P G orc lo env H nx k = true from h))
    | (rename_i x; exact pure_nilCheck (show oNilCheck x P G orc lo env H nx k = true from h))
    | (rename_i x i; exact pure_extract (show oExtract x i P G orc lo env H nx k = true from h))
    | (rename_i s x f; exact pure_fieldAddr (show oFieldAddr s x f P G orc lo env H nx k = true from h))
theorem othS_true {B : List Nat} {i : Nat} : ∀ {R : List Nat}, othS B i R = true → ∀ j, j ∈ R → j ≠ i → ∃ b, B[j]? = some b ∧ Nat.testBit b i = true
  | [], _, j, hj, _ => by cases hj
  | x :: R, h, j, hj, hji => by
    unfold othS at h
    split at h
    · rename_i hx
      have hx := beq_true hx
      rcases List.mem_cons.1 hj with rfl | hj
      · exact absurd hx hji
      · exact othS_true h j hj hji
    · split at h
      · cases h
      · rename_i b hb
        rw [nth_eq] at hb
        split at h
        · rename_i ht
          rcases List.mem_cons.1 hj with rfl | hj
          · exact ⟨b, hb, ht⟩
          · exact othS_true h j hj hji
        · cases h
theorem othP_true {B : List Nat} {i i' : Nat} : ∀ {R : List Nat}, othP B i i' R = true → ∀ j, j ∈ R → j ≠ i → j ≠ i' → ∃ b, B[j]? = some b ∧ Nat.testBit b i = true ∧ Nat.testBit b i' = true
  | [], _, j, hj, _, _ => by cases hj
  | x :: R, h, j, hj, hji, hji' => by
    unfold othP at h
    split at h
    · rename_i hx
      have hx := beq_true hx
      rcases List.mem_cons.1 hj with rfl | hj
      · exact absurd hx hji
      · exact othP_true h j hj hji hji'
    · split at h
      · rename_i hx
        have hx := beq_true hx
        rcases List.mem_cons.1 hj with rfl | hj
        · exact absurd hx hji'
        · exact othP_true h j hj hji hji'
      · split at h
        · cases h
        · rename_i b hb
          rw [nth_eq] at hb
          split at h
          · rename_i ht
            split at h
            · rename_i ht'
              rcases List.mem_cons.1 hj with rfl | hj
              · exact ⟨b, hb, ht, ht'⟩
              · exact othP_true h j hj hji hji'
            · cases h
          · cases h
theorem othI_true {B : List Nat} {i i' : Nat} : ∀ {R : List Nat}, othI B i i' R = true → ∀ j, j ∈ R → j ≠ i → j ≠ i' → ∃ b, B[j]? = some b ∧ Nat.testBit b i = true
  | [], _, j, hj, _, _ => by cases hj
  | x :: l, h, j, hj, hi, hi' => by
    unfold othI at h
    split at h
    · rename_i hx
      rcases List.mem_cons.1 hj with rfl | hj
      · exact absurd (beq_true hx) hi
      · exact othI_true h j hj hi hi'
    · split at h
      · rename_i hx
        rcases List.mem_cons.1 hj with rfl | hj
        · exact absurd (beq_true hx) hi'
        · exact othI_true h j hj hi hi'
      · split at h
        · cases h
        · rename_i b hb
          split at h
          · rename_i ht
            rcases List.mem_cons.1 hj with rfl | hj
            · rw [nth_eq] at hb; exact ⟨b, hb, ht⟩
            · exact othI_true h j hj hi hi'
          · cases h
theorem bsK_true {env : Env} {op : Op} {k : Nat → AO → Bool} (h : bsK P env op k = true) : ∃ n1 ob, k n1 ob = true ∧ ∀ (ρ : Rho) (n : Nat) (act : Act) (o : Oper), o.op = op → EnvR ρ env n act.tmps →
    ∃ (c : Array Value) (e : TypeId), (∀ w : World, (execOp act.eval o).run P w = .ok (.value (.slice (some ⟨w.heap.size, 0, none⟩) n1 n1)) (w.alloc (.cells c e))) ∧ OR ρ ob c.size (.cells c e) := by
  unfold bsK at h
  split at h
  · rename_i t m parts
    split at h
    · rename_i e he
      obtain ⟨i, _, h, hsz⟩ := sizeK_true h
      obtain ⟨z, zv, h, hz, hzr⟩ := zeroK_true h
      obtain ⟨ps, h, hps⟩ := ovps_true h
      obtain ⟨h1, h⟩ := guardB_true h
      obtain ⟨h2, h⟩ := guardB_true h
      obtain ⟨h3, h⟩ := guardB_true h
      have h1 := ble_true h1
      have h2 := beq_false (nb_true h2)
      have h3 := beq_true h3
      rw [len_eq] at h3
      have hs0 : i.size ≠ 0 := by intro e0; rw [e0] at h2; simp at h2
      obtain ⟨cs', h, hl, hf⟩ := fillK_true h
      obtain ⟨tt, ht, h⟩ := mkCells_true h
      rw [len_eq] at h
      refine ⟨_, _, h, fun ρ n act o ho hE => ?_⟩
      obtain ⟨ca', f1, f2⟩ := hf (rep_vrs (n := m + 1) (hz ρ).cells h3.symm hs0) (hps hE)
      refine ⟨ca', e, fun w => ?_, OR.of_cells ht f2⟩
      have hm : (parts.map fun x => (x.1, act.eval x.2)).toList = parts.toList.map fun x => (x.1, act.eval x.2) := Array.toList_map
      have n1 : ¬ ((m + 1) * i.size > 2 ^ 24) := by simp; omega
      simp only [execOp, ho, Instr.buildSlice, Sem.run_bind, run_underlying he, Result.andThen_ok, hsz, Sem.run_ite]
      rw [if_neg n1, Sem.run_pure, Result.andThen_ok, if_neg h2]
      simp only [hzr, Result.andThen_ok, Sem.run_pure]
      rw [show (Array.map (fun x => match x with | (i, x) => (i, act.eval x)) parts) = parts.map fun x => (x.1, act.eval x.2) from rfl, hm, f1]
      simp [newRow]
    · cases h
  · cases h
theorem Inv.adopt {ρ : Rho} {H H' : Heap} {nx lo N : Nat} {w : World} (h : Inv G ρ H nx lo N w) {o : AO} {ob : Obj} {b sz : Nat} (hH : ∀ m, H'.get m = if m = nx then some o else H.get m) (hb : N ≤ b) (hw : w.heap[b]? = some ob)
    (hnew : ∀ i o p, H.get i = some o → ρ i = some p → p.1 ≠ b) (ho : OR ρ o sz ob) : ρ.le (ρ.put nx b sz) ∧ Inv G (ρ.put nx b sz) H' (nx + 1) lo N w := by
  have hn : ρ nx = none := by
    cases e : ρ nx with
    | none => rfl
    | some p => exact absurd (h.dom nx p e) (by omega)
  have hle := Rho.le_put (ρ := ρ) (i := nx) (b := b) (sz := sz) hn
  refine ⟨hle, ?_⟩
  constructor
  · intro i p e
    unfold Rho.put at e
    split at e
    · omega
    · have := h.dom i p e; omega
  · intro i hi
    rw [hH, if_neg (by omega)]
    exact h.fresh i (by omega)
  · intro i o' e
    rw [hH] at e
    by_cases hi : i = nx
    · subst hi
      simp at e; subst e
      exact ⟨_, sz, ob, Rho.put_same _ _ _ _, fun _ => hb, hw, ho.mono hle⟩
    · rw [if_neg hi] at e
      obtain ⟨b', sz', ob', h1, h2, h3, h4⟩ := h.obj i o' e
      exact ⟨b', sz', ob', hle _ _ h1, h2, h3, h4.mono hle⟩
  · intro i j o1 o2 b' s1 s2 e1 e2 r1 r2
    rw [hH] at e1 e2
    by_cases hi : i = nx
    · by_cases hj : j = nx
      · omega
      · rw [if_neg hj] at e2
        subst hi
        rw [Rho.put_same] at r1
        cases r1
        obtain ⟨b2, sz2, ob2, q1, _⟩ := h.obj j o2 e2
        have := hle _ _ q1
        rw [r2] at this
        cases this
        exact absurd rfl (hnew j o2 _ e2 q1)
    · rw [if_neg hi] at e1
      by_cases hj : j = nx
      · subst hj
        rw [Rho.put_same] at r2
        cases r2
        obtain ⟨b2, sz2, ob2, q1, _⟩ := h.obj i o1 e1
        have := hle _ _ q1
        rw [r1] at this
        cases this
        exact absurd rfl (hnew i o1 _ e1 q1)
      · rw [if_neg hj] at e2
        obtain ⟨b2, sz2, ob2, q1, _⟩ := h.obj i o1 e1
        obtain ⟨b3, sz3, ob3, q2, _⟩ := h.obj j o2 e2
        have k1 := hle _ _ q1
        have k2 := hle _ _ q2
        rw [r1] at k1
        rw [r2] at k2
        cases k1; cases k2
        exact h.inj i j o1 o2 _ _ _ e1 e2 q1 q2
  · exact h.glob
  · exact h.size
end
end Go.Ev

