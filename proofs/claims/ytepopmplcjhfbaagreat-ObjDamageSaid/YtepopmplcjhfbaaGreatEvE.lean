import Derived.Test.YtepopmplcjhfbaaGreatEvD
set_option linter.unusedSectionVars false
set_option linter.unusedVariables false
set_option linter.unusedSimpArgs false
set_option linter.unnecessarySimpa false
namespace Go.Ev
open Go.RowKit
variable [Unk]
def OrcV.JoinV (sep : List Nat) : List AV → List Nat → Prop
  | [], r => r = []
  | [.str x], r => r = x
  | .str x :: l, r => ∃ r', OrcV.JoinV sep l r' ∧ r = x ++ (sep ++ r')
  | _ :: _, _ => False
def OrcV (H : Heap) : Orc → List AV → AV → Prop
  | .join, avs, v => ∃ id off n cap sep c m e tail l r, avs = [.slice id off n cap, .str sep] ∧ H.get id = some (.cells c m e tail) ∧ l.length = n ∧ (∀ i, i < n → c.get (off + i) = l[i]?) ∧ v = .str r ∧ OrcV.JoinV sep l r ∧ n ≤ 140737488355328 ∧ r.length ≤ 140737488355328
  | .index, avs, v => ∃ s sub, avs = [.str s, .str sub] ∧ s.length < 4294967281 ∧ v = match idxL sub s 0 with | some i => .int .i64 (.ofNat i) | none => .int .i64 (.negSucc 0)
  | .indexByte, avs, v => ∃ s c, avs = [.str s, .int .u8 (.ofNat c)] ∧ c < 256 ∧ v = match idxL [c] s 0 with | some i => .int .i64 (.ofNat i) | none => .int .i64 (.negSucc 0)
  | .given rows, avs, v => ∃ pat, (pat, v) ∈ rows ∧ avEqL avs pat = true
def Den1 : AV → Value → Prop
  | .bool b, v => v = .bool b
  | .int k n, v => v = .int k n
  | .lin k c l _, v => v = .int k (c + Lin.val Unk.s l 0)
  | .str l, v => ∃ s : ByteArray, v = .string s ∧ s.data.toList.map UInt8.toNat = l
  | _, _ => False
def DenS : List AV → List Value → Prop
  | [], [] => True
  | a :: l, v :: vs => Den1 a v ∧ DenS l vs
  | _, _ => False
def Den : AV → Value → Prop
  | .agg l, v => ∃ cs, v = .agg cs ∧ DenS l cs.toList
  | a, v => Den1 a v
def DenL : List AV → List Value → Prop
  | [], [] => True
  | a :: l, v :: vs => Den a v ∧ DenL l vs
  | _, _ => False
theorem avEq1_den {ρ : Rho} {a b : AV} {v : Value} (h : avEq1 a b = true) (hv : VR ρ a v) : Den1 b v := by
  unfold avEq1 at h
  split at h
  · rename_i x y
    cases hv
    show _ = _
    split at h
    · rename_i e; rw [h]
    · have := nb_true h; rw [this]
  · rename_i k x k' y
    split at h
    · rename_i e
      have := kbeq_true e; subst this
      rw [ibeq_eq] at h
      cases hv
      show _ = _
      rw [of_decide_eq_true h]
    · cases h
  · rename_i k c l bs k' c' l' bs'
    split at h
    · rename_i e
      have := kbeq_true e; subst this
      split at h
      · rename_i hc
        cases hv with
        | lin _ _ _ _ n hn hb =>
          have := Lin.cmpF_true hc hb
          show _ = _
          rw [hn, of_decide_eq_true this]
      · cases h
    · cases h
  · rename_i k c l bs k' b
    split at h
    · rename_i e
      have := kbeq_true e; subst this
      split at h
      · rename_i hc
        cases hv with
        | lin _ _ _ _ n hn hb =>
          have := Lin.cmpF_true hc hb
          show _ = _
          rw [hn, of_decide_eq_true this]
          simp [Lin.val]
      · cases h
    · cases h
  · rename_i x y
    rw [lbeq_eq] at h
    have := of_decide_eq_true h; subst this
    cases hv with
    | str _ s hs => exact ⟨s, rfl, hs⟩
  · cases h
theorem avEqs_den {ρ : Rho} : ∀ {l m : List AV} {vs : List Value}, avEqs l m = true → VRs ρ l vs → DenS m vs
  | [], [], _, _, .nil => trivial
  | [], _ :: _, _, h, _ => by cases h
  | _ :: _, [], _, h, _ => by cases h
  | a :: l, b :: m, _, h, .cons _ v _ vs h1 h2 => by
    unfold avEqs at h
    split at h
    · rename_i e
      exact ⟨avEq1_den e h1, avEqs_den h h2⟩
    · cases h
theorem avEq_den {ρ : Rho} {a b : AV} {v : Value} (h : avEq a b = true) (hv : VR ρ a v) : Den b v := by
  unfold avEq at h
  split at h
  · split at h
    · cases hv with
      | agg _ cs hc => exact ⟨cs, rfl, avEqs_den h hc⟩
    · cases h
  · have := avEq1_den h hv
    cases b <;> first | exact this | exact this.elim
theorem avEqL_den {ρ : Rho} : ∀ {l m : List AV} {vs : List Value}, avEqL l m = true → VRs ρ l vs → DenL m vs
  | [], [], _, _, .nil => trivial
  | [], _ :: _, _, h, _ => by cases h
  | _ :: _, [], _, h, _ => by cases h
  | a :: l, b :: m, _, h, .cons _ v _ vs h1 h2 => by
    unfold avEqL at h
    split at h
    · rename_i e
      exact ⟨avEq_den e h1, avEqL_den h h2⟩
    · cases h
theorem findRow_true {as : List AV} : ∀ {rows : List (List AV × AV)} {v : AV}, findRow as rows = some v → ∃ pat, (pat, v) ∈ rows ∧ avEqL as pat = true
  | [], _, h => by cases h
  | (pat, u) :: rows, v, h => by
    unfold findRow at h
    split at h
    · rename_i e; cases h; exact ⟨pat, by simp, e⟩
    · obtain ⟨p, h1, h2⟩ := findRow_true h
      exact ⟨p, by simp [h1], h2⟩
theorem joinL_true {sep : List Nat} : ∀ (l : List AV) {k : List Nat → Bool}, joinL sep l k = true → ∃ r, OrcV.JoinV sep l r ∧ k r = true
  | [], k, h => ⟨[], rfl, h⟩
  | [a], k, h => by
    cases a <;> first | (exact ⟨_, rfl, h⟩) | (cases h)
  | a :: b :: l, k, h => by
    cases a <;> first
      | (cases h; done)
      | (simp only [joinL] at h
         obtain ⟨r, hr, h⟩ := joinL_true (b :: l) h
         simp only [appL_eq] at h
         exact ⟨_, ⟨r, hr, rfl⟩, h⟩)
theorem orcK_true {H : Heap} {oc : Orc} {as : List AV} {k : AV → Bool} (h : orcK H oc as k = true) : (∃ v, OrcV H oc as v ∧ k v = true) := by
  unfold orcK at h
  split at h
  · obtain ⟨o, ho, h⟩ := opt_true h
    split at h
    · obtain ⟨l, hl, hg, h⟩ := getMany_true _ h
      obtain ⟨r, hr, h⟩ := joinL_true _ h
      obtain ⟨g1, h⟩ := guardB_true h
      obtain ⟨g2, h⟩ := guardB_true h
      have g2 := ble_true g2
      rw [len_eq] at g2
      exact ⟨_, ⟨_, _, _, _, _, _, _, _, _, l, r, rfl, ho, hl, hg, rfl, hr, ble_true g1, g2⟩, h⟩
    · cases h
  · obtain ⟨g, h⟩ := guardB_true h
    have g := blt_true g
    rw [len_eq] at g
    refine ⟨_, ⟨_, _, rfl, g, rfl⟩, ?_⟩
    split at h
    · rename_i e; rw [fN_eq] at h; simp only [e]; exact h
    · rename_i e; simp only [e]; exact h
  · obtain ⟨g, h⟩ := guardB_true h
    refine ⟨_, ⟨_, _, rfl, blt_true g, rfl⟩, ?_⟩
    split at h
    · rename_i e; rw [fN_eq] at h; simp only [e]; exact h
    · rename_i e; simp only [e]; exact h
  · obtain ⟨v, hv, h⟩ := opt_true h
    exact ⟨v, findRow_true hv, h⟩
  · cases h
def OrcSound (P : Program) (G : Nat → Nat → Option AV) (orc : Nat → Option Orc) : Prop :=
  ∀ f oc H as v, orc f = some oc → OrcV H oc as v → ∀ ρ nx lo N w vs, Inv G ρ H nx lo N w → VRs ρ as vs →
    (∃ u, (callFunc f vs.toArray).run P w = .ok (.value u) w ∧ VR ρ v u) ∨
    ((callFunc f vs.toArray).run P w = .ok (.enter f vs.toArray) w ∧ Calls P f vs.toArray w fun e w' => ∃ u, e = .returned u ∧ VR ρ v u ∧ Below w.heap.size w w')
def keepF : Op → Bool
  | .store .. | .insert .. | .mapUpdate .. | .next .. | .call { callee := .builtin .append, .. } => false
  | .convert s d _ => nb (Nat.beq s d)
  | _ => true
def OutR (P : Program) (ρ ρ' : Rho) (w w' : World) : AOut → Result Next → Prop
  | .val a, r => ∃ u, r = .ok (.value u) w' ∧ VR ρ' a u
  | .called f _ a, r => w' = w ∧ ρ' = ρ ∧ ((∃ u, r = .ok (.value u) w ∧ VR ρ a u) ∨ (∃ vs : List Value, r = .ok (.enter f vs.toArray) w ∧
      Calls P f vs.toArray w fun e w'' => ∃ u, e = .returned u ∧ VR ρ a u ∧ Below w.heap.size w w''))
  | .skip, r => r = .ok .skip w'
  | .enter f as, r => ∃ vs : List Value, (∀ fn c, P.funcs[f]? = some fn → fn.body = some c → r = .ok (.enter f vs.toArray) w) ∧ w' = w ∧ ρ' = ρ ∧ VRs ρ as vs
  | .round l as, r => ∃ b sz, ∃ vs : List Value, ρ l = some (b, sz) ∧ VRs ρ as vs ∧ r = (Instr.yield b vs.toArray).run P w ∧ w' = w ∧ ρ' = ρ
  | .defer d, r => ∃ dd, r = .ok (.defer dd) w ∧ w' = w ∧ ρ' = ρ ∧ DR ρ d dd
  | .recover, r => r = .ok .recover w ∧ w' = w ∧ ρ' = ρ
  | .panic a, r => ∃ u, r = .halt (.panic u) w ∧ w' = w ∧ ρ' = ρ ∧ VR ρ a u
def OpOK (P : Program) (G : Nat → Nat → Option AV) (op : Op) (env : Env) (H : Heap) (nx lo : Nat) (out : AOut) (H' : Heap) (nx' : Nat) : Prop :=
  (lo ≤ nx → HeapLo lo H H') ∧ nx ≤ nx' ∧ ∀ ρ N w n (act : Act) (o : Oper), o.op = op → Inv G ρ H nx lo N w → EnvR ρ env n act.tmps →
    ∃ ρ' w', ρ.le ρ' ∧ Inv G ρ' H' nx' lo N w' ∧ Below N w w' ∧ (keepF op = true → Below w.heap.size w w') ∧ OutR P ρ ρ' w w' out ((execOp act.eval o).run P w)
def OpSnd (P : Program) (G : Nat → Nat → Option AV) (orc : Nat → Option Orc) (op : Op) (F : OpFn) : Prop :=
  ∀ env H nx lo k, F P G orc lo env H nx k = true → ∃ out H' nx', k out H' nx' = true ∧ OpOK P G op env H nx lo out H' nx'
section
variable {P : Program} {G : Nat → Nat → Option AV} {orc : Nat → Option Orc}
theorem OpOK.pure {op : Op} {env : Env} {H : Heap} {nx lo : Nat} {a : AV}
    (h : ∀ ρ N w n (act : Act) (o : Oper), o.op = op → Inv G ρ H nx lo N w → EnvR ρ env n act.tmps → ∃ u, (execOp act.eval o).run P w = .ok (.value u) w ∧ VR ρ a u) : OpOK P G op env H nx lo (.val a) H nx :=
  ⟨fun _ => HeapLo.refl _ _, Nat.le_refl _, fun ρ N w n act o ho hI hE =>
    let ⟨u, h1, h2⟩ := h ρ N w n act o ho hI hE
    ⟨ρ, w, Rho.le_refl ρ, hI, Below.refl _ _, fun _ => Below.refl _ _, u, h1, h2⟩⟩
theorem OpOK.fresh {op : Op} {env : Env} {H H' : Heap} {nx lo : Nat} {a : AV} {o' : AO} (hH : ∀ m, H'.get m = if m = nx then some o' else H.get m)
    (h : ∀ ρ N w n (act : Act) (o : Oper), o.op = op → Inv G ρ H nx lo N w → EnvR ρ env n act.tmps →
      ∃ ob sz u w0, Below w.heap.size w w0 ∧ w0.heap.size = w.heap.size ∧ (execOp act.eval o).run P w = .ok (.value u) (w0.alloc ob) ∧ (ρ.le (ρ.put nx w.heap.size sz) → OR (ρ.put nx w.heap.size sz) o' sz ob ∧ VR (ρ.put nx w.heap.size sz) a u)) :
    OpOK P G op env H nx lo (.val a) H' (nx + 1) :=
  ⟨fun hl i hi => by rw [hH, if_neg (by omega)], by omega, fun ρ N w n act o ho hI hE => by
    obtain ⟨ob, sz, u, w0, hb0, hs0, hrun, hor⟩ := h ρ N w n act o ho hI hE
    have hI0 := hI.more hb0
    have hn : ρ nx = none := by
      cases e : ρ nx with
      | none => rfl
      | some p => exact absurd (hI.dom nx p e) (by omega)
    obtain ⟨h1, h2⟩ := hor (Rho.le_put hn)
    rw [← hs0] at h1 h2
    obtain ⟨k1, k2, k3⟩ := hI0.alloc hH h1
    have hb : Below w.heap.size w (w0.alloc ob) := hb0.trans (by rw [hs0] at k3; exact k3)
    exact ⟨_, _, k1, k2, hb.mono hI.size, fun _ => hb, u, hrun, h2⟩⟩
theorem oMove_snd (x : Operand) (op : Op) (hop : op = .move x ∨ op = .assign x) : OpSnd P G orc op (oMove x) := fun env H nx lo k h => by
  obtain ⟨a, ha, h⟩ := ov_true h
  refine ⟨_, _, _, h, OpOK.pure fun ρ N w n act o ho hI hE => ⟨act.eval x, ?_, aev_sound hE ha⟩⟩
  rcases hop with rfl | rfl <;> simp [execOp, ho]
theorem oPick_snd (c a b : Operand) : OpSnd P G orc (.pick c a b) (oPick c a b) := fun env H nx lo k h => by
  obtain ⟨v, hv, h⟩ := ov_true h
  split at h
  · obtain ⟨r, hr, h⟩ := ov_true h
    refine ⟨_, _, _, h, OpOK.pure fun ρ N w n act o ho hI hE => ⟨act.eval a, ?_, aev_sound hE hr⟩⟩
    have := aev_sound hE hv
    generalize hc : act.eval c = u at this
    cases this
    simp [execOp, ho, hc, asBool]
  · obtain ⟨r, hr, h⟩ := ov_true h
    refine ⟨_, _, _, h, OpOK.pure fun ρ N w n act o ho hI hE => ⟨act.eval b, ?_, aev_sound hE hr⟩⟩
    have := aev_sound hE hv
    generalize hc : act.eval c = u at this
    cases this
    simp [execOp, ho, hc, asBool]
  · cases h
theorem newCells_true {H : Heap} {nx : Nat} {e : TypeId} {l : List AV} {k : Nat → Heap → Nat → Bool} (h : newCells H nx e l k = true) :
    ∃ t H', (∀ m, t.get m = l[m]?) ∧ (∀ m, H'.get m = if m = nx then some (.cells t l.length e false) else H.get m) ∧ k nx H' (nx + 1) = true := by
  obtain ⟨t, ht, h⟩ := mkCells_true h
  rw [fN_eq, len_eq] at h
  obtain ⟨H', hH, h⟩ := newK_true h
  exact ⟨t, H', ht, hH, h⟩
theorem OR.of_cells {ρ : Rho} {t : T AV} {l : List AV} {e e' : TypeId} {cs : Array Value} (ht : ∀ m, t.get m = l[m]?) (h : VRs ρ l cs.toList) : OR ρ (.cells t l.length e false) cs.size (.cells cs e') :=
  .cells t l.length e e' false cs cs.size 0 0 rfl (by rw [h.length]; simp) (fun _ => by rw [h.length]; simp) (fun i a ea => by
    rw [ht] at ea
    obtain ⟨v, h1, h2⟩ := h.get i a ea
    exact ⟨v, by simpa using h1, h2⟩) ⟨Nat.le_refl _, fun i _ _ => Nat.zero_le i⟩
theorem oAlloc_snd (e : TypeId) : OpSnd P G orc (.alloc e) (oAlloc e) := fun env H nx lo k h => by
  obtain ⟨a, z, h, hz, hrun⟩ := zeroK_true h
  obtain ⟨t, H', ht, hH, h⟩ := newCells_true h
  refine ⟨_, _, _, h, OpOK.fresh hH fun ρ N w n act o ho hI hE => ⟨.cells z.cells e, z.cells.size, .pointer (some ⟨w.heap.size, 0, none⟩), w, Below.refl _ _, rfl, ?_, fun hle => ⟨?_, ?_⟩⟩⟩
  · simp [execOp, ho, Instr.alloc, hrun, newVar, newRow]
  · exact OR.of_cells ht ((hz ρ).cells.mono hle)
  · exact .ptr _ _ _ _ (Rho.put_same _ _ _ _)
theorem oBox_snd (e : TypeId) (x : Operand) : OpSnd P G orc (.box e x) (oBox e x) := fun env H nx lo k h => by
  obtain ⟨a, ha, h⟩ := ov_true h
  obtain ⟨t, H', ht, hH, h⟩ := newCells_true h
  refine ⟨_, _, _, h, OpOK.fresh hH fun ρ N w n act o ho hI hE => ⟨.cells (act.eval x).cells e, (act.eval x).cells.size, .pointer (some ⟨w.heap.size, 0, none⟩), w, Below.refl _ _, rfl, ?_, fun hle => ⟨?_, ?_⟩⟩⟩
  · simp [execOp, ho, Instr.box, newVar, newRow]
  · exact OR.of_cells ht ((aev_sound hE ha).cells.mono hle)
  · exact .ptr _ _ _ _ (Rho.put_same _ _ _ _)
theorem oLoad_snd (t : TypeId) (x : Operand) : OpSnd P G orc (.load t x) (oLoad t x) := fun env H nx lo k h => by
  obtain ⟨a, ha, h⟩ := ov_true h
  obtain ⟨v, h, hv⟩ := loadK_true h
  refine ⟨_, _, _, h, OpOK.pure fun ρ N w n act o ho hI hE => ?_⟩
  obtain ⟨ad, r, e1, e2, e3⟩ := hv hI (aev_sound hE ha)
  exact ⟨r, by simp [execOp, ho, Instr.loadAt, e1, Instr.sureAddr, e2], e3⟩
theorem oStore_snd (t : TypeId) (x y : Operand) : OpSnd P G orc (.store t x y) (oStore t x y) := fun env H nx lo k h => by
  obtain ⟨a, ha, h⟩ := ov_true h
  obtain ⟨v, hv, h⟩ := ov_true h
  unfold storeK at h
  split at h
  · rename_i id off
    obtain ⟨i, _, h, hsz⟩ := sizeK_true h
    obtain ⟨hn, h⟩ := guardB_true h
    have hn := beq_true hn
    rw [len_eq] at hn
    obtain ⟨H', h, hlo, hst⟩ := storeCellsK_true (G := G) h
    refine ⟨_, _, _, h, fun _ => hlo, Nat.le_refl _, fun ρ N w n act o ho hI hE => ?_⟩
    have h1 := aev_sound hE ha
    have h2 := aev_sound hE hv
    generalize hx : act.eval x = u at h1
    cases h1 with
    | ptr _ _ b sz hr =>
      obtain ⟨w', r1, r2, r3⟩ := hst (P := P) hI hr h2.cells
      refine ⟨ρ, w', Rho.le_refl _, r2, r3, fun hk => (by cases hk), ?_⟩
      have hsize : (act.eval y).cells.size = i.size := by
        have := h2.cells.length
        rw [← hn] at this; simp at this; omega
      show _ = _
      simp [execOp, ho, Instr.storeAt, hx, Instr.sureAddr, storeVar, hsz, hsize, r1]
  · cases h
theorem oNilCheck_snd (x : Operand) : OpSnd P G orc (.nilCheck x) (oNilCheck x) := fun env H nx lo k h => by
  obtain ⟨a, ha, h⟩ := ov_true h
  split at h <;> first
    | (cases h; done)
    | (refine ⟨_, _, _, h, OpOK.pure fun ρ N w n act o ho hI hE => ⟨act.eval x, ?_, aev_sound hE ha⟩⟩
       have h1 := aev_sound hE ha
       generalize hx : act.eval x = u at h1
       cases h1
       simp [execOp, ho, hx])
theorem oExtract_snd (x : Operand) (i : Nat) : OpSnd P G orc (.extract x i) (oExtract x i) := fun env H nx lo k h => by
  obtain ⟨a, ha, h⟩ := ov_true h
  split at h
  · obtain ⟨v, hv, h⟩ := opt_true h
    rw [nth_eq] at hv
    refine ⟨_, _, _, h, OpOK.pure fun ρ N w n act o ho hI hE => ?_⟩
    have h1 := aev_sound hE ha
    generalize hx : act.eval x = u at h1
    cases h1 with
    | tup _ cs hc =>
      obtain ⟨r, e1, e2⟩ := hc.get i v hv
      have e1' : cs[i]? = some r := by simpa using e1
      exact ⟨r, by simp [execOp, ho, hx, Instr.extract, e1'], e2⟩
  · cases h
theorem oMakeInterface_snd (t : TypeId) (x : Operand) : OpSnd P G orc (.makeInterface t x) (oMakeInterface t x) := fun env H nx lo k h => by
  unfold oMakeInterface at h
  split at h
  · cases h
  · rename_i d hne hd
    obtain ⟨a, ha, h⟩ := ov_true h
    refine ⟨_, _, _, h, OpOK.pure fun ρ N w n act o ho hI hE => ⟨.iface t (act.eval x), ?_, .iface _ _ _ (aev_sound hE ha)⟩⟩
    simp only [execOp, ho, Instr.makeInterface, Sem.run_bind, run_underlying hd, Result.andThen_ok]
    cases d <;> first | rfl | exact absurd rfl (hne _)
  · cases h
theorem oMakeFunc_snd (fn : Fn) (fs cs : Array Operand) : OpSnd P G orc (.makeFunc fn fs cs) (oMakeFunc fn fs cs) := fun env H nx lo k h => by
  unfold oMakeFunc at h
  split at h
  · rename_i f
    obtain ⟨as, has, h⟩ := ovs_true h
    obtain ⟨bs, hbs, h⟩ := ovs_true h
    refine ⟨_, _, _, h, OpOK.pure fun ρ N w n act o ho hI hE => ⟨.func (.func f) (fs.map act.eval) (cs.map act.eval), ?_, .func _ _ _ _ _ ?_ ?_⟩⟩
    · simp [execOp, ho, Instr.makeFunc]
    · simpa using has.sound hE
    · simpa using hbs.sound hE
  · cases h
theorem oMakeMap_snd (t : TypeId) (r : Option Operand) : OpSnd P G orc (.makeMap t r) (oMakeMap r) := fun env H nx lo k h => by
  unfold oMakeMap at h
  split at h
  · obtain ⟨H', hH, h⟩ := newK_true h
    refine ⟨_, _, _, h, OpOK.fresh hH fun ρ N w n act o ho hI hE => ⟨.map #[] 0, 0, .map (some w.heap.size), w, Below.refl _ _, rfl, ?_, fun hle => ⟨?_, ?_⟩⟩⟩
    · simp [execOp, ho, Instr.makeMap]
    · exact .map [] #[] 0 0 trivial
    · exact .map _ _ _ (Rho.put_same _ _ _ _)
  · cases h
end
end Go.Ev

