import Derived.Test.YtepopmplcjhfbaaGreatEvI
import Derived.Laws.Append
import Derived.Laws.BytesString
import Derived.Laws.RangeString
set_option linter.unusedSectionVars false
set_option linter.unusedVariables false
set_option linter.unusedSimpArgs false
set_option linter.unnecessarySimpa false
namespace Go.Ev
open Go.RowKit
variable [Unk]
section
variable {P : Program} {G : Nat → Nat → Option AV} {orc : Nat → Option Orc}
theorem oCallV_snd (hO : OrcSound P G orc) (hNG : ∀ (f : Nat) (fn : Func), P.funcs[f]? = some fn → (fn.name == "runtime.NumGoroutine") = false) (f : Operand) (args : Array Operand) (ts : Array TypeId) :
    OpSnd P G orc (.call ⟨.value f, args, ts⟩) (oCallV f args) := fun env H nx lo k h => by
  obtain ⟨fa, hfa, h⟩ := ov_true h
  obtain ⟨as, has, h⟩ := ovs_true h
  unfold callK at h
  split at h
  · rename_i g first captured _
    rw [catL_eq, catL_eq] at h
    have hrun : ∀ {ρ : Rho} {act : Act} {w : World} {n : Nat} {o : Oper}, o.op = .call ⟨.value f, args, ts⟩ → EnvR ρ env n act.tmps →
        ∃ vs : List Value, VRs ρ (first ++ (as ++ captured)) vs ∧ (execOp act.eval o).run P w = (callFunc g vs.toArray).run P w := by
      intro ρ act w n o ho hE
      have h1 := aev_sound hE hfa
      generalize hx : act.eval f = u at h1
      cases h1 with
      | func _ _ _ fv cv hf hc =>
        refine ⟨fv.toList ++ (args.toList.map act.eval ++ cv.toList), hf.append ((has.sound hE).append hc), ?_⟩
        have e : (fv ++ args.map act.eval) ++ cv = (fv.toList ++ (args.toList.map act.eval ++ cv.toList)).toArray := by
          apply Array.toList_inj.1; simp
        simp [execOp, ho, resolve, hx, Deferred.ofValue, invoke, e]
    split at h
    · rename_i oc hoc
      obtain ⟨v, hv, h⟩ := orcK_true h
      refine ⟨_, _, _, h, fun _ => HeapLo.refl _ _, Nat.le_refl _, fun ρ N w n act o ho hI hE => ?_⟩
      obtain ⟨vs, h1, h2⟩ := hrun (w := w) ho hE
      refine ⟨ρ, w, Rho.le_refl ρ, hI, Below.refl _ _, fun _ => Below.refl _ _, rfl, rfl, ?_⟩
      rw [h2]
      rcases hO g oc H _ v hoc hv ρ nx lo N w vs hI h1 with ⟨u, e1, e2⟩ | ⟨e1, e2⟩
      · exact .inl ⟨u, e1, e2⟩
      · exact .inr ⟨vs, e1, e2⟩
    · refine ⟨_, _, _, h, fun _ => HeapLo.refl _ _, Nat.le_refl _, fun ρ N w n act o ho hI hE => ?_⟩
      obtain ⟨vs, h1, h2⟩ := hrun (w := w) ho hE
      refine ⟨ρ, w, Rho.le_refl ρ, hI, Below.refl _ _, fun _ => Below.refl _ _, vs, fun fn c hfn hb => ?_, rfl, rfl, h1⟩
      rw [h2]
      have hne : ¬ fn.name = "runtime.NumGoroutine" := by simpa using hNG g fn hfn
      simp [callFunc, hfn, hne, hb]
  · refine ⟨_, _, _, h, fun _ => HeapLo.refl _ _, Nat.le_refl _, fun ρ N w n act o ho hI hE => ?_⟩
    have h1 := aev_sound hE hfa
    generalize hx : act.eval f = u at h1
    cases h1 with
    | yld _ b sz hr =>
      refine ⟨ρ, w, Rho.le_refl ρ, hI, Below.refl _ _, fun _ => Below.refl _ _, b, sz, args.toList.map act.eval, hr, has.sound hE, ?_, rfl, rfl⟩
      have e : (args.toList.map act.eval).toArray = args.map act.eval := by rw [← Array.toList_map, Array.toArray_toList]
      rw [e]
      simp [execOp, ho, resolve, hx, Deferred.ofValue, invoke]
  · cases h
theorem recover_snd (args : Array Operand) (ts : Array TypeId) : OpSnd P G orc (.call ⟨.builtin .recover, args, ts⟩) (fun _ _ _ _ _ H nx k => k .recover H nx) := fun env H nx lo k h =>
  ⟨_, _, _, h, fun _ => HeapLo.refl _ _, Nat.le_refl _, fun ρ N w n act o ho hI hE =>
    ⟨ρ, w, Rho.le_refl ρ, hI, Below.refl _ _, fun _ => Below.refl _ _, by simp [execOp, ho, resolve, invoke, builtin], rfl, rfl⟩⟩
theorem oNo_snd (op : Op) : OpSnd P G orc op oNo := fun env H nx lo k h => by cases h
theorem oAssert_snd (x : Operand) (xt d : TypeId) (ok : Bool) : OpSnd P G orc (.typeAssert x xt d ok) (oAssert x d ok) := fun env H nx lo k h => by
  unfold oAssert at h
  split at h
  · cases h
  · obtain ⟨a, ha, h⟩ := ov_true h
    split at h
    · split at h
      · rename_i dd hd
        obtain ⟨z, zv, h, hz, hzr⟩ := zeroK_true h
        refine ⟨_, _, _, h, OpOK.pure fun ρ N w n act o ho hI hE => ?_⟩
        have h1 := aev_sound hE ha
        generalize hx : act.eval x = u at h1
        cases h1
        refine ⟨.tuple #[zv, .bool false], ?_, .tup _ _ (.cons _ _ _ _ (hz ρ) (.cons _ _ _ _ (.bool _) .nil))⟩
        cases dd <;> simp [execOp, ho, hx, Instr.typeAssert, run_underlying hd, hzr]
      · cases h
    · cases h
theorem oDefer_snd (c : Call) : OpSnd P G orc (.defer c) (oDefer c) := fun env H nx lo k h => by
  obtain ⟨callee, args, ts⟩ := c
  cases callee with
  | value f =>
    obtain ⟨fa, hfa, h⟩ := ov_true h
    obtain ⟨as, has, h⟩ := ovs_true h
    split at h
    · rename_i g first captured _
      rw [catL_eq, catL_eq] at h
      refine ⟨_, _, _, h, fun _ => HeapLo.refl _ _, Nat.le_refl _, fun ρ N w n act o ho hI hE => ?_⟩
      have h1 := aev_sound hE hfa
      generalize hx : act.eval f = u at h1
      cases h1 with
      | func _ _ _ fv cv hf hc =>
        refine ⟨ρ, w, Rho.le_refl ρ, hI, Below.refl _ _, fun _ => Below.refl _ _, { target := .fn (.func g) cv, args := fv ++ args.map act.eval }, ?_, rfl, rfl, .call _ _ _ _ ?_⟩
        · simp [execOp, ho, resolve, hx, Deferred.ofValue]
        · have := hf.append ((has.sound hE).append hc)
          simpa using this
    · cases h
  | builtin b => cases h
  | invoke r m => cases h
theorem oNext_snd (it : Operand) (b : Bool) : OpSnd P G orc (.next it b) (oNext it b) := fun env H nx lo k h => by
  cases b with
  | false => cases h
  | true =>
    obtain ⟨a, ha, h⟩ := ov_true h
    split at h
    · rename_i id
      obtain ⟨ob, hob, h⟩ := opt_true h
      split at h
      · rename_i s rest pos
        have getI : ∀ {ρ : Rho} {N : Nat} {w : World}, Inv G ρ H nx lo N w → ∃ b sz bs, ρ id = some (b, sz) ∧ w.heap[b]? = some (.stringIter bs pos) ∧ bs.data.toList.map UInt8.toNat = s ∧ rest = s.drop pos := by
          intro ρ N w hI
          obtain ⟨b, sz, ob', h1, h2, h3, h4⟩ := hI.obj id _ hob
          cases h4 with
          | siter _ bs _ _ hs => exact ⟨b, sz, bs, h1, h3, hs, rfl⟩
        split at h
        · refine ⟨_, _, _, h, OpOK.pure fun ρ N w n act o ho hI hE => ?_⟩
          obtain ⟨b, sz, bs, k1, k2, k3, k4⟩ := getI hI
          have h1 := aev_sound hE ha
          generalize hx : act.eval it = u at h1
          cases h1 with
          | ptr _ _ b' sz' hr =>
            rw [k1] at hr; simp at hr; obtain ⟨rfl, rfl⟩ := hr
            have hp : ¬ pos < bs.size := by
              rw [← size_bytes, k3]
              have := List.drop_eq_nil_iff.1 k4.symm
              omega
            refine ⟨.tuple #[.bool false], ?_, .tup _ _ (.cons _ _ _ _ (.bool _) .nil)⟩
            simp [execOp, ho, hx, Instr.next, getObj, Sem.run, k2, hp]
        · rename_i c rest'
          obtain ⟨hc, h⟩ := guardB_true h
          obtain ⟨hlo, h⟩ := guardB_true h
          have hc := blt_true hc
          have hlo := ble_true hlo
          rw [fN_eq] at h
          obtain ⟨H', hH, h⟩ := T.setK_true _ _ _ _ _ h
          refine ⟨_, _, _, h, fun _ i hi => by rw [hH, if_neg (by omega)], Nat.le_refl _, fun ρ N w n act o ho hI hE => ?_⟩
          obtain ⟨b, sz, bs, k1, k2, k3, k4⟩ := getI hI
          have h1 := aev_sound hE ha
          generalize hx : act.eval it = u at h1
          cases h1 with
          | ptr _ _ b' sz' hr =>
            rw [k1] at hr; simp at hr; obtain ⟨rfl, rfl⟩ := hr
            have hps : pos < s.length := by
              rcases Nat.lt_or_ge pos s.length with hh | hh
              · exact hh
              · rw [List.drop_eq_nil_of_le hh] at k4; cases k4
            have hp : pos < bs.size := by rw [← size_bytes, k3]; exact hps
            have hcat : s[pos]? = some c := by
              have : (s.drop pos)[0]? = some c := by rw [← k4]; rfl
              simpa using this
            have hbyte : (bs[pos]'hp).toNat = c := by
              rw [← k3, List.getElem?_map] at hcat
              have e1 : bs.data.toList[pos]? = some (bs[pos]'hp) := by
                have : bs.data[pos]? = some (bs.data[pos]'hp) := Array.getElem?_eq_getElem hp
                rw [Array.getElem?_toList]; exact this
              rw [e1] at hcat
              simpa using hcat
            have hdec := decode_ascii bs pos hp (by rw [hbyte]; exact hc)
            rw [hbyte] at hdec
            have hset := hI.set (w' := { w with heap := w.heap.setIfInBounds b (.stringIter bs (pos + 1)) }) (ob' := .stringIter bs (pos + 1)) hob hlo k1 hH
              (by simp [getElem?_lt k2]) (fun q hq => by simp [Array.getElem?_setIfInBounds_ne (Ne.symm hq)]) (by simp) rfl rfl rfl (by
                have : rest' = s.drop (pos + 1) := by
                  have e2 : s.drop (pos + 1) = (s.drop pos).drop 1 := by rw [List.drop_drop]
                  rw [e2, ← k4]; rfl
                rw [this]
                exact .siter s bs (pos + 1) sz k3)
            refine ⟨ρ, _, Rho.le_refl ρ, hset.1, hset.2, fun hk => (by cases hk), .tuple #[.bool true, .int .i64 pos, .int .i32 c], ?_,
              .tup _ _ (.cons _ _ _ _ (.bool _) (.cons _ _ _ _ (.int _ _) (.cons _ _ _ _ (.int _ _) .nil)))⟩
            simp only [execOp, ho, hx, Instr.next, getObj, setObj, Sem.run_bind, Sem.run, k2, Result.andThen_ok, hp, if_true, hdec]
            simp [goInt]
      · cases h
    · cases h
theorem keyKind_true {t : TypeId} {key : AV} (h : keyKind P t key = true) :
    (∃ kd, P.underlying t = some (.int kd) ∧ ∃ k n, key = .int k n) ∨ (P.underlying t = some .string ∧ ∃ l, key = .str l) := by
  unfold keyKind at h
  split at h
  · rename_i kd k n e; exact .inl ⟨kd, e, k, n, rfl⟩
  · rename_i l e; exact .inr ⟨e, l, rfl⟩
  · cases h
theorem run_checkKey {t : TypeId} {key : AV} (h : keyKind P t key = true) {ρ : Rho} {v : Value} (hv : VR ρ key v) (b : Bool) (w : World) : (Instr.checkKey b 10000 t v).run P w = .ok () w := by
  rcases keyKind_true h with ⟨kd, e, k, n, rfl⟩ | ⟨e, l, rfl⟩
  · cases hv
    rw [show (10000 : Nat) = 9999 + 1 from rfl, Instr.checkKey]
    simp only [Sem.run_bind, run_underlying e, Result.andThen_ok]
    rfl
  · cases hv
    rw [show (10000 : Nat) = 9999 + 1 from rfl, Instr.checkKey]
    simp only [Sem.run_bind, run_underlying e, Result.andThen_ok]
    rfl
def FindR (ρ : Rho) (d : TypeDesc) (kv : Value) (entries : List MapEntry) (i : Nat) : Option (Nat × AV) → Prop
  | none => Instr.findNow d kv entries i = some none
  | some (j, v) => ∃ u, Instr.findNow d kv entries i = some (some (i + j, u)) ∧ VR ρ v u
theorem findKey_true {ρ : Rho} {d : TypeDesc} {key : AV} {kv : Value} (hd : (∃ kd, d = .int kd ∧ ∃ k n, key = .int k n) ∨ (d = .string ∧ ∃ l, key = .str l)) (hk : VR ρ key kv) :
    ∀ {es : List (AV × AV)} {entries : List MapEntry} {r} (i : Nat), ERs ρ es entries → findKey key es = some r →
      FindR ρ d kv entries i r
  | [], [], r, i, _, h => by simp [findKey] at h; subst h; rfl
  | [], _ :: _, _, _, hE, _ => hE.elim
  | _ :: _, [], _, _, hE, _ => hE.elim
  | (x, v) :: es, e :: entries, r, i, hE, h => by
    obtain ⟨⟨hx, hv⟩, hE⟩ := hE
    obtain ⟨ek, ev, eb⟩ := e
    simp only at hx hv
    -- one entry: is it the key?
    have step : ∀ (b : Bool), Instr.sameNow d kv ek = some b → (match b with
        | true => (some (some (0, v)) : Option (Option (Nat × AV)))
        | false => match findKey key es with | some (some (i, v)) => some (some (i + 1, v)) | r => r) = some r →
        FindR ρ d kv (⟨ek, ev, eb⟩ :: entries) i r := by
      intro b hb hr
      cases b with
      | true =>
        simp at hr; subst hr
        exact ⟨ev, by simp [Instr.findNow, hb], hv⟩
      | false =>
        simp only at hr
        cases hf : findKey key es with
        | none => rw [hf] at hr; cases hr
        | some r0 =>
          have ih := findKey_true hd hk (i + 1) hE hf
          rw [hf] at hr
          cases r0 with
          | none =>
            simp at hr; subst hr
            change Instr.findNow d kv entries (i + 1) = some none at ih
            show Instr.findNow d kv (_ :: entries) i = some none
            simp [Instr.findNow, hb, ih]
          | some p =>
            obtain ⟨j, v'⟩ := p
            simp at hr; subst hr
            obtain ⟨u, e1, e2⟩ := ih
            exact ⟨u, by simp [Instr.findNow, hb, e1]; omega, e2⟩
    rcases hd with ⟨kd, rfl, k, n, rfl⟩ | ⟨rfl, l, rfl⟩
    · cases hk
      cases hx <;> simp only [findKey] at h <;> first
        | (cases h; done)
        | (split at h
           · rename_i hkk
             have := kbeq_true hkk; subst this
             rename_i m _
             refine step (n == m) (by simp [Instr.sameNow]) ?_
             rw [ibeq_eq, show decide (n = m) = (n == m) from rfl] at h
             exact h
           · cases h)
    · cases hk with
      | str _ s hs =>
        cases hx <;> simp only [findKey] at h <;> first
          | (cases h; done)
          | (rename_i s' hs'
             subst hs hs'
             refine step (s == s') (by simp [Instr.sameNow]) ?_
             rw [lbeq_bytes, ← beq_toListBytes] at h
             exact h)
end
end Go.Ev

