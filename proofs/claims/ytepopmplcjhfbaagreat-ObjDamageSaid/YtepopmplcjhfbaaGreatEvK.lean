import Derived.Test.YtepopmplcjhfbaaGreatEvJ
set_option linter.unusedSectionVars false
set_option linter.unusedVariables false
set_option linter.unusedSimpArgs false
set_option linter.unnecessarySimpa false
namespace Go.Ev
open Go.RowKit
variable [Unk]
section
variable {P : Program} {G : Nat → Nat → Option AV} {orc : Nat → Option Orc}
theorem Inv.map {ρ : Rho} {H : Heap} {nx lo N : Nat} {w : World} (hI : Inv G ρ H nx lo N w) {id : Nat} {es : List (AV × AV)} (h : H.get id = some (.map es)) :
    ∃ b sz entries clock, ρ id = some (b, sz) ∧ w.heap[b]? = some (.map entries clock) ∧ ERs ρ es entries.toList := by
  obtain ⟨b, sz, ob, h1, _, h3, h4⟩ := hI.obj id _ h
  cases h4 with
  | map _ entries clock _ he => exact ⟨b, sz, entries, clock, h1, h3, he⟩
theorem oLookup_snd (t : TypeId) (m key : Operand) (ok : Bool) : OpSnd P G orc (.lookup t m key ok) (oLookup t m key ok) := fun env H nx lo k h => by
  unfold oLookup at h
  split at h
  · rename_i kt e he
    obtain ⟨a, ha, h⟩ := ov_true h
    obtain ⟨b, hb, h⟩ := ov_true h
    split at h
    · rename_i id
      obtain ⟨hkk, h⟩ := guardB_true h
      obtain ⟨ob, hob, h⟩ := opt_true h
      split at h
      · rename_i es
        have hd : ∃ d, P.underlying kt = some d ∧ ((∃ kd, d = .int kd ∧ ∃ k n, b = .int k n) ∨ (d = .string ∧ ∃ l, b = .str l)) := by
          rcases keyKind_true hkk with ⟨kd, e1, k1, n1, rfl⟩ | ⟨e1, l1, rfl⟩
          · exact ⟨_, e1, .inl ⟨kd, rfl, k1, n1, rfl⟩⟩
          · exact ⟨_, e1, .inr ⟨rfl, l1, rfl⟩⟩
        obtain ⟨d, hkt, hd⟩ := hd
        have run : ∀ {ρ : Rho} {N : Nat} {w : World} {n : Nat} {act : Act} {o : Oper} {r : Option (Nat × AV)}, o.op = .lookup t m key ok → Inv G ρ H nx lo N w → EnvR ρ env n act.tmps → findKey b es = some r →
            match r with
            | some (_, v) => ∃ u, VR ρ v u ∧ (execOp act.eval o).run P w = .ok (.value (if ok then .tuple #[u, .bool true] else u)) w
            | none => ∀ z, (∀ w, (zeroValue e).run P w = .ok z w) → (execOp act.eval o).run P w = .ok (.value (if ok then .tuple #[z, .bool false] else z)) w := by
          intro ρ N w n act o r ho hI hE hf
          have h1 := aev_sound hE ha
          have h2 := aev_sound hE hb
          generalize hx : act.eval m = u at h1
          obtain ⟨bl, sz, entries, clock, k1, k2, k3⟩ := hI.map hob
          cases h1 with
          | map _ bl' sz' hr =>
            rw [k1] at hr; simp at hr; obtain ⟨rfl, rfl⟩ := hr
            have hck := run_checkKey hkk h2 entries.isEmpty w
            have hfr := findKey_true hd h2 0 k3 hf
            have hfk : ∀ q, Instr.findNow d (act.eval key) entries.toList 0 = some q → (Instr.findKey kt (act.eval key) entries.toList).run P w = .ok q w := by
              intro q hq
              simp [Instr.findKey, run_underlying hkt, hq]
            cases r with
            | none =>
              intro z hz
              have := hfk none hfr
              cases ok <;> simp [execOp, ho, hx, Instr.lookup, run_underlying he, getObj, Sem.run, k2, hck, this, hz]
            | some p =>
              obtain ⟨j, v⟩ := p
              obtain ⟨u, e1, e2⟩ := hfr
              have := hfk _ e1
              refine ⟨u, e2, ?_⟩
              cases ok <;> simp [execOp, ho, hx, Instr.lookup, run_underlying he, getObj, Sem.run, k2, hck, this]
        split at h
        · rename_i j v hf
          cases ok with
          | true =>
            refine ⟨_, _, _, h, OpOK.pure fun ρ N w n act o ho hI hE => ?_⟩
            obtain ⟨u, e1, e2⟩ := run ho hI hE hf
            exact ⟨.tuple #[u, .bool true], e2, .tup _ _ (.cons _ _ _ _ e1 (.cons _ _ _ _ (.bool _) .nil))⟩
          | false =>
            refine ⟨_, _, _, h, OpOK.pure fun ρ N w n act o ho hI hE => ?_⟩
            obtain ⟨u, e1, e2⟩ := run ho hI hE hf
            exact ⟨u, e2, e1⟩
        · rename_i hf
          obtain ⟨z, zv, h, hz, hzr⟩ := zeroK_true h
          cases ok with
          | true =>
            refine ⟨_, _, _, h, OpOK.pure fun ρ N w n act o ho hI hE => ?_⟩
            exact ⟨.tuple #[zv, .bool false], run ho hI hE hf zv hzr, .tup _ _ (.cons _ _ _ _ (hz ρ) (.cons _ _ _ _ (.bool _) .nil))⟩
          | false =>
            refine ⟨_, _, _, h, OpOK.pure fun ρ N w n act o ho hI hE => ?_⟩
            exact ⟨zv, run ho hI hE hf zv hzr, hz ρ⟩
        · cases h
      · cases h
    · cases h
  · cases h
theorem pushE_eq : ∀ (es : List (AV × AV)) (e : AV × AV) (k : List (AV × AV) → Bool), pushE es e k = k (es ++ [e])
  | [], _, _ => rfl
  | x :: es, e, k => by simp only [pushE]; rw [pushE_eq es e]; rfl
theorem ERs.push {ρ : Rho} : ∀ {es : List (AV × AV)} {l : List MapEntry} {a : AV × AV} {e : MapEntry}, ERs ρ es l → VR ρ a.1 e.key → VR ρ a.2 e.val → ERs ρ (es ++ [a]) (l ++ [e])
  | [], [], _, _, _, h1, h2 => ⟨⟨h1, h2⟩, trivial⟩
  | _ :: _, _ :: _, _, _, h, h1, h2 => ⟨h.1, ERs.push h.2 h1 h2⟩
  | [], _ :: _, _, _, h, _, _ => h.elim
  | _ :: _, [], _, _, h, _, _ => h.elim
theorem oInsert_snd (t : TypeId) (m key x : Operand) (op : Op) (hop : op = .insert t m key x ∨ op = .mapUpdate t m key x) : OpSnd P G orc op (oInsert t m key x) := fun env H nx lo k h => by
  unfold oInsert at h
  split at h
  · rename_i kt e he
    obtain ⟨a, ha, h⟩ := ov_true h
    obtain ⟨b, hb, h⟩ := ov_true h
    obtain ⟨c, hc, h⟩ := ov_true h
    split at h
    · rename_i id
      obtain ⟨hlo, h⟩ := guardB_true h
      have hlo := ble_true hlo
      obtain ⟨hkk, h⟩ := guardB_true h
      obtain ⟨ob, hob, h⟩ := opt_true h
      split at h
      · rename_i es
        have hd : ∃ d, P.underlying kt = some d ∧ ((∃ kd, d = .int kd ∧ ∃ k n, b = .int k n) ∨ (d = .string ∧ ∃ l, b = .str l)) := by
          rcases keyKind_true hkk with ⟨kd, e1, k1, n1, rfl⟩ | ⟨e1, l1, rfl⟩
          · exact ⟨_, e1, .inl ⟨kd, rfl, k1, n1, rfl⟩⟩
          · exact ⟨_, e1, .inr ⟨rfl, l1, rfl⟩⟩
        obtain ⟨d, hkt, hd⟩ := hd
        split at h
        · rename_i hf
          rw [pushE_eq] at h
          obtain ⟨H', hH, h⟩ := T.setK_true _ _ _ _ _ h
          refine ⟨_, _, _, h, fun _ i hi => by rw [hH, if_neg (by omega)], Nat.le_refl _, fun ρ N w n act o ho hI hE => ?_⟩
          have h1 := aev_sound hE ha
          have h2 := aev_sound hE hb
          have h3 := aev_sound hE hc
          generalize hx : act.eval m = u at h1
          obtain ⟨bl, sz, entries, clock, k1, k2, k3⟩ := hI.map hob
          cases h1 with
          | map _ bl' sz' hr =>
            rw [k1] at hr; simp at hr; obtain ⟨rfl, rfl⟩ := hr
            have hck := run_checkKey hkk h2 false w
            have hfr := findKey_true hd h2 0 k3 hf
            have hfk : (Instr.findKey kt (act.eval key) entries.toList).run P w = .ok none w := by
              have hfr' : Instr.findNow d (act.eval key) entries.toList 0 = some none := hfr
              simp [Instr.findKey, run_underlying hkt, hfr']
            have hset := hI.set (w' := { w with heap := w.heap.setIfInBounds bl (.map (entries.push { key := act.eval key, val := act.eval x, born := clock }) (clock + 1)) })
              (ob' := .map (entries.push { key := act.eval key, val := act.eval x, born := clock }) (clock + 1)) hob hlo k1 hH (by simp [getElem?_lt k2]) (fun q hq => by simp [Array.getElem?_setIfInBounds_ne (Ne.symm hq)]) (by simp) rfl rfl rfl
              (.map _ _ _ _ (by rw [Array.toList_push]; exact k3.push h2 h3))
            refine ⟨ρ, _, Rho.le_refl ρ, hset.1, hset.2, fun hk => ?_, ?_⟩
            · rcases hop with rfl | rfl <;> cases hk
            · show _ = _
              rcases hop with rfl | rfl <;>
              · simp only [execOp, ho, hx, Instr.mapUpdate, Sem.run_bind, run_underlying he, Result.andThen_ok, getObj, setObj, Sem.run, k2, hck, hfk]
                simp
        · cases h
      · cases h
    · cases h
  · cases h
def OVR (ρ : Rho) : Option AV → Option Value → Prop
  | none, none => True
  | some a, some v => VR ρ a v
  | _, _ => False
def runBound (xv : Option Value) (dflt hi : Nat) (code : BoundsCode) : Sem Nat := match xv with | some v => Instr.sliceBound v hi code | none => pure dflt
theorem sbound_true {x : Option AV} {dflt hi : Nat} {k : Nat → Bool} (h : sbound x dflt hi k = true) :
    ∃ m, k m = true ∧ (x.isSome = true → m ≤ hi) ∧ (x = none → m = dflt) ∧ ∀ {ρ : Rho} {xv : Option Value} (code : BoundsCode) (w : World), OVR ρ x xv →
      (runBound xv dflt hi code).run P w = .ok m w := by
  unfold sbound at h
  split at h
  · refine ⟨_, h, fun hs => by simp at hs, fun _ => rfl, fun {ρ xv} code w hx => ?_⟩
    cases xv with
    | none => rfl
    | some v => exact hx.elim
  · obtain ⟨m, hm, h9⟩ := opt_true h
    clear h
    obtain ⟨hle, h8⟩ := guardB_true h9
    clear h9
    have hle := ble_true hle
    have := nonneg_some hm; subst this
    refine ⟨m, h8, fun _ => hle, (fun hn => by cases hn), fun {ρ xv} code w hx => ?_⟩
    cases xv with
    | none => exact hx.elim
    | some v =>
      change VR ρ _ v at hx
      cases hx
      have : (m : Int) ≤ hi := by omega
      simp [runBound, Instr.sliceBound, asIntOf, this]
  · cases h
theorem sbound_more {x : Option AV} {dflt hi : Nat} {k : Nat → Bool} (h : sbound x dflt hi k = true) :
    ∃ m, k m = true ∧ (x.isSome = true → m ≤ hi) ∧ (x = none → m = dflt) ∧ ∀ {ρ : Rho} {xv : Option Value} (code : BoundsCode) (w : World) (hi' : Nat), hi ≤ hi' → OVR ρ x xv →
      (runBound xv dflt hi' code).run P w = .ok m w := by
  unfold sbound at h
  split at h
  · refine ⟨_, h, fun hs => by simp at hs, fun _ => rfl, fun {ρ xv} code w hi' _ hx => ?_⟩
    cases xv with
    | none => rfl
    | some v => exact hx.elim
  · obtain ⟨m, hm, h9⟩ := opt_true h
    clear h
    obtain ⟨hle, h8⟩ := guardB_true h9
    clear h9
    have hle := ble_true hle
    have := nonneg_some hm; subst this
    refine ⟨m, h8, fun _ => hle, (fun hn => by cases hn), fun {ρ xv} code w hi' hhi hx => ?_⟩
    cases xv with
    | none => exact hx.elim
    | some v =>
      change VR ρ _ v at hx
      cases hx
      have : (m : Int) ≤ hi' := by omega
      simp [runBound, Instr.sliceBound, asIntOf, this]
  · cases h
theorem subL_eq : ∀ (l : List Nat) (lo hi : Nat) (k : List Nat → Bool), subL l lo hi k = k ((l.drop lo).take (hi - lo)) := by
  have tk : ∀ (n : Nat) (l : List Nat) (k : List Nat → Bool), subT n l k = k (l.take n) := by
    intro n
    induction n with
    | zero => intro l k; simp [subT]
    | succ n ih =>
      intro l k
      cases l with
      | nil => simp [subT]
      | cons x l => simp only [subT]; rw [ih]; simp
  have dn : ∀ (n : Nat) (l : List Nat), dropN n l = l.drop n := by
    intro n
    induction n with
    | zero => intro l; simp [dropN]
    | succ n ih => intro l; cases l <;> simp [dropN, ih]
  intro l lo hi k
  unfold subL
  rw [tk, dn]
theorem ovo_true {env : Env} {x : Option Operand} {k : Option AV → Bool} (h : ovo env x k = true) :
    ∃ a, k a = true ∧ ∀ {ρ n} {act : Act}, EnvR ρ env n act.tmps → OVR ρ a (x.map act.eval) := by
  cases x with
  | none => exact ⟨none, h, fun _ => trivial⟩
  | some x =>
    obtain ⟨a, ha, h⟩ := ov_true h
    exact ⟨some a, h, fun hE => aev_sound hE ha⟩
end
end Go.Ev

