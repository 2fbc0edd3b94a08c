import Derived.Test.YtepopmplcjhfbaaGreatEvT
set_option linter.unusedSectionVars false
set_option linter.unusedVariables false
set_option linter.unusedSimpArgs false
set_option linter.unnecessarySimpa false
namespace Go.Ev
open Go.RowKit
variable [Unk]
section
variable {P : Program} {G : Nat → Nat → Option AV} {orc : Nat → Option Orc}
theorem FrameR.put {ρ : Rho} {fn : Nat} {env env' : Env} {n : Nat} {td : List AItem} {ds ds' : List ADef} {kind : CallKind} {round : Option Nat} {b : Frame} {a a' : Act} {tdc : List Item}
    (h : FrameR ρ ⟨fn, env, n, td, ds, .run, kind, round⟩ (b.atR a tdc)) (hE : EnvR ρ env' n a'.tmps) (hd : DRs ρ ds' a'.defers) : FrameR ρ ⟨fn, env', n, td, ds', .run, kind, round⟩ (b.atR a' tdc) :=
  ⟨h.fn, hE, h.todo, hd, h.mode, h.kind, h.round, fun hm => absurd rfl hm⟩
theorem enterK_true {f : Nat} {args : List AV} {kind : CallKind} {k : AFr → Bool} (h : enterK P f args kind k = true) : ∃ fn c env, P.funcs[f]? = some fn ∧ fn.body = some c ∧ k ⟨f, env, fn.ntmps, [.code c], [], .run, kind, none⟩ = true ∧
    ∀ ρ vs, VRs ρ args vs → FrameR ρ ⟨f, env, fn.ntmps, [.code c], [], .run, kind, none⟩ (Frame.enter P f vs.toArray kind) := by
  unfold enterK at h
  split at h
  · rename_i fn hf
    split at h
    · rename_i c hc
      obtain ⟨env, henv, h⟩ := mkCells_true h
      obtain ⟨g, h⟩ := guardB_true h
      have g := ble_true g
      rw [len_eq] at g
      rw [fN_eq] at h
      refine ⟨fn, c, env, hf, hc, h, fun ρ vs hvs => ?_⟩
      have hl := hvs.length
      refine ⟨fun _ => rfl, ⟨?_, fun i a e => ?_⟩, fun _ => ?_, ?_, ?_, rfl, ?_, fun hm => absurd rfl hm⟩
      · simp [Frame.enter, hf]; omega
      · rw [henv] at e
        obtain ⟨v, e1, e2⟩ := hvs.get i a e
        have hi : i < vs.length := (List.getElem?_eq_some_iff.1 e1).1
        refine ⟨v, ?_, e2⟩
        simp only [Frame.enter]
        rw [Array.getElem?_append_left (by simpa using hi)]
        simpa using e1
      · simp [Frame.enter, hf, hc, TodoR, ItemR]
      · exact trivial
      · exact trivial
      · exact trivial
    · cases h
  · cases h
theorem putParams_true {n : Nat} : ∀ {ts : List Tmp} {as : List AV} {env : Env} {k : T AV → Bool}, putParams env n ts as k = true → ∃ env', k env' = true ∧ ts.length = as.length ∧
    ∀ ρ tmps vs, EnvR ρ env n tmps → VRs ρ as vs → EnvR ρ env' n ((ts.zip vs).foldl (fun tmps (x : Tmp × Value) => tmps.setIfInBounds x.1 x.2) tmps)
  | [], [], env, k, h => ⟨env, h, rfl, fun ρ tmps vs hE hv => by cases hv; exact hE⟩
  | [], _ :: _, _, _, h => by cases h
  | _ :: _, [], _, _, h => by cases h
  | t :: ts, a :: as, env, k, h => by
    obtain ⟨g, h⟩ := guardB_true h
    have g := blt_true g
    obtain ⟨env1, he, h⟩ := T.setK_true _ _ _ _ _ h
    obtain ⟨env', h, hl, hh⟩ := putParams_true h
    refine ⟨env', h, by simp [hl], fun ρ tmps vs hE hv => ?_⟩
    cases hv with
    | cons _ v _ vs h1 h2 =>
      simp only [List.zip_cons_cons, List.foldl_cons]
      exact hh ρ _ vs (hE.put g he h1) h2
def OutSit (P : Program) (out : AOut) (o : Oper) (fn : Nat) (env : Env) (n : Nat) (ops : Array Oper) (rest : List Oper) (td : List AItem) (ds : List ADef) (kind : CallKind) (round : Option Nat) (cs : List AFr) (ρ : Rho) (_ : Nat) (w : World) (f : Frame) (fs : List Frame) : Prop :=
  ∃ b a i is tdc, f = Frame.atR b a (.inRegion ops (i :: is) :: tdc) ∧ FrameR ρ ⟨fn, env, n, td, ds, .run, kind, round⟩ (b.atR a tdc) ∧ FramesR ρ cs fs ∧ ops[i]? = some o ∧ RestR ops rest is ∧
    Region.wanted o (yielded ops a.tmps) = true ∧ OutR P ρ ρ w w out ((execOp a.eval o).run P w)
theorem outF_snd {lo : Nat} {out : AOut} {o : Oper} (hov : outVal out = none) (hdef : ∀ c, o.op = .defer c → ∃ d, out = .defer d) {fn : Nat} {env : Env} {n : Nat} {ops : Array Oper} {rest : List Oper} {td : List AItem}
    {ds : List ADef} {kind : CallKind} {round : Option Nat} {cs : List AFr} {H : Heap} {nx : Nat} {k : Cont} (h : outF P out fn env n ops (o :: rest) td ds kind round cs H nx k = true) :
    Out P G lo k H nx (OutSit P out o fn env n ops rest td ds kind round cs) := by
  have hsem : (∀ d, out ≠ .defer d) → ∀ (b : Frame) (a : Act), o.semAt b.roundOf a.eval = execOp a.eval o := fun hno b a => Oper.semAt_eq _ _ _ fun c hc => by
    obtain ⟨d, e⟩ := hdef c hc
    exact hno d e
  cases out with
  | val v => cases hov
  | skip => cases hov
  | called f as v => cases hov
  | enter g as =>
    change outEnter P g as fn env n ops (o :: rest) td ds kind round cs H nx k = true at h
    unfold outEnter at h
    obtain ⟨fnn, c, env1, hf, hc, h, hen⟩ := enterK_true h
    refine Out.now h (Nat.le_refl _) (fun _ => HeapLo.refl _ _) fun ρ N w f fs rest' hI hS => ?_
    obtain ⟨b, a, i, is, tdc, rfl, h1, h2, h3, h4, h5, vs, h6, _, _, h7⟩ := hS
    exact Reach.one (fs' := b.atR a (.inRegion ops (i :: is) :: tdc) :: fs) hI (hen ρ vs h7) ⟨h1.push ⟨i :: is, rfl, h3, h4⟩, h2⟩ (botF_push fs rfl) (step_op_enter h3 h5 (hsem (fun d => by simp) b a) (h6 fnn c hf hc))
  | round l as =>
    obtain ⟨st, pending, env', n', ps, assign, body, d, hl, h⟩ := loopAt_true h
    obtain ⟨env1, h, hlen, hpp⟩ := putParams_true h
    refine Out.now h (Nat.le_refl _) (fun _ => HeapLo.refl _ _) fun ρ N w f fs rest' hI hS => ?_
    obtain ⟨b, a, i, is, tdc, rfl, h1, h2, h3, h4, h5, lb, sz, vs, h6, h7, h8, _, _⟩ := hS
    obtain ⟨lb', sz', r, db, dsz, e1, e2, e3, e4, e5, e6, e7, e8, e9, e10, e11⟩ := hI.loop hl
    rw [e1] at h6; simp at h6; obtain ⟨rfl, rfl⟩ := h6
    have hps : r.params.size = ps.length := by rw [← e7]; simp
    have hy := run_yield (P := P) (args := vs.toArray) e3 (by rw [hps, hlen, h7.length]; simp)
    rw [hy] at h8
    refine Reach.one (fs' := b.atR a (.inRegion ops (i :: is) :: tdc) :: fs) hI ?_ ⟨h1.push ⟨i :: is, rfl, h3, h4⟩, h2⟩ (botF_push fs rfl) (step_op_round h3 h5 (hsem (fun d => by simp) b a) h8)
    refine ⟨fun hr => (by cases hr), ?_, fun _ => ?_, trivial, trivial, rfl, ⟨sz', e1⟩, fun hm => absurd rfl hm⟩
    · have := hpp ρ r.tmps vs e6 h7
      rw [← e7] at this
      simp only [Frame.round]
      have e : (r.params.zip vs.toArray).foldl (fun tmps (x : Tmp × Value) => tmps.setIfInBounds x.1 x.2) r.tmps = (r.params.toList.zip vs).foldl (fun tmps (x : Tmp × Value) => tmps.setIfInBounds x.1 x.2) r.tmps := by
        rw [← Array.foldl_toList]; simp
      rw [← e] at this
      exact this
    · exact ⟨by simp [ItemR, e8], rfl, by simp [ItemR, e9], trivial⟩
  | defer d =>
    change outDefer d fn env n ops (o :: rest) td ds kind round cs H nx k = true at h
    unfold outDefer at h
    split at h
    · cases h
    · obtain ⟨env1, h, he⟩ := putK_true h
      refine Out.now h (Nat.le_refl _) (fun _ => HeapLo.refl _ _) fun ρ N w f fs rest' hI hS => ?_
      obtain ⟨b, a, i, is, tdc, rfl, h1, h2, h3, h4, h5, dd, h6, _, _, h7⟩ := hS
      have hE := he ρ { a with defers := dd :: a.defers } undef h1.env VR.undef
      have hb0 : b.roundOf = none := RoundR.none_eq (ρ := ρ) h1.round
      refine Reach.one (f' := b.atR ({ a with defers := dd :: a.defers }.put o.dst undef) (.inRegion ops is :: tdc)) hI ?_ h2 (botF_same _ rfl) (step_op_defer h3 h5 hb0 h6)
      exact (h1.put hE (by rw [Act.put_defers]; exact ⟨h7, h1.defers⟩)).push ⟨is, rfl, h4⟩
  | recover =>
    change outRecover fn env n ops (o :: rest) td ds kind round cs H nx k = true at h
    unfold outRecover at h
    split at h
    · cases h
    · simp only at h
      split at h
      · -- deferred
        split at h
        · cases h
        · rename_i c cs'
          obtain ⟨cfn, cenv, cn, ctodo, cds, cmode, ckind, cround⟩ := c
          simp only at h
          split at h
          · rename_i v older
            obtain ⟨env1, h, he⟩ := putK_true h
            refine Out.now h (Nat.le_refl _) (fun _ => HeapLo.refl _ _) fun ρ N w f fs rest' hI hS => ?_
            obtain ⟨b, a, i, is, tdc, rfl, h1, h2, h3, h4, h5, h6, _, _⟩ := hS
            cases fs with
            | nil => exact h2.elim
            | cons c fs =>
              have hq := h2.1.mode
              simp only at hq
              cases hcm : c.mode with
              | run => rw [hcm] at hq; exact hq.elim
              | returning => rw [hcm] at hq; exact hq.elim
              | panicking ps =>
                rw [hcm] at hq
                cases ps with
                | nil => exact hq.elim
                | cons p ps =>
                  obtain ⟨pv, pr, pg⟩ := p
                  obtain ⟨⟨q1, q2, q3⟩, q4⟩ := hq
                  simp only at q1 q2 q3
                  subst q2 q3
                  have hkind : b.kind = .deferred := h1.kind
                  have hE := he ρ a pv h1.env q1
                  refine Reach.one (f' := b.atR (a.put o.dst pv) (.inRegion ops is :: tdc)) (fs' := { c with mode := .panicking ({ v := pv, recovered := true } :: ps) } :: fs) hI ?_ ⟨?_, h2.2⟩ ?_
                    (step_op_recover h3 h5 (hsem (fun d => by simp) b a) (RoundR.none_eq (ρ := ρ) h1.round) h6 (.inl ?_))
                  · exact (h1.put hE (by rw [Act.put_defers]; exact h1.defers)).push ⟨is, rfl, h4⟩
                  · exact ⟨h2.1.fn, h2.1.env, (fun hm => by cases hm), h2.1.defers, ⟨⟨q1, rfl, rfl⟩, q4⟩, h2.1.kind, h2.1.round, fun _ => h2.1.calm (by simp)⟩
                  · simp [botF, Frame.atR]
                  · simp [tryRecover, Frame.atR, hkind, hcm]
          · obtain ⟨env1, h, he⟩ := putK_true h
            refine Out.now h (Nat.le_refl _) (fun _ => HeapLo.refl _ _) fun ρ N w f fs rest' hI hS => ?_
            obtain ⟨b, a, i, is, tdc, rfl, h1, h2, h3, h4, h5, h6, _, _⟩ := hS
            cases fs with
            | nil => exact h2.elim
            | cons c fs =>
              have hq := h2.1.mode
              simp only at hq
              cases hcm : c.mode with
              | run => rw [hcm] at hq; exact hq.elim
              | panicking ps => rw [hcm] at hq; exact hq.elim
              | returning =>
                have hkind : b.kind = .deferred := h1.kind
                have hE := he ρ a .nilIface h1.env .nilIface
                refine Reach.one (f' := b.atR (a.put o.dst .nilIface) (.inRegion ops is :: tdc)) (fs' := c :: fs) hI ?_ h2 (botF_same _ rfl)
                  (step_op_recover h3 h5 (hsem (fun d => by simp) b a) (RoundR.none_eq (ρ := ρ) h1.round) h6 (.inr ⟨?_, rfl, rfl⟩))
                · exact (h1.put hE (by rw [Act.put_defers]; exact h1.defers)).push ⟨is, rfl, h4⟩
                · simp [tryRecover, Frame.atR, hkind, hcm]
          · cases h
      · obtain ⟨env1, h, he⟩ := putK_true h
        refine Out.now h (Nat.le_refl _) (fun _ => HeapLo.refl _ _) fun ρ N w f fs rest' hI hS => ?_
        obtain ⟨b, a, i, is, tdc, rfl, h1, h2, h3, h4, h5, h6, _, _⟩ := hS
        have hkind : b.kind = .normal := h1.kind
        have hE := he ρ a .nilIface h1.env .nilIface
        refine Reach.one (f' := b.atR (a.put o.dst .nilIface) (.inRegion ops is :: tdc)) (fs' := fs) hI ?_ h2 (botF_same _ rfl)
          (step_op_recover h3 h5 (hsem (fun d => by simp) b a) (RoundR.none_eq (ρ := ρ) h1.round) h6 (.inr ⟨?_, rfl, rfl⟩))
        · exact (h1.put hE (by rw [Act.put_defers]; exact h1.defers)).push ⟨is, rfl, h4⟩
        · simp [tryRecover, Frame.atR, hkind]
      · cases h
  | panic v =>
    refine Out.now h (Nat.le_refl _) (fun _ => HeapLo.refl _ _) fun ρ N w f fs rest' hI hS => ?_
    obtain ⟨b, a, i, is, tdc, rfl, h1, h2, h3, h4, h5, u, h6, _, _, h7⟩ := hS
    refine Reach.one (f' := { b.atR a (.inRegion ops (i :: is) :: tdc) with mode := .panicking [{ v := u, recovered := false }] }) hI ?_ h2 (botF_same _ rfl) (step_op_panic h3 h5 (hsem (fun d => by simp) b a) h6)
    exact ⟨h1.fn, h1.env, (fun hm => by cases hm), h1.defers, ⟨⟨h7, rfl, rfl⟩, trivial⟩, h1.kind, h1.round, fun _ d wr re sa k e => by cases e⟩
theorem cRegion_snd (hO : OrcSound P G orc) (hNG : NoNG P) (lo : Nat) (ops : Array Oper) (l : List Oper) : CodeSnd P G lo (fun _ it => ∃ is, it = .inRegion ops is ∧ RestR ops l is) (cRegion P G orc lo ops l) := by
  intro fn env n td ds kind round cs H nx k h
  obtain ⟨env', H', nx', k1, k2, h⟩ := opsK_true hO hNG l h
  rcases h with ⟨h, hh⟩ | ⟨out, o, rest, h, hov, hd, hh⟩
  · refine Out.now h k1 k2 fun ρ N w f fs rest' hI hS => ?_
    obtain ⟨b, a, it, tdc, rfl, ⟨is, rfl, hr⟩, h2, h3⟩ := hS
    obtain ⟨ρ', w', a', q1, q2, q3, q4, q5, q6⟩ := hh ρ N w a is b tdc (fs ++ rest') hI h2.env hr
    refine ⟨ρ', w', b.atR a' tdc, fs, q1, q2, q3, (h2.mono q1).put q4 (by rw [q5]; exact h2.defers.mono q1), h3.mono q1, botF_same _ rfl, Steps.trans q6 (.one stepR_region_end)⟩
  · refine Out.of_step (outF_snd (lo := lo) hov hd h) k1 k2 fun ρ N w f fs rest' hI hS => ?_
    obtain ⟨b, a, it, tdc, rfl, ⟨is, rfl, hr⟩, h2, h3⟩ := hS
    obtain ⟨ρ', w', a', i, is', q1, q2, q3, q4, q5, q6, q7, q8, q9, q10⟩ := hh ρ N w a is b tdc (fs ++ rest') hI h2.env hr
    exact ⟨ρ', w', b.atR a' (.inRegion ops (i :: is') :: tdc), fs, q1, q2, q3, botF_same _ rfl, ⟨b, a', i, is', tdc, rfl, (h2.mono q1).put q4 (by rw [q5]; exact h2.defers.mono q1), h3.mono q1, q6, q7, q8, q9⟩, q10⟩
end
end Go.Ev

