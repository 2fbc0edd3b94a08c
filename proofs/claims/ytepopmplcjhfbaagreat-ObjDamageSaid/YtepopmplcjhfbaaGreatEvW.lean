import Derived.Test.YtepopmplcjhfbaaGreatEvV
set_option linter.unusedSectionVars false
set_option linter.unusedVariables false
set_option linter.unusedSimpArgs false
set_option linter.unnecessarySimpa false
namespace Go.Ev
open Go.RowKit
variable [Unk]
section
variable {P : Program} {G : Nat → Nat → Option AV} {orc : Nat → Option Orc} {ec : Nat → Nat → List AV → Heap → Nat → (AEnd → Heap → Nat → Bool) → Bool}
def StepSit (fr : AFr) (cs : List AFr) (ρ : Rho) (_ : Nat) (_ : World) (f : Frame) (fs : List Frame) : Prop := FrameR ρ fr f ∧ FramesR ρ cs fs
theorem sRun_snd (hO : OrcSound P G orc) (hNG : NoNG P) {lo : Nat} (hD : DrawSnd P G orc ec lo) {todo : List AItem} {fn : Nat} {env : Env} {n : Nat} {ds : List ADef} {kind : CallKind} {round : Option Nat} {cs : List AFr} {H : Heap} {nx : Nat} {k : Cont}
    (h : sRun P G orc ec lo todo fn env n ds kind round cs H nx k = true) : Out P G lo k H nx (StepSit ⟨fn, env, n, todo, ds, .run, kind, round⟩ cs) := by
  cases todo with
  | nil => exact endF_snd lo fn env n ds kind round cs H nx k h
  | cons x td =>
    obtain ⟨fr1, cs1, H1, nx1, h1, h2, h3, h4⟩ := itemF_snd hO hNG hD x fn env n td ds kind round cs H nx k h
    refine ⟨fr1, cs1, H1, nx1, h1, h2, h3, fun ρ N w f fs rest hI hS => h4 ρ N w f fs rest hI ?_⟩
    obtain ⟨hf, hfs⟩ := hS
    have hself := atR_self (hf.running rfl)
    have ht := hf.todo rfl
    cases htd : f.todo with
    | nil => rw [htd] at ht; exact ht.elim
    | cons it tdc =>
      rw [htd] at hself ht
      exact ⟨f, ⟨f.tmps, f.defers⟩, it, tdc, hself, ht.1, ⟨hf.fn, hf.env, fun _ => ht.2, hf.defers, trivial, hf.kind, hf.round, fun hm => absurd rfl hm⟩, hfs⟩
theorem step_collected {fr : Frame} {cs : List Frame} {w w' : World} {b : Nat} {args : Array Value} {ds calls : List Deferred} (hm : fr.mode ≠ .run) (hd : fr.defers = { target := .collected b, args } :: ds)
    (hr : (Instr.takeDeferred b).run P w = .ok calls w') : step P (lone fr cs w) = .next (lone { fr with defers := calls ++ ds } cs w') := by
  refine step_lone_go ?_
  cases hmode : fr.mode with
  | run => exact absurd hmode hm
  | returning => simp [stepG, unwind, hmode, hd, Sem.runT_eq, hr]
  | panicking chain => simp [stepG, unwind, hmode, hd, Sem.runT_eq, hr]
theorem FrameR.notRun {ρ : Rho} {fr : AFr} {f : Frame} (h : FrameR ρ fr f) (hm : fr.mode ≠ .run) : f.mode ≠ .run := by
  have := h.mode
  intro e
  rw [e] at this
  cases hf : fr.mode <;> rw [hf] at this <;> first | exact hm hf | exact this.elim
theorem sDefer_snd (hNG : NoNG P) {lo : Nat} {d : ADef} {fn : Nat} {env : Env} {n : Nat} {todo : List AItem} {ds : List ADef} {mode : AMode} {kind : CallKind} {round : Option Nat} {cs : List AFr} {H : Heap} {nx : Nat} {k : Cont} (hm : mode ≠ .run)
    (h : sDefer P lo d fn env n todo ds mode kind round cs H nx k = true) : Out P G lo k H nx (StepSit ⟨fn, env, n, todo, d :: ds, mode, kind, round⟩ cs) := by
  unfold sDefer at h
  split at h
  · rename_i bid
    obtain ⟨hlo, h⟩ := guardB_true h
    have hlo := ble_true hlo
    obtain ⟨o, ho, h⟩ := opt_true h
    split at h
    · rename_i ds'
      obtain ⟨H1, hH, h⟩ := T.setK_true _ _ _ _ _ h
      refine Out.now h (Nat.le_refl _) (fun _ i hi => by rw [hH, if_neg (by omega)]) fun ρ N w f fs rest hI hS => ?_
      obtain ⟨hf, hfs⟩ := hS
      have hd := hf.defers
      simp only at hd
      cases hfd : f.defers with
      | nil => rw [hfd] at hd; exact hd.elim
      | cons dd dds =>
        rw [hfd] at hd
        obtain ⟨hd1, hd2⟩ := hd
        cases hd1 with
        | coll _ b sz hr =>
          obtain ⟨b', sz', ob, e1, e2, e3, e4⟩ := hI.obj _ _ ho
          rw [hr] at e1; simp at e1; obtain ⟨rfl, rfl⟩ := e1
          cases e4 with
          | defdSome _ cds _ hcd =>
            have hrun := run_takeDeferred (P := P) e3
            obtain ⟨i1, i2⟩ := hI.putObj ho hlo hr hH e3 (.defdNone _)
            refine ⟨ρ, _, { f with defers := cds ++ dds }, fs, Rho.le_refl ρ, i1, i2, ⟨hf.fn, hf.env, hf.todo, hcd.append hd2, hf.mode, hf.kind, hf.round, hf.calm⟩, hfs, botF_same _ rfl, .one (step_collected (hf.notRun hm) hfd hrun)⟩
    · cases h
  · rename_i g args
    obtain ⟨fnn, c, env1, hfn, hc, h, hen⟩ := enterK_true h
    refine Out.now h (Nat.le_refl _) (fun _ => HeapLo.refl _ _) fun ρ N w f fs rest hI hS => ?_
    obtain ⟨hf, hfs⟩ := hS
    have hd := hf.defers
    simp only at hd
    cases hfd : f.defers with
    | nil => rw [hfd] at hd; exact hd.elim
    | cons dd dds =>
      rw [hfd] at hd
      obtain ⟨hd1, hd2⟩ := hd
      cases hd1 with
      | call _ _ cap cargs hv =>
        have hne : ¬ fnn.name = "runtime.NumGoroutine" := by simpa using hNG g fnn hfn
        have hinv : (invoke (.fn (.func g) cap) cargs).run P w = .ok (.enter g (cargs ++ cap).toList.toArray) w := by
          simp [invoke, callFunc, hfn, hne, hc]
        have hst := step_defer (P := P) (cs := fs ++ rest) (hf.notRun hm) hfd rfl hinv
        exact Reach.one (fs' := { f with defers := dds } :: fs) hI (hen ρ _ hv) ⟨⟨hf.fn, hf.env, hf.todo, hd2, hf.mode, hf.kind, hf.round, hf.calm⟩, hfs⟩ (botF_push fs rfl) hst
def resF (tmps : Array Value) : ResultVar → Sem Value
  | .tmp t => pure (tmps.getD t undef)
  | .cell a t => do loadVar t (← asAddr (tmps.getD a undef))
theorem resK_true {H : Heap} {env : Env} : ∀ {l : List ResultVar} {k : List AV → Bool}, resK P G H env l k = true → ∃ as, k as = true ∧ ∀ {ρ nx lo N w n} {tmps : Array Value}, Inv G ρ H nx lo N w → EnvR ρ env n tmps →
    ∃ vs, (l.mapM (resF tmps)).run P w = .ok vs w ∧ VRs ρ as vs
  | [], k, h => ⟨[], h, fun _ _ => ⟨[], by simp, .nil⟩⟩
  | .tmp t :: l, k, h => by
    obtain ⟨a, ha, h⟩ := opt_true h
    obtain ⟨as, h, hh⟩ := resK_true h
    refine ⟨_, h, fun {ρ nx lo N w n tmps} hI hE => ?_⟩
    obtain ⟨vs, h1, h2⟩ := hh hI hE
    obtain ⟨v, e1, e2⟩ := hE.2 t a ha
    exact ⟨v :: vs, by simp [List.mapM_cons, resF, e1, h1], .cons _ _ _ _ e2 h2⟩
  | .cell x t :: l, k, h => by
    obtain ⟨a, ha, h⟩ := opt_true h
    obtain ⟨v, h, hld⟩ := loadK_true h
    obtain ⟨as, h, hh⟩ := resK_true h
    refine ⟨_, h, fun {ρ nx lo N w n tmps} hI hE => ?_⟩
    obtain ⟨vs, h1, h2⟩ := hh hI hE
    obtain ⟨u, e1, e2⟩ := hE.2 x a ha
    obtain ⟨ad, r, rfl, e3, e4⟩ := hld hI e2
    exact ⟨r :: vs, by simp [List.mapM_cons, resF, e1, asAddr, e3, h1], .cons _ _ _ _ e4 h2⟩
theorem resultK_true {H : Heap} {f : Nat} {env : Env} {k : AV → Bool} (h : resultK P G H f env k = true) : ∃ fn a, P.funcs[f]? = some fn ∧ k a = true ∧
    ∀ {ρ nx lo N w n} {tmps : Array Value}, Inv G ρ H nx lo N w → EnvR ρ env n tmps → ∃ u, (results fn tmps).run P w = .ok u w ∧ VR ρ a u := by
  unfold resultK at h
  split at h
  · rename_i fn hf
    obtain ⟨as, h, hh⟩ := resK_true h
    have key : ∀ {a : AV}, (∀ {ρ : Rho} {vs : List Value}, VRs ρ as vs → VR ρ a (if h : vs.toArray.size = 1 then vs.toArray[0] else .tuple vs.toArray)) →
        ∀ {ρ nx lo N w n} {tmps : Array Value}, Inv G ρ H nx lo N w → EnvR ρ env n tmps → ∃ u, (results fn tmps).run P w = .ok u w ∧ VR ρ a u := by
      intro a hka ρ nx lo N w n tmps hI hE
      obtain ⟨vs, h1, h2⟩ := hh hI hE
      refine ⟨_, ?_, hka h2⟩
      have hm : results fn tmps = (do let vs ← fn.results.mapM (resF tmps); pure (if h : vs.size = 1 then vs[0] else .tuple vs)) := by
        unfold results
        refine congrArg (fun z => Bind.bind z _) (congrArg (fun g => Array.mapM g fn.results) (funext fun x => ?_))
        cases x <;> rfl
      rw [hm, Array.mapM_eq_mapM_toList]
      simp only [Sem.run_bind, map_eq_pure_bind, h1, Result.andThen_ok, Sem.run_pure]
    split at h
    · refine ⟨fn, _, hf, h, key fun {ρ vs} hv => ?_⟩
      cases hv with
      | cons _ v _ _ h1 h2 => cases h2; simpa using h1
    · rename_i hne
      refine ⟨fn, _, hf, h, key fun {ρ vs} hv => ?_⟩
      have hl := hv.length
      split
      · rename_i h1
        simp at h1
        rw [h1] at hl
        obtain ⟨a, ha⟩ := List.length_eq_one_iff.1 hl
        exact (hne a ha).elim
      · exact .tup _ _ (by simpa using hv)
  · cases h
theorem Frame.no_catch {f : Frame} (h : Calm f.todo) : f.catches P = false := by
  unfold Frame.catches
  split
  · rename_i e1 e2; exact absurd e2 (h _ _ _ _ _)
  · rfl
theorem FrameR.calmAll {ρ : Rho} {fr : AFr} {f : Frame} (h : FrameR ρ fr f) : Calm f.todo := by
  cases hm : fr.mode with
  | run => exact (h.todo hm).calm
  | returning => exact h.calm (by rw [hm]; simp)
  | panicking c => exact h.calm (by rw [hm]; simp)
theorem raiseF_snd {ρ : Rho} {c : AFr} {d : Frame} {ch : List APanic} {ps : List PanicEntry} (h : FrameR ρ c d) (hc : ChainR ρ ch ps) : FrameR ρ (raiseF c ch) (d.raise ps) ∧ (d.raise ps).fn = d.fn := by
  obtain ⟨fn, env, n, todo, ds, mode, kind, round⟩ := c
  rw [Frame.raise_mode]
  refine ⟨?_, rfl⟩
  have hq := h.mode
  simp only at hq
  cases mode with
  | run =>
    cases hd : d.mode with
    | run => exact ⟨h.fn, h.env, (fun hm => by cases hm), h.defers, hc, h.kind, h.round, fun _ => h.calmAll⟩
    | returning => rw [hd] at hq; exact hq.elim
    | panicking x => rw [hd] at hq; exact hq.elim
  | returning =>
    cases hd : d.mode with
    | returning => exact ⟨h.fn, h.env, (fun hm => by cases hm), h.defers, hc, h.kind, h.round, fun _ => h.calmAll⟩
    | run => rw [hd] at hq; exact hq.elim
    | panicking x => rw [hd] at hq; exact hq.elim
  | panicking old =>
    cases hd : d.mode with
    | panicking x => rw [hd] at hq; exact ⟨h.fn, h.env, (fun hm => by cases hm), h.defers, hc.append hq, h.kind, h.round, fun _ => h.calmAll⟩
    | run => rw [hd] at hq; exact hq.elim
    | returning => rw [hd] at hq; exact hq.elim
theorem stepK_snd (hO : OrcSound P G orc) (hNG : NoNG P) {lo : Nat} (hD : DrawSnd P G orc ec lo) {fr : AFr} {cs : List AFr} {H : Heap} {nx : Nat} {k : Cont} (h : stepK P G orc ec lo fr cs H nx k = true) :
    Out P G lo k H nx (StepSit fr cs) := by
  obtain ⟨fn, env, n, todo, ds, mode, kind, round⟩ := fr
  cases mode with
  | run => exact sRun_snd hO hNG hD h
  | returning =>
    cases ds with
    | cons d ds => exact sDefer_snd hNG (by simp) h
    | nil =>
      cases round with
      | some r => cases h
      | none =>
        change resultK P G H fn env (fun v => returnK ⟨fn, env, n, todo, [], .returning, kind, none⟩ cs v H nx k) = true at h
        obtain ⟨fnn, a, hf, h, hres⟩ := resultK_true h
        obtain ⟨fr1, cs1, h, hret⟩ := returnK_true (P := P) h
        refine Out.now h (Nat.le_refl _) (fun _ => HeapLo.refl _ _) fun ρ N w f fs rest hI hS => ?_
        obtain ⟨h1, h2⟩ := hS
        obtain ⟨u, e1, e2⟩ := hres hI h1.env
        obtain ⟨f', fs', k1, k2, k3, k4⟩ := hret ρ f fs u h1.kind h2 e2
        have hmode : f.mode = .returning := by
          have hq := h1.mode
          simp only at hq
          cases hd : f.mode <;> rw [hd] at hq <;> first | rfl | exact hq.elim
        have hdef : f.defers = [] := by
          have hq := h1.defers
          simp only at hq
          cases hd : f.defers with
          | nil => rfl
          | cons x l => rw [hd] at hq; exact hq.elim
        have hfn : P.funcs[f.fn]? = some fnn := by rw [h1.fn rfl]; exact hf
        have hr := k4 rest w
        exact Reach.one hI k1 k2 k3 (step_lone_go (by simp [stepG, unwind, hmode, hdef, hfn, Sem.runT_eq, e1, hr]))
  | panicking chain =>
    cases ds with
    | cons d ds => exact sDefer_snd hNG (by simp) h
    | nil =>
      cases cs with
      | nil => cases h
      | cons c cs =>
        change k (raiseF c chain) cs H nx = true at h
        refine Out.now h (Nat.le_refl _) (fun _ => HeapLo.refl _ _) fun ρ N w f fs rest hI hS => ?_
        obtain ⟨h1, h2⟩ := hS
        cases fs with
        | nil => exact h2.elim
        | cons d fs =>
          have hq := h1.mode
          simp only at hq
          cases hm : f.mode with
          | run => rw [hm] at hq; exact hq.elim
          | returning => rw [hm] at hq; exact hq.elim
          | panicking ps =>
            rw [hm] at hq
            obtain ⟨k1, k2⟩ := raiseF_snd h2.1 hq
            have hdef : f.defers = [] := by
              have hq := h1.defers
              simp only at hq
              cases hd : f.defers with
              | nil => rfl
              | cons x l => rw [hd] at hq; exact hq.elim
            have hcat := Frame.no_catch (P := P) h1.calmAll
            exact Reach.one hI k1 h2.2 (botF_pop fs k2) (step_lone_go (by simp [stepG, unwind, hm, hdef, hcat]))
def EndR (ρ : Rho) : AEnd → Ending → Prop
  | .ret a, .returned v => VR ρ a v
  | .pan c, .panicked c' => ChainR ρ c c'
  | _, _ => False
def EcSnd (P : Program) (G : Nat → Nat → Option AV) (ec : Nat → Nat → List AV → Heap → Nat → (AEnd → Heap → Nat → Bool) → Bool) : Prop :=
  ∀ lo f args H nx k, ec lo f args H nx k = true → ∃ e H' nx', k e H' nx' = true ∧ nx ≤ nx' ∧ (lo ≤ nx → HeapLo lo H H') ∧ (∃ fn c, P.funcs[f]? = some fn ∧ fn.body = some c) ∧
    ∀ ρ N w vs, Inv G ρ H nx lo N w → VRs ρ args vs → Calls P f vs.toArray w fun e' w' => ∃ ρ', ρ.le ρ' ∧ Inv G ρ' H' nx' lo N w' ∧ Below N w w' ∧ EndR ρ' e e'
def RunSnd (P : Program) (G : Nat → Nat → Option AV) (orc : Nat → Option Orc) (fuel : Nat) : Prop :=
  ∀ lo fr cs H nx fin, run P G orc fuel lo fr cs H nx fin = true → ∃ e H' nx', fin e H' nx' = true ∧ nx ≤ nx' ∧ (lo ≤ nx → HeapLo lo H H') ∧
    ∀ ρ N w f fs rest f0, Inv G ρ H nx lo N w → FrameR ρ fr f → FramesR ρ cs fs → botF f fs = some f0 → (∃ fn, P.funcs[f0]? = some fn) →
      ∃ e' w' f' ρ', ρ.le ρ' ∧ Inv G ρ' H' nx' lo N w' ∧ Below N w w' ∧ EndR ρ' e e' ∧ Comes P (lone f (fs ++ rest) w) (lone f' rest w') e' ∧ f'.fn = f0 ∧ f'.leaving P w' e'
theorem ec_snd {fuel : Nat} (h : RunSnd P G orc fuel) : EcSnd P G (fun lo f args H nx k => enterK P f args .normal fun fr' => run P G orc fuel lo fr' [] H nx k) := by
  intro lo f args H nx k hk
  obtain ⟨fn, c, env, hf, hc, hk, hen⟩ := enterK_true hk
  obtain ⟨e, H', nx', h1, h2, h3, h4⟩ := h _ _ _ _ _ _ hk
  refine ⟨e, H', nx', h1, h2, h3, ⟨fn, c, hf, hc⟩, fun ρ N w vs hI hv cs => ?_⟩
  obtain ⟨e', w', f', ρ', k1, k2, k3, k4, k5, k6, k7⟩ := h4 ρ N w _ [] cs f hI (hen ρ vs hv) trivial rfl ⟨fn, hf⟩
  exact ⟨e', w', f', ⟨ρ', k1, k2, k3, k4⟩, k5, k6, k7⟩
theorem leavingB_true {fr : AFr} {cs : List AFr} (h : leavingB fr cs = true) : cs = [] ∧ fr.defers = [] ∧ fr.kind = .normal ∧ fr.round = none ∧ fr.mode ≠ .run := by
  obtain ⟨fn, env, n, todo, ds, mode, kind, round⟩ := fr
  unfold leavingB at h
  cases cs with
  | cons c cs => cases h
  | nil =>
    simp only at h
    split at h
    · exact ⟨rfl, rfl, rfl, rfl, by simp⟩
    · exact ⟨rfl, rfl, rfl, rfl, by simp⟩
    · cases h
theorem run_snd (hO : OrcSound P G orc) (hNG : NoNG P) (hDraw : ∀ ec, EcSnd P G ec → ∀ lo, DrawSnd P G orc ec lo) : ∀ fuel, RunSnd P G orc fuel
  | 0 => fun _ _ _ _ _ _ h => by cases h
  | fuel + 1 => by
    intro lo fr cs H nx fin h
    have ih := run_snd hO hNG hDraw fuel
    unfold run at h
    split at h
    · rename_i hl
      obtain ⟨rfl, hd, hkd, hro, hm⟩ := leavingB_true hl
      obtain ⟨fn, env, n, todo, ds, mode, kind, round⟩ := fr
      simp only at h hd hkd hro hm
      subst hd hkd hro
      split at h
      · obtain ⟨fnn, a, hf, h, hres⟩ := resultK_true h
        refine ⟨_, _, _, h, Nat.le_refl _, fun _ => HeapLo.refl _ _, fun ρ N w f fs rest f0 hI h1 h2 hb hf0 => ?_⟩
        cases fs with
        | cons x l => exact h2.elim
        | nil =>
          obtain ⟨u, e1, e2⟩ := hres hI h1.env
          have hfn := h1.fn rfl
          simp [botF] at hb
          have hmode : f.mode = .returning := by
            have hq := h1.mode
            simp only at hq
            cases hd : f.mode <;> rw [hd] at hq <;> first | rfl | exact hq.elim
          have hdef : f.defers = [] := by
            have hq := h1.defers
            simp only at hq
            cases hd : f.defers with
            | nil => rfl
            | cons x l => rw [hd] at hq; exact hq.elim
          exact ⟨.returned u, w, f, ρ, Rho.le_refl ρ, hI, Below.refl _ _, e2, Steps.refl P _, hb, hmode, hdef, h1.kind, fnn, by rw [hfn]; exact hf, e1⟩
      · rename_i chain
        refine ⟨_, _, _, h, Nat.le_refl _, fun _ => HeapLo.refl _ _, fun ρ N w f fs rest f0 hI h1 h2 hb hf0 => ?_⟩
        cases fs with
        | cons x l => exact h2.elim
        | nil =>
          simp [botF] at hb
          have hq := h1.mode
          simp only at hq
          cases hmm : f.mode with
          | run => rw [hmm] at hq; exact hq.elim
          | returning => rw [hmm] at hq; exact hq.elim
          | panicking ps =>
            rw [hmm] at hq
            have hdef : f.defers = [] := by
              have hq := h1.defers
              simp only at hq
              cases hd : f.defers with
              | nil => rfl
              | cons x l => rw [hd] at hq; exact hq.elim
            exact ⟨.panicked ps, w, f, ρ, Rho.le_refl ρ, hI, Below.refl _ _, hq, Steps.refl P _, hb, hmm, hdef, hb ▸ hf0⟩
      · cases h
    · obtain ⟨fr1, cs1, H1, nx1, h, h2, h3, h4⟩ := stepK_snd hO hNG (hDraw _ (ec_snd ih) lo) h
      obtain ⟨e, H', nx', h, k2, k3, k4⟩ := ih _ _ _ _ _ _ h
      refine ⟨e, H', nx', h, Nat.le_trans h2 k2, fun hl => (h3 hl).trans (k3 (Nat.le_trans hl h2)), fun ρ N w f fs rest f0 hI hf hfs hb hf0 => ?_⟩
      obtain ⟨ρ1, w1, f1, fs1, q1, q2, q3, q4, q5, q6, q7⟩ := h4 ρ N w f fs rest hI ⟨hf, hfs⟩
      obtain ⟨e', w', f', ρ', r1, r2, r3, r4, r5, r6, r7⟩ := k4 ρ1 N w1 f1 fs1 rest f0 q2 q4 q5 (q6 ▸ hb) hf0
      exact ⟨e', w', f', ρ', Rho.le_trans q1 r1, r2, q3.trans r3, r4, Comes.of_steps q7 r5, r6, r7⟩
end
end Go.Ev

