import Derived.Test.YtepopmplcjhfbaaGreatEvP
set_option linter.unusedSectionVars false
set_option linter.unusedVariables false
set_option linter.unusedSimpArgs false
set_option linter.unnecessarySimpa false
namespace Go.Ev
open Go.RowKit
variable [Unk]
section
variable {P : Program} {G : Nat → Nat → Option AV} {orc : Nat → Option Orc}
theorem atR_self {f : Frame} (h : f.mode = .run) : f = f.atR ⟨f.tmps, f.defers⟩ f.todo := by
  cases f; simp at h; subst h; rfl
theorem FrameR.running {ρ : Rho} {fr : AFr} {f : Frame} (h : FrameR ρ fr f) (hm : fr.mode = .run) : f.mode = .run := by
  have := h.mode
  rw [hm] at this
  cases hf : f.mode <;> rw [hf] at this <;> first | rfl | exact this.elim
theorem finishK_true {c : AFr} {v : AV} {k : AFr → Bool} (h : finishK c v k = true) : ∃ c1, k c1 = true ∧ ∀ ρ f u, FrameR ρ c f → VR ρ v u → FrameR ρ c1 (f.finish u) ∧ (f.finish u).fn = f.fn := by
  obtain ⟨fn, env, n, todo, ds, mode, kind, round⟩ := c
  unfold finishK at h
  cases mode with
  | returning => cases h
  | panicking c => cases h
  | run =>
    simp only at h
    split at h
    · rename_i ops o rest td
      obtain ⟨env', h, he⟩ := putK_true h
      refine ⟨_, h, fun ρ f u hf hu => ?_⟩
      have hr := hf.running rfl
      have ht := hf.todo rfl
      simp only at ht
      cases htd : f.todo with
      | nil => rw [htd] at ht; exact ht.elim
      | cons it tdc =>
        rw [htd] at ht
        obtain ⟨⟨is, rfl, h2⟩, h3⟩ := ht
        cases is with
        | nil => exact h2.elim
        | cons i is =>
          have hself := atR_self hr
          rw [htd] at hself
          rw [hself, Frame.finish_atR, h2.1]
          refine ⟨⟨hf.fn, ?_, fun _ => ⟨⟨is, rfl, h2.2⟩, h3⟩, ?_, trivial, hf.kind, hf.round, fun hm => absurd rfl hm⟩, rfl⟩
          · exact he ρ ⟨f.tmps, f.defers⟩ u hf.env hu
          · have hd := hf.defers
            simp only [Frame.atR, Act.put, Option.bind_some]
            split <;> exact hd
    · rename_i l td
      refine ⟨_, h, fun ρ f u hf hu => ?_⟩
      have hr := hf.running rfl
      have ht := hf.todo rfl
      simp only at ht
      cases htd : f.todo with
      | nil => rw [htd] at ht; exact ht.elim
      | cons it tdc =>
        rw [htd] at ht
        obtain ⟨⟨b, sz, h1, rfl⟩, h3⟩ := ht
        have hself := atR_self hr
        rw [htd] at hself
        rw [hself, finish_atR_inRangeFunc]
        exact ⟨⟨hf.fn, hf.env, fun _ => ⟨⟨b, sz, h1, rfl⟩, h3⟩, hf.defers, trivial, hf.kind, hf.round, fun hm => absurd rfl hm⟩, rfl⟩
    · cases h
theorem ChainR.noGoexit {ρ : Rho} : ∀ {l : List APanic} {ps : List PanicEntry}, ChainR ρ l ps → ps.dropWhile (!·.goexit) = []
  | [], [], _ => rfl
  | _ :: _, p :: ps, h => by
    rw [List.dropWhile_cons, if_pos (by simp [h.1.2.2])]
    exact ChainR.noGoexit h.2
  | [], _ :: _, h => h.elim
  | _ :: _, [], h => h.elim
def Returns (P : Program) (f : Frame) (fs : List Frame) (u : Value) (f' : Frame) (fs' : List Frame) : Prop :=
  ∀ rest w, doReturn P true f (fs ++ rest) none u w = .go { frame := f', callers := fs' ++ rest, status := .running, dying := none } w
theorem returnK_true {fr : AFr} {cs : List AFr} {v : AV} {H : Heap} {nx : Nat} {k : Cont} (h : returnK fr cs v H nx k = true) : ∃ fr1 cs1, k fr1 cs1 H nx = true ∧
    ∀ ρ f fs u, f.kind = fr.kind → FramesR ρ cs fs → VR ρ v u → ∃ f' fs', FrameR ρ fr1 f' ∧ FramesR ρ cs1 fs' ∧ botF f fs = botF f' fs' ∧ Returns P f fs u f' fs' := by
  obtain ⟨fn, env, n, todo, ds, mode, kind, round⟩ := fr
  unfold returnK at h
  simp only at h
  cases cs with
  | nil => cases h
  | cons c cs =>
    simp only at h
    cases kind with
    | normal =>
      obtain ⟨c1, h, hc⟩ := finishK_true h
      refine ⟨c1, cs, h, fun ρ f fs u hk hfs hu => ?_⟩
      cases fs with
      | nil => exact hfs.elim
      | cons d fs =>
        obtain ⟨k1, k2⟩ := hc ρ d u hfs.1 hu
        refine ⟨d.finish u, fs, k1, hfs.2, botF_pop fs k2, fun rest w => ?_⟩
        simp [doReturn, hk]
    | deferred =>
      obtain ⟨fn2, env2, n2, todo2, ds2, mode2, kind2, round2⟩ := c
      simp only at h
      have other : ∀ (hm : ∀ ρ m, ModeR ρ mode2 m → settle m = m), k ⟨fn2, env2, n2, todo2, ds2, mode2, kind2, round2⟩ cs H nx = true → ∃ fr1 cs1, k fr1 cs1 H nx = true ∧
          ∀ ρ f fs u, f.kind = CallKind.deferred → FramesR ρ (⟨fn2, env2, n2, todo2, ds2, mode2, kind2, round2⟩ :: cs) fs → VR ρ v u → ∃ f' fs', FrameR ρ fr1 f' ∧ FramesR ρ cs1 fs' ∧ botF f fs = botF f' fs' ∧ Returns P f fs u f' fs' := by
        intro hm h
        refine ⟨_, cs, h, fun ρ f fs u hk hfs hu => ?_⟩
        cases fs with
        | nil => exact hfs.elim
        | cons d fs =>
          refine ⟨d, fs, hfs.1, hfs.2, botF_pop fs rfl, fun rest w => ?_⟩
          have := hm ρ d.mode hfs.1.mode
          unfold settle at this
          simp only [doReturn, hk, List.cons_append]
          split
          · rename_i older hd
            rw [hd] at this
            simp only at this
            split at this
            · cases this
            · rename_i hdw
              have hq := hfs.1.mode
              rw [hd] at hq
              cases mode2 with
              | run => exact hq.elim
              | returning => exact hq.elim
              | panicking ch =>
                cases ch with
                | nil => exact hq.elim
                | cons p ch =>
                  have := ChainR.noGoexit hq.2
                  exact absurd this hdw
          · rfl
      split at h
      · rename_i v0 older
        refine ⟨_, cs, h, fun ρ f fs u hk hfs hu => ?_⟩
        cases fs with
        | nil => exact hfs.elim
        | cons d fs =>
          obtain ⟨hd, hfs2⟩ := hfs
          refine ⟨{ d with mode := .returning }, fs, ⟨hd.fn, hd.env, fun hm => (by cases hm), hd.defers, trivial, hd.kind, hd.round, fun _ => hd.calm (by simp)⟩, hfs2, botF_pop fs rfl, fun rest w => ?_⟩
          have hq := hd.mode
          simp only at hq
          cases hdm : d.mode with
          | run => rw [hdm] at hq; exact hq.elim
          | returning => rw [hdm] at hq; exact hq.elim
          | panicking ps =>
            rw [hdm] at hq
            cases ps with
            | nil => exact hq.elim
            | cons p ps =>
              obtain ⟨pv, pr, pg⟩ := p
              have e1 := hq.1.2.1
              simp only at e1
              subst e1
              have e2 := ChainR.noGoexit hq.2
              simp [doReturn, hk, hdm, e2]
      · rename_i hno
        refine other (fun ρ m hm => ?_) h
        unfold settle
        split
        · rename_i older
          cases mode2 with
          | run => exact hm.elim
          | returning => exact hm.elim
          | panicking ch =>
            cases ch with
            | nil => exact hm.elim
            | cons p ch =>
              obtain ⟨pv, pr⟩ := p
              have e1 := hm.1.2.1
              simp only at e1
              subst e1
              exact absurd rfl (hno _ _)
        · rfl
    | wrapped => cases h
    | report => cases h
    | early => cases h
theorem loopAt_true {H : Heap} {l : Nat} {k : LoopState → Option Code → T AV → Nat → List Tmp → Code → Code → Nat → Bool} (h : loopAt H l k = true) :
    ∃ st pending env n ps assign body d, H.get l = some (.loop st pending env n ps assign body d) ∧ k st pending env n ps assign body d = true := by
  obtain ⟨o, ho, h⟩ := opt_true h
  split at h
  · exact ⟨_, _, _, _, _, _, _, _, ho, h⟩
  · cases h
theorem Inv.loop {ρ : Rho} {H : Heap} {nx lo N : Nat} {w : World} (hI : Inv G ρ H nx lo N w) {l : Nat} {st : LoopState} {pending : Option Code} {env : T AV} {n : Nat} {ps : List Tmp} {assign body : Code} {d : Nat}
    (h : H.get l = some (.loop st pending env n ps assign body d)) : ∃ b sz r db dsz, ρ l = some (b, sz) ∧ (lo ≤ l → N ≤ b) ∧ w.heap[b]? = some (.loop r) ∧ r.state = st ∧ r.pending = pending ∧ EnvR ρ env n r.tmps ∧
      r.params.toList = ps ∧ r.assign = assign ∧ r.body = body ∧ ρ d = some (db, dsz) ∧ r.defers = db := by
  obtain ⟨b, sz, ob, h1, h2, h3, h4⟩ := hI.obj l _ h
  cases h4 with
  | loop _ _ _ _ _ _ _ _ db dsz _ r e1 e2 e3 e4 e5 e6 e7 e8 => exact ⟨b, sz, r, db, dsz, h1, h2, h3, e1, e2, e3, e4, e5, e6, e7, e8⟩
theorem Inv.putObj {ρ : Rho} {H H' : Heap} {nx lo N : Nat} {w : World} (h : Inv G ρ H nx lo N w) {id b sz : Nat} {o o' : AO} {ob ob' : Obj}
    (hid : H.get id = some o) (hlo : lo ≤ id) (hr : ρ id = some (b, sz)) (hH : ∀ m, H'.get m = if m = id then some o' else H.get m) (hb : w.heap[b]? = some ob) (ho : OR ρ o' sz ob') :
    Inv G ρ H' nx lo N (w.putObj b ob') ∧ Below N w (w.putObj b ob') :=
  h.set hid hlo hr hH (World.putObj_heap_same (getElem?_lt hb)) (fun _ hk => World.putObj_heap_other hk) World.putObj_size rfl rfl rfl ho
theorem endRoundK_true {lo : Nat} {fr : AFr} {cs : List AFr} {l : Nat} {jump : Option Code} {H : Heap} {nx : Nat} {k : Cont} (h : endRoundK lo fr cs l jump H nx k = true) :
    ∃ fr1 cs1 H1, k fr1 cs1 H1 nx = true ∧ (lo ≤ nx → HeapLo lo H H1) ∧ ∀ ρ N w f fs, Inv G ρ H nx lo N w → f.kind = fr.kind → FramesR ρ cs fs → RoundR ρ (some l) f.roundOf →
      ∃ lb w' f' fs' v, f.roundOf = some lb ∧ (Instr.endRound lb jump).run P w = .ok v w' ∧ Inv G ρ H1 nx lo N w' ∧ Below N w w' ∧ FrameR ρ fr1 f' ∧ FramesR ρ cs1 fs' ∧ botF f fs = botF f' fs' ∧ Returns P f fs v f' fs' := by
  obtain ⟨hlo, h⟩ := guardB_true h
  have hlo := ble_true hlo
  obtain ⟨st, pending, env, n, ps, assign, body, d, hl, h⟩ := loopAt_true h
  obtain ⟨H1, hH, h⟩ := T.setK_true _ _ _ _ _ h
  obtain ⟨fr1, cs1, h, hret⟩ := returnK_true (P := P) h
  refine ⟨fr1, cs1, H1, h, fun _ i hi => by rw [hH, if_neg (by omega)], fun ρ N w f fs hI hk hfs hr => ?_⟩
  obtain ⟨b, sz, r, db, dsz, e1, e2, e3, e4, e5, e6, e7, e8, e9, e10, e11⟩ := hI.loop hl
  cases hro : f.roundOf with
  | none => rw [hro] at hr; exact hr.elim
  | some lb =>
    rw [hro] at hr
    obtain ⟨sz', hr⟩ := hr
    rw [e1] at hr; simp at hr; obtain ⟨rfl, rfl⟩ := hr
    have hrun := run_endRound (P := P) jump e3
    have hor : ∀ st', st' = (if jump.isNone then LoopState.ready else LoopState.done) → OR ρ (.loop st' jump env n ps assign body d) sz (.loop { r with state := if jump.isNone then .ready else .done, pending := jump }) := fun st' e =>
      .loop _ _ _ _ _ _ _ _ db dsz sz _ e.symm rfl e6 e7 e8 e9 e10 e11
    obtain ⟨i1, i2⟩ := hI.putObj hl hlo e1 hH e3 (hor _ (by cases jump <;> rfl))
    have hv : ∀ bb, bb = jump.isNone → VR ρ (.bool bb) (.bool jump.isNone) := fun _ e => e ▸ .bool _
    obtain ⟨f', fs', k1, k2, k3, k4⟩ := hret ρ f fs _ hk hfs (hv _ (by cases jump <;> rfl))
    exact ⟨b, _, f', fs', _, rfl, hrun, i1, i2, k1, k2, k3, k4⟩
end
end Go.Ev

