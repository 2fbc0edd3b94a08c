import Derived.Test.YtepopmplcjhfbaaGreatEvU
import Derived.RangeFuncNested
set_option linter.unusedSectionVars false
set_option linter.unusedVariables false
set_option linter.unusedSimpArgs false
set_option linter.unnecessarySimpa false
namespace Go.Ev
open Go.RowKit
variable [Unk]
section
variable {P : Program} {G : Nat → Nat → Option AV} {orc : Nat → Option Orc} {ec : Nat → Nat → List AV → Heap → Nat → (AEnd → Heap → Nat → Bool) → Bool}
theorem CodeSnd.weak {lo : Nat} {itR itR' : Rho → Item → Prop} {F : CodeFn} (h : CodeSnd P G lo itR F) (hw : ∀ ρ it, itR' ρ it → itR ρ it) : CodeSnd P G lo itR' F := by
  intro fn env n td ds kind round cs H nx k hk
  obtain ⟨fr1, cs1, H1, nx1, h1, h2, h3, h4⟩ := h _ _ _ _ _ _ _ _ _ _ _ hk
  exact ⟨fr1, cs1, H1, nx1, h1, h2, h3, fun ρ N w f fs rest hI hS => by
    obtain ⟨b, a, it, tdc, e, e1, e2, e3⟩ := hS
    exact h4 ρ N w f fs rest hI ⟨b, a, it, tdc, e, hw _ _ e1, e2, e3⟩⟩
section steps
variable {b : Frame} {a : Act} {k : List Item} {cs : List Frame} {w : World}
theorem stepR_scope {c : Code} : step P (lone (b.atR a (.code (.scope c) :: k)) cs w) = .next (lone (b.atR a (.code c :: .inScope c :: k)) cs w) :=
  step_lone_go (by simp [stepG, stepG.exec, Frame.atR])
theorem stepR_inScope {c : Code} : step P (lone (b.atR a (.inScope c :: k)) cs w) = .next (lone (b.atR a k) cs w) :=
  step_lone_go (by simp [stepG, stepG.exec, Frame.atR])
end steps
theorem RestR.range' {ops : Array Oper} : ∀ (l : List Oper) (i : Nat), (∀ j, l[j]? = ops[i + j]?) → RestR ops l (List.range' i l.length)
  | [], _, _ => trivial
  | o :: l, i, h => ⟨by have := h 0; simpa using this.symm, RestR.range' l (i + 1) fun j => by have := h (j + 1); rw [List.getElem?_cons_succ] at this; rw [this]; congr 1; omega⟩
theorem RestR.all (ops : Array Oper) : RestR ops ops.toList (List.range ops.size) := by
  have := RestR.range' (ops := ops) ops.toList 0 fun j => by simp
  rwa [← List.range_eq_range', Array.length_toList] at this
theorem cCond_snd {lo : Nat} {c : Operand} {x y : Code} (hx : CodeSnd P G lo (IsItem (.code x)) (codeF P G orc ec lo x)) (hy : CodeSnd P G lo (IsItem (.code y)) (codeF P G orc ec lo y)) :
    CodeSnd P G lo (IsItem (.code (.cond c x y))) (codeF P G orc ec lo (.cond c x y)) := by
  intro fn env n td ds kind round cs H nx k h
  obtain ⟨av, ha, h⟩ := ov_true h
  have ev : ∀ {t : Bool} {b : Frame} {a : Act} {ρ : Rho} {tdc : List Item}, aev env c = some (.bool t) → FrameR ρ ⟨fn, env, n, td, ds, .run, kind, round⟩ (b.atR a tdc) → a.eval c = .bool t := by
    intro t b a ρ tdc ha h2
    have := aev_sound (act := a) h2.env ha
    generalize a.eval c = u at this
    cases this; rfl
  split at h
  · refine Out.of_step (hx _ _ _ _ _ _ _ _ _ _ _ h) (Nat.le_refl _) (fun _ => HeapLo.refl _ _) fun ρ N w f fs rest hI hS => ?_
    obtain ⟨b, a, it, tdc, rfl, h1, h2, h3⟩ := hS
    cases h1
    have := stepR_cond (P := P) (b := b) (k := tdc) (cs := fs ++ rest) (w := w) (x := x) (y := y) (ev ha h2)
    exact ⟨ρ, w, b.atR a (.code x :: tdc), fs, Rho.le_refl ρ, hI, Below.refl _ _, botF_same _ rfl, ⟨b, a, _, _, rfl, rfl, h2, h3⟩, .one this⟩
  · refine Out.of_step (hy _ _ _ _ _ _ _ _ _ _ _ h) (Nat.le_refl _) (fun _ => HeapLo.refl _ _) fun ρ N w f fs rest hI hS => ?_
    obtain ⟨b, a, it, tdc, rfl, h1, h2, h3⟩ := hS
    cases h1
    have := stepR_cond (P := P) (b := b) (k := tdc) (cs := fs ++ rest) (w := w) (x := x) (y := y) (ev ha h2)
    exact ⟨ρ, w, b.atR a (.code y :: tdc), fs, Rho.le_refl ρ, hI, Below.refl _ _, botF_same _ rfl, ⟨b, a, _, _, rfl, rfl, h2, h3⟩, .one this⟩
  · cases h
theorem run_rangeCall (hNG : NoNG P) {a : Act} {x : Operand} {g l : Nat} {fv cv : Array Value} (hx : a.eval x = .func (.func g) fv cv) {fn : Func} {c : Code} (hf : P.funcs[g]? = some fn) (hb : fn.body = some c) (w : World) :
    ∃ d, (resolve a.eval (rangeCall x l) 0).run P w = .ok d w ∧ (invoke d.target d.args).run P w = .ok (.enter g (fv.toList ++ (.func (.yield l) #[] #[] :: cv.toList)).toArray) w := by
  refine ⟨{ target := .fn (.func g) cv, args := fv ++ #[.func (.yield l) #[] #[]] }, ?_, ?_⟩
  · show (Deferred.ofValue (a.eval x) (#[Operand.const (.func (.yield l) #[] #[])].map a.eval)).run P w = _
    rw [hx]; simp [Deferred.ofValue, Act.eval]
  · have e : (fv ++ #[Value.func (.yield l) #[] #[]]) ++ cv = (fv.toList ++ (.func (.yield l) #[] #[] :: cv.toList)).toArray := by
      apply Array.toList_inj.1; simp
    have hne : ¬ fn.name = "runtime.NumGoroutine" := by simpa using hNG g fn hf
    simp [invoke, e, callFunc, hf, hne, hb]
theorem cRangeFunc_snd (hNG : NoNG P) {lo : Nat} {x : Operand} {ps : Array Tmp} {assign body : Code} :
    CodeSnd P G lo (IsItem (.code (.rangeFunc x ps assign body))) (cRangeFunc P x ps assign body) := by
  intro fn env n td ds kind round cs H nx k h
  obtain ⟨av, ha, h⟩ := ov_true h
  split at h
  · rename_i g first captured _
    split at h
    · obtain ⟨H1, hH1, h⟩ := newK_true h
      obtain ⟨H2, hH2, h⟩ := newK_true h
      rw [catL_eq] at h
      obtain ⟨fnn, c, env1, hf, hc, h, hen⟩ := enterK_true h
      refine Out.now h (by omega) (fun hl i hi => by rw [hH2, if_neg (by omega), hH1, if_neg (by omega)]) fun ρ N w f fs rest hI hS => ?_
      obtain ⟨b, a, it, tdc, rfl, h1, h2, h3⟩ := hS
      cases h1
      have hb0 : b.roundOf = none := RoundR.none_eq (ρ := ρ) h2.round
      have hv := aev_sound (act := a) h2.env ha
      generalize hx : a.eval x = u at hv
      cases hv with
      | func _ _ _ fv cv hfs hcs =>
        obtain ⟨i1, i2, i3⟩ := hI.alloc (sz := 0) hH1 (.defdSome [] [] 0 trivial)
        obtain ⟨j1, j2, j3⟩ := i2.alloc (sz := 0) (w := w.alloc (.deferred (some []))) (ob := .loop { state := .ready, pending := none, fn := b.fn, tmps := a.tmps, params := ps, assign, body, defers := w.heap.size }) hH2
          (.loop _ _ _ _ _ _ _ _ w.heap.size 0 0 _ rfl rfl ((h2.env.mono i1).mono (Rho.le_put (by
            cases e : ρ.put nx w.heap.size 0 (nx + 1) with
            | none => rfl
            | some p => exact absurd (i2.dom _ _ e) (by omega)))) rfl rfl rfl (by simp [Rho.put]) rfl)
        have hle := Rho.le_trans i1 j1
        have he : (Instr.enterLoop b.fn a.tmps ps assign body b.roundOf).run P w = _ := hb0 ▸ run_enterLoop_outer (P := P) (w := w) b.fn a.tmps ps assign body
        obtain ⟨d, hres, hinv⟩ := run_rangeCall hNG (l := w.heap.size + 1) hx hf hc ((w.alloc (.deferred (some []))).alloc (.loop { state := .ready, pending := none, fn := b.fn, tmps := a.tmps, params := ps, assign, body, defers := w.heap.size }))
        have hst := stepR_rangeFunc (P := P) (b := b) (a := a) (k := tdc) (cs := fs ++ rest) (w := w) he hres hinv
        have hr2 : (ρ.put nx w.heap.size 0).put (nx + 1) (w.alloc (.deferred (some []))).heap.size 0 (nx + 1) = some (w.heap.size + 1, 0) := by simp [Rho.put]
        have hr1 : (ρ.put nx w.heap.size 0).put (nx + 1) (w.alloc (.deferred (some []))).heap.size 0 nx = some (w.heap.size, 0) := by simp [Rho.put]
        refine ⟨_, _, _, b.atR { a with defers := { target := .collected w.heap.size, args := #[] } :: a.defers } (.inRangeFunc (w.heap.size + 1) :: tdc) :: fs, hle, j2, ?_, hen _ _ ((hfs.mono hle).append (.cons _ _ _ _ (.yld _ _ _ hr2) (hcs.mono hle))), ⟨?_, h3.mono hle⟩, botF_push fs rfl, .one hst⟩
        · exact (i3.trans (by have := j3; rw [World.size_alloc] at this; exact this.mono (by omega))).mono hI.size
        · exact ((h2.mono hle).put (ds' := .coll nx :: ds) (a' := { a with defers := { target := .collected w.heap.size, args := #[] } :: a.defers }) (h2.env.mono hle) ⟨.coll _ _ _ hr1, h2.defers.mono hle⟩).push ⟨_, _, hr2, rfl⟩
    · rename_i r
      obtain ⟨st, pending, env', n', ps', assign', body', d, hl, h⟩ := loopAt_true h
      obtain ⟨H2, hH2, h⟩ := newK_true h
      rw [catL_eq] at h
      obtain ⟨fnn, c, env1, hf, hc, h, hen⟩ := enterK_true h
      refine Out.now h (by omega) (fun hl i hi => by rw [hH2, if_neg (by omega)]) fun ρ N w f fs rest hI hS => ?_
      obtain ⟨b, a, it, tdc, rfl, h1, h2, h3⟩ := hS
      cases h1
      obtain ⟨lb, sz, rr, db, dsz, e1, e2, e3, e4, e5, e6, e7, e8, e9, e10, e11⟩ := hI.loop hl
      have hv := aev_sound (act := a) h2.env ha
      generalize hx : a.eval x = u at hv
      cases hv with
      | func _ _ _ fv cv hfs hcs =>
        have hn : ρ nx = none := by
          cases e : ρ nx with
          | none => rfl
          | some p => exact absurd (hI.dom nx p e) (by omega)
        have hle0 := Rho.le_put (ρ := ρ) (i := nx) (b := w.heap.size) (sz := 0) hn
        obtain ⟨j1, j2, j3⟩ := hI.alloc (sz := 0) (ob := .loop { state := .ready, pending := none, fn := b.fn, tmps := a.tmps, params := ps, assign, body, defers := rr.defers }) hH2
          (.loop _ _ _ _ _ _ _ _ db dsz 0 _ rfl rfl (h2.env.mono hle0) rfl rfl rfl (hle0 _ _ e10) e11)
        have hro : b.roundOf = some lb := by
          have hq := h2.round
          simp only [Frame.atR] at hq
          cases hbr : b.roundOf with
          | none => rw [hbr] at hq; exact hq.elim
          | some lb' =>
            rw [hbr] at hq
            obtain ⟨s, hq⟩ := hq
            rw [e1] at hq; simp at hq; rw [hq.1]
        have he : (Instr.enterLoop b.fn a.tmps ps assign body b.roundOf).run P w = _ := hro ▸ run_enterLoop_inner (P := P) (w := w) e3 b.fn a.tmps ps assign body
        obtain ⟨d', hres, hinv⟩ := run_rangeCall hNG (l := w.heap.size) hx hf hc (w.alloc (.loop { state := .ready, pending := none, fn := b.fn, tmps := a.tmps, params := ps, assign, body, defers := rr.defers }))
        have hst := stepR_rangeFunc (P := P) (b := b) (a := a) (k := tdc) (cs := fs ++ rest) (w := w) he hres hinv
        have hr2 : ρ.put nx w.heap.size 0 nx = some (w.heap.size, 0) := Rho.put_same _ _ _ _
        refine ⟨_, _, _, b.atR a (.inRangeFunc w.heap.size :: tdc) :: fs, j1, j2, j3.mono hI.size, hen _ _ ((hfs.mono j1).append (.cons _ _ _ _ (.yld _ _ _ hr2) (hcs.mono j1))), ⟨?_, h3.mono j1⟩, botF_push fs rfl, .one hst⟩
        exact (h2.mono j1).push ⟨_, _, hr2, rfl⟩
  · cases h
theorem cBegin_snd (lo : Nat) : CodeSnd P G lo (IsItem .beginRound) (cBegin lo) := by
  intro fn env n td ds kind round cs H nx k h
  unfold cBegin at h
  split at h
  · cases h
  · rename_i l
    obtain ⟨hlo, h⟩ := guardB_true h
    have hlo := ble_true hlo
    obtain ⟨st, pending, env', n', ps, assign, body, d, hl, h⟩ := loopAt_true h
    split at h
    · obtain ⟨H1, hH, h⟩ := T.setK_true _ _ _ _ _ h
      refine Out.now h (Nat.le_refl _) (fun _ i hi => by rw [hH, if_neg (by omega)]) fun ρ N w f fs rest hI hS => ?_
      obtain ⟨b, a, it, tdc, rfl, h1, h2, h3⟩ := hS
      cases h1
      obtain ⟨lb, sz, r, db, dsz, e1, e2, e3, e4, e5, e6, e7, e8, e9, e10, e11⟩ := hI.loop hl
      have hro : b.roundOf = some lb := by
        have hq := h2.round
        simp only [Frame.atR] at hq
        cases hbr : b.roundOf with
        | none => rw [hbr] at hq; exact hq.elim
        | some lb' =>
          rw [hbr] at hq
          obtain ⟨s, hq⟩ := hq
          rw [e1] at hq; simp at hq; rw [hq.1]
      obtain ⟨i1, i2⟩ := hI.putObj hl hlo e1 hH e3 (.loop _ _ _ _ _ _ _ _ db dsz sz { r with state := .busy } rfl e5 e6 e7 e8 e9 e10 e11)
      exact ⟨ρ, _, b.atR a tdc, fs, Rho.le_refl ρ, i1, i2, h2, h3, botF_same _ rfl, .one (stepR_beginRound hro (run_beginRound e3 e4))⟩
    · cases h
theorem cEndRange_snd (lo l : Nat) : CodeSnd P G lo (fun ρ it => ∃ b sz, ρ l = some (b, sz) ∧ it = .endRangeFunc b) (cEndRange lo l) := by
  intro fn env n td ds kind round cs H nx k h
  obtain ⟨hlo, h⟩ := guardB_true h
  have hlo := ble_true hlo
  obtain ⟨st, pending, env', n', ps, assign, body, d, hl, h⟩ := loopAt_true h
  split at h
  · cases h
  · rename_i hst
    obtain ⟨H1, hH, h⟩ := T.setK_true _ _ _ _ _ h
    have base : ∀ ρ N w (b : Frame) a tdc fs rest, Inv G ρ H nx lo N w → FrameR ρ ⟨fn, env, n, td, ds, .run, kind, round⟩ (b.atR a tdc) → ∀ bl sz, ρ l = some (bl, sz) →
        ∃ w', Inv G ρ H1 nx lo N w' ∧ Below N w w' ∧ step P (lone (b.atR a (.endRangeFunc bl :: tdc)) (fs ++ rest) w) = .next (lone (b.atR a ((pending.map Item.code).toList ++ tdc)) (fs ++ rest) w') := by
      intro ρ N w b a tdc fs rest hI h2 bl sz hr
      obtain ⟨lb, sz', r, db, dsz, e1, e2, e3, e4, e5, e6, e7, e8, e9, e10, e11⟩ := hI.loop hl
      rw [hr] at e1; simp at e1; obtain ⟨rfl, rfl⟩ := e1
      obtain ⟨i1, i2⟩ := hI.putObj hl hlo hr hH e3 (.loop _ _ _ _ _ _ _ _ db dsz sz { r with state := .exhausted } rfl e5 e6 e7 e8 e9 e10 e11)
      have hend := run_endLoop (P := P) e3 (by rw [e4]; exact fun e => hst e)
      have hend' : (Instr.endLoop bl).run P w = .ok pending (w.putObj bl (.loop { r with state := .exhausted })) := by rw [hend, e5]
      exact ⟨_, i1, i2, stepR_endRangeFunc hend'⟩
    split at h
    · refine Out.now h (Nat.le_refl _) (fun _ i hi => by rw [hH, if_neg (by omega)]) fun ρ N w f fs rest hI hS => ?_
      obtain ⟨b, a, it, tdc, rfl, ⟨bl, sz, hr, rfl⟩, h2, h3⟩ := hS
      obtain ⟨w', i1, i2, hs⟩ := base ρ N w b a tdc fs rest hI h2 bl sz hr
      exact ⟨ρ, w', b.atR a tdc, fs, Rho.le_refl ρ, i1, i2, h2, h3, botF_same _ rfl, .one hs⟩
    · refine Out.now h (Nat.le_refl _) (fun _ i hi => by rw [hH, if_neg (by omega)]) fun ρ N w f fs rest hI hS => ?_
      obtain ⟨b, a, it, tdc, rfl, ⟨bl, sz, hr, rfl⟩, h2, h3⟩ := hS
      obtain ⟨w', i1, i2, hs⟩ := base ρ N w b a tdc fs rest hI h2 bl sz hr
      exact ⟨ρ, w', b.atR a (.code _ :: tdc), fs, Rho.le_refl ρ, i1, i2, h2.push rfl, h3, botF_same _ rfl, .one hs⟩
def DrawSnd (P : Program) (G : Nat → Nat → Option AV) (orc : Nat → Option Orc) (ec : Nat → Nat → List AV → Heap → Nat → (AEnd → Heap → Nat → Bool) → Bool) (lo : Nat) : Prop :=
  ∀ ops, CodeSnd P G lo (fun _ it => ∃ id, it = .code (.region id ops true)) (cDraw P G orc ec lo ops)
theorem codeF_snd (hO : OrcSound P G orc) (hNG : NoNG P) {lo : Nat} (hD : DrawSnd P G orc ec lo) : ∀ c, CodeSnd P G lo (IsItem (.code c)) (codeF P G orc ec lo c)
  | .skip => cNext_snd fun ρ it e b a tdc cs w => by cases e; exact stepR_skip
  | .label l => cNext_snd fun ρ it e b a tdc cs w => by cases e; exact stepR_label
  | .seq x y => turn_snd (codeF_snd hO hNG hD x) (x := .code y) (y := .code y) (fun _ => rfl) fun ρ it e => ⟨.code x, rfl, fun b a tdc cs w => by cases e; exact stepR_seq⟩
  | .cond c x y => cCond_snd (codeF_snd hO hNG hD x) (codeF_snd hO hNG hD y)
  | .block id x => turn_snd (codeF_snd hO hNG hD x) (x := .inBlock id) (y := .inBlock id) (fun _ => rfl) fun ρ it e => ⟨.code x, rfl, fun b a tdc cs w => by cases e; exact stepR_block⟩
  | .loop x => turn_snd (codeF_snd hO hNG hD x) (x := .inLoop x) (y := .inLoop x) (fun _ => rfl) fun ρ it e => ⟨.code x, rfl, fun b a tdc cs w => by cases e; exact stepR_loop⟩
  | .scope x => turn_snd (codeF_snd hO hNG hD x) (x := .inScope x) (y := .inScope x) (fun _ => rfl) fun ρ it e => ⟨.code x, rfl, fun b a tdc cs w => by cases e; exact stepR_scope⟩
  | .exit id => cExit_snd lo id
  | .goto l => cGoto_snd lo l
  | .ret => cRet_snd lo
  | .rangeFunc x ps y z => cRangeFunc_snd hNG
  | .refuse _ => fun _ _ _ _ _ _ _ _ _ _ _ h => by cases h
  | .region id ops false => turn1_snd (cRegion_snd hO hNG lo ops ops.toList) fun ρ it e => ⟨.inRegion ops (List.range ops.size), ⟨_, rfl, RestR.all ops⟩, fun b a tdc cs w => by cases e; exact stepR_region⟩
  | .region id ops true => (hD ops).weak fun ρ it e => ⟨id, e⟩
theorem itemF_snd (hO : OrcSound P G orc) (hNG : NoNG P) {lo : Nat} (hD : DrawSnd P G orc ec lo) (x : AItem) : CodeSnd P G lo (fun ρ it => ItemR ρ x it) (itemF P G orc ec lo x) := by
  cases x with
  | inBlock id => exact cNext_snd fun ρ it e b a tdc cs w => by cases e; exact stepR_inBlock
  | inScope c => exact cNext_snd fun ρ it e b a tdc cs w => by cases e; exact stepR_inScope
  | inLoop c => exact turn_snd (codeF_snd hO hNG hD c) (x := .inLoop c) (y := .inLoop c) (fun _ => rfl) fun ρ it e => ⟨.code c, rfl, fun b a tdc cs w => by cases e; exact stepR_inLoop⟩
  | inRegion ops l => exact cRegion_snd hO hNG lo ops l
  | inRange l => exact fun _ _ _ _ _ _ _ _ _ _ _ h => by cases h
  | beginRound => exact cBegin_snd lo
  | endRange l => exact cEndRange_snd lo l
  | code c => exact codeF_snd hO hNG hD c
end
end Go.Ev

