import Derived.Test.YtepopmplcjhfbaaGreatEvQ
set_option linter.unusedSectionVars false
set_option linter.unusedVariables false
set_option linter.unusedSimpArgs false
set_option linter.unnecessarySimpa false
namespace Go.Ev
open Go.RowKit
variable [Unk]
section
variable {P : Program} {G : Nat → Nat → Option AV} {orc : Nat → Option Orc}
theorem exitTo_some {ρ : Rho} {id : Nat} : ∀ {td td' : List AItem} {tdc : List Item}, exitTo id td = some td' → TodoR ρ td tdc → ∃ tdc', Go.exitTo id tdc = some tdc' ∧ TodoR ρ td' tdc'
  | [], _, [], h, _ => by cases h
  | [], _, _ :: _, _, h => h.elim
  | _ :: _, _, [], _, h => h.elim
  | x :: td, td', it :: tdc, h, ht => by
    obtain ⟨h1, h2⟩ := ht
    cases x with
    | inBlock id' =>
      cases h1
      unfold exitTo at h
      split at h
      · rename_i e
        have e := beq_true e
        cases h
        exact ⟨tdc, by simp [Go.exitTo, e], h2⟩
      · rename_i e
        have e := beq_false e
        obtain ⟨tdc', k1, k2⟩ := exitTo_some h h2
        exact ⟨tdc', by simp [Go.exitTo, e, k1], k2⟩
    | code c => cases h1; obtain ⟨tdc', k1, k2⟩ := exitTo_some (td := td) h h2; exact ⟨tdc', by simp [Go.exitTo, k1], k2⟩
    | inLoop c => cases h1; obtain ⟨tdc', k1, k2⟩ := exitTo_some (td := td) h h2; exact ⟨tdc', by simp [Go.exitTo, k1], k2⟩
    | inScope c => cases h1; obtain ⟨tdc', k1, k2⟩ := exitTo_some (td := td) h h2; exact ⟨tdc', by simp [Go.exitTo, k1], k2⟩
    | inRegion ops r => obtain ⟨is, rfl, _⟩ := h1; obtain ⟨tdc', k1, k2⟩ := exitTo_some (td := td) h h2; exact ⟨tdc', by simp [Go.exitTo, k1], k2⟩
    | inRange l => obtain ⟨b, s, _, rfl⟩ := h1; obtain ⟨tdc', k1, k2⟩ := exitTo_some (td := td) h h2; exact ⟨tdc', by simp [Go.exitTo, k1], k2⟩
    | endRange l => obtain ⟨b, s, _, rfl⟩ := h1; obtain ⟨tdc', k1, k2⟩ := exitTo_some (td := td) h h2; exact ⟨tdc', by simp [Go.exitTo, k1], k2⟩
    | beginRound => cases h1; obtain ⟨tdc', k1, k2⟩ := exitTo_some (td := td) h h2; exact ⟨tdc', by simp [Go.exitTo, k1], k2⟩
theorem exitTo_none {ρ : Rho} {id : Nat} : ∀ {td : List AItem} {tdc : List Item}, exitTo id td = none → TodoR ρ td tdc → Go.exitTo id tdc = none
  | [], [], _, _ => rfl
  | [], _ :: _, _, h => h.elim
  | _ :: _, [], _, h => h.elim
  | x :: td, it :: tdc, h, ht => by
    obtain ⟨h1, h2⟩ := ht
    cases x with
    | inBlock id' =>
      cases h1
      unfold exitTo at h
      split at h
      · cases h
      · rename_i e
        have e := beq_false e
        simp [Go.exitTo, e, exitTo_none h h2]
    | code c => cases h1; simp [Go.exitTo, exitTo_none (td := td) h h2]
    | inLoop c => cases h1; simp [Go.exitTo, exitTo_none (td := td) h h2]
    | inScope c => cases h1; simp [Go.exitTo, exitTo_none (td := td) h h2]
    | inRegion ops r => obtain ⟨is, rfl, _⟩ := h1; simp [Go.exitTo, exitTo_none (td := td) h h2]
    | inRange l => obtain ⟨b, s, _, rfl⟩ := h1; simp [Go.exitTo, exitTo_none (td := td) h h2]
    | endRange l => obtain ⟨b, s, _, rfl⟩ := h1; simp [Go.exitTo, exitTo_none (td := td) h h2]
    | beginRound => cases h1; simp [Go.exitTo, exitTo_none (td := td) h h2]
theorem gotoIn_some {ρ : Rho} {l : Nat} : ∀ {td td' : List AItem} {tdc : List Item}, gotoIn l td = some td' → TodoR ρ td tdc → ∃ tdc', Go.gotoIn l tdc = some tdc' ∧ TodoR ρ td' tdc'
  | [], _, [], h, _ => by cases h
  | [], _, _ :: _, _, h => h.elim
  | _ :: _, _, [], _, h => h.elim
  | x :: td, td', it :: tdc, h, ht => by
    obtain ⟨h1, h2⟩ := ht
    cases x with
    | inScope body =>
      cases h1
      unfold gotoIn at h
      split at h
      · rename_i r e
        cases h
        exact ⟨.code r :: .inScope body :: tdc, by simp [Go.gotoIn, e], ⟨rfl, ⟨rfl, h2⟩⟩⟩
      · rename_i e
        obtain ⟨tdc', k1, k2⟩ := gotoIn_some h h2
        exact ⟨tdc', by simp [Go.gotoIn, e, k1], k2⟩
    | code c => cases h1; obtain ⟨tdc', k1, k2⟩ := gotoIn_some (td := td) h h2; exact ⟨tdc', by simp [Go.gotoIn, k1], k2⟩
    | inLoop c => cases h1; obtain ⟨tdc', k1, k2⟩ := gotoIn_some (td := td) h h2; exact ⟨tdc', by simp [Go.gotoIn, k1], k2⟩
    | inBlock c => cases h1; obtain ⟨tdc', k1, k2⟩ := gotoIn_some (td := td) h h2; exact ⟨tdc', by simp [Go.gotoIn, k1], k2⟩
    | inRegion ops r => obtain ⟨is, rfl, _⟩ := h1; obtain ⟨tdc', k1, k2⟩ := gotoIn_some (td := td) h h2; exact ⟨tdc', by simp [Go.gotoIn, k1], k2⟩
    | inRange l => obtain ⟨b, s, _, rfl⟩ := h1; obtain ⟨tdc', k1, k2⟩ := gotoIn_some (td := td) h h2; exact ⟨tdc', by simp [Go.gotoIn, k1], k2⟩
    | endRange l => obtain ⟨b, s, _, rfl⟩ := h1; obtain ⟨tdc', k1, k2⟩ := gotoIn_some (td := td) h h2; exact ⟨tdc', by simp [Go.gotoIn, k1], k2⟩
    | beginRound => cases h1; obtain ⟨tdc', k1, k2⟩ := gotoIn_some (td := td) h h2; exact ⟨tdc', by simp [Go.gotoIn, k1], k2⟩
theorem gotoIn_none {ρ : Rho} {l : Nat} : ∀ {td : List AItem} {tdc : List Item}, gotoIn l td = none → TodoR ρ td tdc → Go.gotoIn l tdc = none
  | [], [], _, _ => rfl
  | [], _ :: _, _, h => h.elim
  | _ :: _, [], _, h => h.elim
  | x :: td, it :: tdc, h, ht => by
    obtain ⟨h1, h2⟩ := ht
    cases x with
    | inScope body =>
      cases h1
      unfold gotoIn at h
      split at h
      · cases h
      · rename_i e
        simp [Go.gotoIn, e, gotoIn_none h h2]
    | code c => cases h1; simp [Go.gotoIn, gotoIn_none (td := td) h h2]
    | inLoop c => cases h1; simp [Go.gotoIn, gotoIn_none (td := td) h h2]
    | inBlock c => cases h1; simp [Go.gotoIn, gotoIn_none (td := td) h h2]
    | inRegion ops r => obtain ⟨is, rfl, _⟩ := h1; simp [Go.gotoIn, gotoIn_none (td := td) h h2]
    | inRange l => obtain ⟨b, s, _, rfl⟩ := h1; simp [Go.gotoIn, gotoIn_none (td := td) h h2]
    | endRange l => obtain ⟨b, s, _, rfl⟩ := h1; simp [Go.gotoIn, gotoIn_none (td := td) h h2]
    | beginRound => cases h1; simp [Go.gotoIn, gotoIn_none (td := td) h h2]
section steps
variable {b : Frame} {a : Act} {k : List Item} {fs : List Frame} {w : World}
theorem step_leave_end {l : Nat} {v : Value} {w' : World} {f' : Frame} {fs' : List Frame} (hb : b.roundOf = some l) (hr : (Instr.endRound l none).run P w = .ok v w') (hd : Returns P (b.atR a []) fs v f' fs') (rest : List Frame) :
    step P (lone (b.atR a []) (fs ++ rest) w) = .next (lone f' (fs' ++ rest) w') :=
  step_lone_go (by
    have := hd rest w'
    simp only [Frame.atR] at this
    simp [stepG, stepG.exec, Frame.atR, hb, Sem.runT_eq, hr]
    rw [← hb, this]; rfl)
theorem step_leave_ret {l : Nat} {v : Value} {w' : World} {f' : Frame} {fs' : List Frame} (hb : b.roundOf = some l) (hr : (Instr.endRound l (some .ret)).run P w = .ok v w') (hd : Returns P (b.atR a (.code .ret :: k)) fs v f' fs') (rest : List Frame) :
    step P (lone (b.atR a (.code .ret :: k)) (fs ++ rest) w) = .next (lone f' (fs' ++ rest) w') :=
  step_lone_go (by
    have := hd rest w'
    simp only [Frame.atR] at this
    simp [stepG, stepG.exec, Frame.atR, hb, Sem.runT_eq, hr]
    rw [← hb, this]; rfl)
theorem step_leave_exit {l id : Nat} {v : Value} {w' : World} {f' : Frame} {fs' : List Frame} (hb : b.roundOf = some l) (hx : Go.exitTo id k = none) (hr : (Instr.endRound l (some (.exit id))).run P w = .ok v w')
    (hd : Returns P (b.atR a (.code (.exit id) :: k)) fs v f' fs') (rest : List Frame) :
    step P (lone (b.atR a (.code (.exit id) :: k)) (fs ++ rest) w) = .next (lone f' (fs' ++ rest) w') :=
  step_lone_go (by
    have := hd rest w'
    simp only [Frame.atR] at this
    simp [stepG, stepG.exec, Frame.atR, hb, hx, Sem.runT_eq, hr]
    rw [← hb, this]; rfl)
theorem step_leave_goto {l t : Nat} {v : Value} {w' : World} {f' : Frame} {fs' : List Frame} (hb : b.roundOf = some l) (hx : Go.gotoIn t k = none) (hr : (Instr.endRound l (some (.goto t))).run P w = .ok v w')
    (hd : Returns P (b.atR a (.code (.goto t) :: k)) fs v f' fs') (rest : List Frame) :
    step P (lone (b.atR a (.code (.goto t) :: k)) (fs ++ rest) w) = .next (lone f' (fs' ++ rest) w') :=
  step_lone_go (by
    have := hd rest w'
    simp only [Frame.atR] at this
    simp [stepG, stepG.exec, Frame.atR, hb, hx, Sem.runT_eq, hr]
    rw [← hb, this]; rfl)
end steps
theorem RoundR.none_eq {ρ : Rho} {r : Option Nat} (h : RoundR ρ none r) : r = none := by cases r <;> first | rfl | exact h.elim
theorem cExit_snd (lo id : Nat) : CodeSnd P G lo (IsItem (.code (.exit id))) (cExit lo id) := by
  intro fn env n td ds kind round cs H nx k h
  unfold cExit at h
  split at h
  · rename_i td' he
    refine Out.now h (Nat.le_refl _) (fun _ => HeapLo.refl _ _) fun ρ N w f fs rest hI hS => ?_
    obtain ⟨b, a, it, tdc, rfl, rfl, h2, h3⟩ := hS
    obtain ⟨tdc', k1, k2⟩ := exitTo_some he (h2.todo rfl)
    exact Reach.one hI (h2.todo' k2) h3 (botF_same _ rfl) (stepR_exit k1)
  · rename_i he
    split at h
    · cases h
    · rename_i l
      obtain ⟨fr1, cs1, H1, h, hH, hr⟩ := endRoundK_true (P := P) (G := G) h
      refine Out.now h (Nat.le_refl _) hH fun ρ N w f fs rest hI hS => ?_
      obtain ⟨b, a, it, tdc, rfl, rfl, h2, h3⟩ := hS
      have hx := exitTo_none he (h2.todo rfl)
      obtain ⟨lb, w', f', fs', v, e1, e2, e3, e4, e5, e6, e7, e8⟩ := hr ρ N w (b.atR a (.code (.exit id) :: tdc)) fs hI h2.kind h3 h2.round
      exact ⟨ρ, w', f', fs', Rho.le_refl ρ, e3, e4, e5, e6, e7, .one (step_leave_exit e1 hx e2 e8 rest)⟩
theorem cGoto_snd (lo l : Nat) : CodeSnd P G lo (IsItem (.code (.goto l))) (cGoto lo l) := by
  intro fn env n td ds kind round cs H nx k h
  unfold cGoto at h
  split at h
  · rename_i td' he
    refine Out.now h (Nat.le_refl _) (fun _ => HeapLo.refl _ _) fun ρ N w f fs rest hI hS => ?_
    obtain ⟨b, a, it, tdc, rfl, rfl, h2, h3⟩ := hS
    obtain ⟨tdc', k1, k2⟩ := gotoIn_some he (h2.todo rfl)
    exact Reach.one hI (h2.todo' k2) h3 (botF_same _ rfl) (stepR_goto k1)
  · rename_i he
    split at h
    · cases h
    · rename_i r
      obtain ⟨fr1, cs1, H1, h, hH, hr⟩ := endRoundK_true (P := P) (G := G) h
      refine Out.now h (Nat.le_refl _) hH fun ρ N w f fs rest hI hS => ?_
      obtain ⟨b, a, it, tdc, rfl, rfl, h2, h3⟩ := hS
      have hx := gotoIn_none he (h2.todo rfl)
      obtain ⟨lb, w', f', fs', v, e1, e2, e3, e4, e5, e6, e7, e8⟩ := hr ρ N w (b.atR a (.code (.goto l) :: tdc)) fs hI h2.kind h3 h2.round
      exact ⟨ρ, w', f', fs', Rho.le_refl ρ, e3, e4, e5, e6, e7, .one (step_leave_goto e1 hx e2 e8 rest)⟩
theorem cRet_snd (lo : Nat) : CodeSnd P G lo (IsItem (.code .ret)) (cRet lo) := by
  intro fn env n td ds kind round cs H nx k h
  unfold cRet at h
  split at h
  · refine Out.now h (Nat.le_refl _) (fun _ => HeapLo.refl _ _) fun ρ N w f fs rest hI hS => ?_
    obtain ⟨b, a, it, tdc, rfl, rfl, h2, h3⟩ := hS
    exact Reach.one (f' := { b.atR a (.code .ret :: tdc) with mode := .returning }) hI ⟨h2.fn, h2.env, (fun hm => by cases hm), h2.defers, trivial, h2.kind, h2.round, fun _ d wr re sa k e => by cases e⟩ h3 (botF_same _ rfl) (stepR_ret (RoundR.none_eq (ρ := ρ) h2.round))
  · rename_i r
    obtain ⟨fr1, cs1, H1, h, hH, hr⟩ := endRoundK_true (P := P) (G := G) h
    refine Out.now h (Nat.le_refl _) hH fun ρ N w f fs rest hI hS => ?_
    obtain ⟨b, a, it, tdc, rfl, rfl, h2, h3⟩ := hS
    obtain ⟨lb, w', f', fs', v, e1, e2, e3, e4, e5, e6, e7, e8⟩ := hr ρ N w (b.atR a (.code .ret :: tdc)) fs hI h2.kind h3 h2.round
    exact ⟨ρ, w', f', fs', Rho.le_refl ρ, e3, e4, e5, e6, e7, .one (step_leave_ret e1 e2 e8 rest)⟩
theorem endF_snd (lo fn : Nat) (env : Env) (n : Nat) (ds : List ADef) (kind : CallKind) (round : Option Nat) (cs : List AFr) (H : Heap) (nx : Nat) (k : Cont)
    (h : (match round with
    | none => k ⟨fn, env, n, [], ds, .returning, kind, none⟩ cs H nx
    | some l => endRoundK lo ⟨fn, env, n, [], ds, .run, kind, some l⟩ cs l none H nx k) = true) :
    Out P G lo k H nx fun ρ _ _ f fs => FrameR ρ ⟨fn, env, n, [], ds, .run, kind, round⟩ f ∧ FramesR ρ cs fs := by
  have key : ∀ {ρ : Rho} {f : Frame}, FrameR ρ ⟨fn, env, n, [], ds, .run, kind, round⟩ f → f = f.atR ⟨f.tmps, f.defers⟩ [] := fun {ρ f} hf => by
    have h1 := atR_self (hf.running rfl)
    have h2 := hf.todo rfl
    cases ht : f.todo with
    | nil => rw [ht] at h1; exact h1
    | cons x l => rw [ht] at h2; exact h2.elim
  split at h
  · refine Out.now h (Nat.le_refl _) (fun _ => HeapLo.refl _ _) fun ρ N w f fs rest hI hS => ?_
    obtain ⟨h2, h3⟩ := hS
    have hk := key h2
    rw [hk] at h2 ⊢
    exact Reach.one (f' := { f.atR ⟨f.tmps, f.defers⟩ [] with mode := .returning }) hI ⟨h2.fn, h2.env, (fun hm => by cases hm), h2.defers, trivial, h2.kind, h2.round, fun _ d wr re sa k e => by cases e⟩ h3 (botF_same _ rfl) (stepR_end (RoundR.none_eq (ρ := ρ) h2.round))
  · rename_i r
    obtain ⟨fr1, cs1, H1, h, hH, hr⟩ := endRoundK_true (P := P) (G := G) h
    refine Out.now h (Nat.le_refl _) hH fun ρ N w f fs rest hI hS => ?_
    obtain ⟨h2, h3⟩ := hS
    have hk := key h2
    rw [hk] at h2 ⊢
    obtain ⟨lb, w', f', fs', v, e1, e2, e3, e4, e5, e6, e7, e8⟩ := hr ρ N w _ fs hI h2.kind h3 h2.round
    exact ⟨ρ, w', f', fs', Rho.le_refl ρ, e3, e4, e5, e6, e7, .one (step_leave_end e1 e2 e8 rest)⟩
end
end Go.Ev

