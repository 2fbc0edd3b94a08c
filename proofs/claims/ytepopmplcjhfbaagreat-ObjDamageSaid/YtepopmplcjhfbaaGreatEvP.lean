import Derived.Test.YtepopmplcjhfbaaGreatEvO
import Derived.AtR
import Derived.Defers
import Derived.RangeFuncIn
import Derived.RangeFuncRecord
set_option linter.unusedSectionVars false
set_option linter.unusedVariables false
set_option linter.unusedSimpArgs false
set_option linter.unnecessarySimpa false
namespace Go.Ev
open Go.RowKit
variable [Unk]
section
variable {P : Program} {G : Nat → Nat → Option AV} {orc : Nat → Option Orc}
def RestR (ops : Array Oper) : List Oper → List Nat → Prop
  | [], [] => True
  | o :: l, i :: is => ops[i]? = some o ∧ RestR ops l is
  | _, _ => False
def ItemR (ρ : Rho) : AItem → Item → Prop
  | .code c, it => it = .code c
  | .inBlock id, it => it = .inBlock id
  | .inLoop c, it => it = .inLoop c
  | .inScope c, it => it = .inScope c
  | .inRegion ops rest, it => ∃ is, it = .inRegion ops is ∧ RestR ops rest is
  | .inRange l, it => ∃ b sz, ρ l = some (b, sz) ∧ it = .inRangeFunc b
  | .endRange l, it => ∃ b sz, ρ l = some (b, sz) ∧ it = .endRangeFunc b
  | .beginRound, it => it = .beginRound
theorem ItemR.mono {ρ ρ' : Rho} (hle : ρ.le ρ') {a : AItem} {it : Item} (h : ItemR ρ a it) : ItemR ρ' a it := by
  cases a <;> first
    | exact h
    | (obtain ⟨b, sz, h1, h2⟩ := h; exact ⟨b, sz, hle _ _ h1, h2⟩)
def TodoR (ρ : Rho) : List AItem → List Item → Prop
  | [], [] => True
  | a :: l, it :: is => ItemR ρ a it ∧ TodoR ρ l is
  | _, _ => False
theorem TodoR.mono {ρ ρ' : Rho} (hle : ρ.le ρ') : ∀ {l : List AItem} {is : List Item}, TodoR ρ l is → TodoR ρ' l is
  | [], [], _ => trivial
  | _ :: _, _ :: _, h => ⟨h.1.mono hle, TodoR.mono hle h.2⟩
  | [], _ :: _, h => h.elim
  | _ :: _, [], h => h.elim
def ChainR (ρ : Rho) : List APanic → List PanicEntry → Prop
  | [], [] => True
  | a :: l, p :: ps => (VR ρ a.v p.v ∧ p.recovered = a.recovered ∧ p.goexit = false) ∧ ChainR ρ l ps
  | _, _ => False
theorem ChainR.mono {ρ ρ' : Rho} (hle : ρ.le ρ') : ∀ {l : List APanic} {is : List PanicEntry}, ChainR ρ l is → ChainR ρ' l is
  | [], [], _ => trivial
  | _ :: _, _ :: _, h => ⟨⟨h.1.1.mono hle, h.1.2⟩, ChainR.mono hle h.2⟩
  | [], _ :: _, h => h.elim
  | _ :: _, [], h => h.elim
theorem ChainR.append {ρ : Rho} : ∀ {l l' : List APanic} {is is' : List PanicEntry}, ChainR ρ l is → ChainR ρ l' is' → ChainR ρ (l ++ l') (is ++ is')
  | [], _, [], _, _, h' => h'
  | _ :: _, _, _ :: _, _, h, h' => ⟨h.1, ChainR.append h.2 h'⟩
  | [], _, _ :: _, _, h, _ => h.elim
  | _ :: _, _, [], _, h, _ => h.elim
def ModeR (ρ : Rho) : AMode → FrameMode → Prop
  | .run, .run => True
  | .returning, .returning => True
  | .panicking c, .panicking c' => ChainR ρ c c'
  | _, _ => False
theorem ModeR.mono {ρ ρ' : Rho} (hle : ρ.le ρ') {a : AMode} {m : FrameMode} (h : ModeR ρ a m) : ModeR ρ' a m := by
  cases a <;> cases m <;> first | exact h | exact ChainR.mono hle h
def Calm (todo : List Item) : Prop := ∀ d wr re sa k, todo ≠ .call d wr re sa :: k
theorem TodoR.calm {ρ : Rho} {l : List AItem} {is : List Item} (h : TodoR ρ l is) : Calm is := by
  intro d wr re sa k e
  subst e
  cases l with
  | nil => exact h.elim
  | cons x l =>
    have h1 := h.1
    cases x <;> first
      | (cases h1; done)
      | (obtain ⟨_, h1, _⟩ := h1; cases h1; done)
      | (obtain ⟨_, _, _, h1⟩ := h1; cases h1)
structure FrameR (ρ : Rho) (fr : AFr) (f : Frame) : Prop where
  fn : fr.round = none → f.fn = fr.fn
  env : EnvR ρ fr.env fr.n f.tmps
  todo : fr.mode = .run → TodoR ρ fr.todo f.todo
  defers : DRs ρ fr.defers f.defers
  mode : ModeR ρ fr.mode f.mode
  kind : f.kind = fr.kind
  round : RoundR ρ fr.round f.roundOf
  calm : fr.mode ≠ .run → Calm f.todo
theorem FrameR.mono {ρ ρ' : Rho} (hle : ρ.le ρ') {fr : AFr} {f : Frame} (h : FrameR ρ fr f) : FrameR ρ' fr f :=
  ⟨h.fn, h.env.mono hle, fun hm => (h.todo hm).mono hle, h.defers.mono hle, h.mode.mono hle, h.kind, h.round.mono hle, h.calm⟩
def FramesR (ρ : Rho) : List AFr → List Frame → Prop
  | [], [] => True
  | a :: l, f :: fs => FrameR ρ a f ∧ FramesR ρ l fs
  | _, _ => False
theorem FramesR.mono {ρ ρ' : Rho} (hle : ρ.le ρ') : ∀ {l : List AFr} {fs : List Frame}, FramesR ρ l fs → FramesR ρ' l fs
  | [], [], _ => trivial
  | _ :: _, _ :: _, h => ⟨h.1.mono hle, FramesR.mono hle h.2⟩
  | [], _ :: _, h => h.elim
  | _ :: _, [], h => h.elim
def botF (f : Frame) (fs : List Frame) : Option Nat := ((f :: fs).map (fun f => f.fn)).getLast?
theorem botF_same {f f' : Frame} (fs : List Frame) (h : f'.fn = f.fn) : botF f fs = botF f' fs := by simp [botF, h]
theorem botF_push {f f' c : Frame} (fs : List Frame) (h : c.fn = f.fn) : botF f fs = botF f' (c :: fs) := by simp [botF, h, List.getLast?_cons]
theorem botF_pop {f c c' : Frame} (fs : List Frame) (h : c'.fn = c.fn) : botF f (c :: fs) = botF c' fs := by simp [botF, h, List.getLast?_cons]
def Reach (P : Program) (G : Nat → Nat → Option AV) (lo : Nat) (fr1 : AFr) (cs1 : List AFr) (H1 : Heap) (nx1 : Nat) (ρ : Rho) (N : Nat) (w : World) (f : Frame) (fs rest : List Frame) : Prop :=
  ∃ ρ' w' f' fs', ρ.le ρ' ∧ Inv G ρ' H1 nx1 lo N w' ∧ Below N w w' ∧ FrameR ρ' fr1 f' ∧ FramesR ρ' cs1 fs' ∧ botF f fs = botF f' fs' ∧ Steps P (lone f (fs ++ rest) w) (lone f' (fs' ++ rest) w')
theorem Reach.head {lo : Nat} {fr1 : AFr} {cs1 : List AFr} {H1 : Heap} {nx1 : Nat} {ρ ρ2 : Rho} {N : Nat} {w w2 : World} {f f2 : Frame} {fs fs2 rest : List Frame}
    (hs : Steps P (lone f (fs ++ rest) w) (lone f2 (fs2 ++ rest) w2)) (hle : ρ.le ρ2) (hb : Below N w w2) (hbot : botF f fs = botF f2 fs2)
    (h : Reach P G lo fr1 cs1 H1 nx1 ρ2 N w2 f2 fs2 rest) : Reach P G lo fr1 cs1 H1 nx1 ρ N w f fs rest := by
  obtain ⟨ρ', w', f', fs', h1, h2, h3, h4, h5, h6, h7⟩ := h
  exact ⟨ρ', w', f', fs', fun i p e => h1 i p (hle i p e), h2, hb.trans h3, h4, h5, hbot.trans h6, Steps.trans hs h7⟩
def Out (P : Program) (G : Nat → Nat → Option AV) (lo : Nat) (k : Cont) (H : Heap) (nx : Nat) (S : Rho → Nat → World → Frame → List Frame → Prop) : Prop :=
  ∃ fr1 cs1 H1 nx1, k fr1 cs1 H1 nx1 = true ∧ nx ≤ nx1 ∧ (lo ≤ nx → HeapLo lo H H1) ∧
    ∀ ρ N w f fs rest, Inv G ρ H nx lo N w → S ρ N w f fs → Reach P G lo fr1 cs1 H1 nx1 ρ N w f fs rest
theorem Out.of_step {lo : Nat} {k : Cont} {H H2 : Heap} {nx nx2 : Nat} {S S2 : Rho → Nat → World → Frame → List Frame → Prop} (h : Out P G lo k H2 nx2 S2) (hnx : nx ≤ nx2) (hH : lo ≤ nx → HeapLo lo H H2)
    (hs : ∀ ρ N w f fs rest, Inv G ρ H nx lo N w → S ρ N w f fs → ∃ ρ2 w2 f2 fs2, ρ.le ρ2 ∧ Inv G ρ2 H2 nx2 lo N w2 ∧ Below N w w2 ∧ botF f fs = botF f2 fs2 ∧ S2 ρ2 N w2 f2 fs2 ∧
      Steps P (lone f (fs ++ rest) w) (lone f2 (fs2 ++ rest) w2)) : Out P G lo k H nx S := by
  obtain ⟨fr1, cs1, H1, nx1, h1, h2, h3, h4⟩ := h
  refine ⟨fr1, cs1, H1, nx1, h1, Nat.le_trans hnx h2, fun hl => (hH hl).trans (h3 (Nat.le_trans hl hnx)), fun ρ N w f fs rest hI hS => ?_⟩
  obtain ⟨ρ2, w2, f2, fs2, k1, k2, k3, k4, k5, k6⟩ := hs ρ N w f fs rest hI hS
  exact Reach.head k6 k1 k3 k4 (h4 ρ2 N w2 f2 fs2 rest k2 k5)
theorem Out.now {lo : Nat} {k : Cont} {H H1 : Heap} {nx nx1 : Nat} {S : Rho → Nat → World → Frame → List Frame → Prop} {fr1 : AFr} {cs1 : List AFr} (h : k fr1 cs1 H1 nx1 = true) (hnx : nx ≤ nx1) (hH : lo ≤ nx → HeapLo lo H H1)
    (hs : ∀ ρ N w f fs rest, Inv G ρ H nx lo N w → S ρ N w f fs → Reach P G lo fr1 cs1 H1 nx1 ρ N w f fs rest) : Out P G lo k H nx S :=
  ⟨fr1, cs1, H1, nx1, h, hnx, hH, hs⟩
theorem Reach.one {lo : Nat} {fr1 : AFr} {cs1 : List AFr} {H1 : Heap} {nx1 : Nat} {ρ : Rho} {N : Nat} {w : World} {f f' : Frame} {fs fs' rest : List Frame}
    (hI : Inv G ρ H1 nx1 lo N w) (h1 : FrameR ρ fr1 f') (h2 : FramesR ρ cs1 fs') (hb : botF f fs = botF f' fs') (hs : step P (lone f (fs ++ rest) w) = .next (lone f' (fs' ++ rest) w)) :
    Reach P G lo fr1 cs1 H1 nx1 ρ N w f fs rest :=
  ⟨ρ, w, f', fs', Rho.le_refl ρ, hI, Below.refl _ _, h1, h2, hb, .one hs⟩
def Sit (itR : Rho → Item → Prop) (fn : Nat) (env : Env) (n : Nat) (td : List AItem) (ds : List ADef) (kind : CallKind) (round : Option Nat) (cs : List AFr) (ρ : Rho) (_ : Nat) (_ : World) (f : Frame) (fs : List Frame) : Prop :=
  ∃ b a it tdc, f = Frame.atR b a (it :: tdc) ∧ itR ρ it ∧ FrameR ρ ⟨fn, env, n, td, ds, .run, kind, round⟩ (b.atR a tdc) ∧ FramesR ρ cs fs
def CodeSnd (P : Program) (G : Nat → Nat → Option AV) (lo : Nat) (itR : Rho → Item → Prop) (F : CodeFn) : Prop :=
  ∀ fn env n td ds kind round cs H nx k, F fn env n td ds kind round cs H nx k = true → Out P G lo k H nx (Sit itR fn env n td ds kind round cs)
theorem FrameR.push {ρ : Rho} {fn : Nat} {env : Env} {n : Nat} {td : List AItem} {ds : List ADef} {kind : CallKind} {round : Option Nat} {b : Frame} {a : Act} {tdc : List Item} {x : AItem} {it : Item}
    (h : FrameR ρ ⟨fn, env, n, td, ds, .run, kind, round⟩ (b.atR a tdc)) (hx : ItemR ρ x it) : FrameR ρ ⟨fn, env, n, x :: td, ds, .run, kind, round⟩ (b.atR a (it :: tdc)) :=
  ⟨h.fn, h.env, fun _ => ⟨hx, h.todo rfl⟩, h.defers, h.mode, h.kind, h.round, fun hm => absurd rfl hm⟩
theorem FrameR.todo' {ρ : Rho} {fn : Nat} {env : Env} {n : Nat} {td td' : List AItem} {ds : List ADef} {kind : CallKind} {round : Option Nat} {b : Frame} {a : Act} {tdc tdc' : List Item}
    (h : FrameR ρ ⟨fn, env, n, td, ds, .run, kind, round⟩ (b.atR a tdc)) (hx : TodoR ρ td' tdc') : FrameR ρ ⟨fn, env, n, td', ds, .run, kind, round⟩ (b.atR a tdc') :=
  ⟨h.fn, h.env, fun _ => hx, h.defers, h.mode, h.kind, h.round, fun hm => absurd rfl hm⟩
def IsItem (it : Item) : Rho → Item → Prop := fun _ x => x = it
theorem cNext_snd {lo : Nat} {itR : Rho → Item → Prop} (h : ∀ ρ it, itR ρ it → ∀ (b : Frame) (a : Act) tdc cs w, step P (lone (b.atR a (it :: tdc)) cs w) = .next (lone (b.atR a tdc) cs w)) : CodeSnd P G lo itR cNext := by
  intro fn env n td ds kind round cs H nx k hk
  refine Out.now hk (Nat.le_refl _) (fun _ => HeapLo.refl _ _) fun ρ N w f fs rest hI hS => ?_
  obtain ⟨b, a, it, tdc, rfl, h1, h2, h3⟩ := hS
  exact Reach.one hI h2 h3 (botF_same _ rfl) (h ρ it h1 b a tdc _ w)
theorem turn_snd {lo : Nat} {itR itR2 : Rho → Item → Prop} {x : AItem} {y : Item} {F : CodeFn} (hF : CodeSnd P G lo itR2 F) (hx : ∀ ρ, ItemR ρ x y)
    (h : ∀ ρ it, itR ρ it → ∃ it2, itR2 ρ it2 ∧ ∀ (b : Frame) (a : Act) tdc cs w, step P (lone (b.atR a (it :: tdc)) cs w) = .next (lone (b.atR a (it2 :: y :: tdc)) cs w)) :
    CodeSnd P G lo itR (fun fn env n td ds kind round cs H nx k => F fn env n (x :: td) ds kind round cs H nx k) := by
  intro fn env n td ds kind round cs H nx k hk
  refine Out.of_step (hF _ _ _ _ _ _ _ _ _ _ _ hk) (Nat.le_refl _) (fun _ => HeapLo.refl _ _) fun ρ N w f fs rest hI hS => ?_
  obtain ⟨b, a, it, tdc, rfl, h1, h2, h3⟩ := hS
  obtain ⟨it2, k1, k2⟩ := h ρ it h1
  exact ⟨ρ, w, b.atR a (it2 :: y :: tdc), fs, Rho.le_refl ρ, hI, Below.refl _ _, botF_same _ rfl, ⟨b, a, it2, _, rfl, k1, h2.push (hx ρ), h3⟩, .one (k2 b a tdc _ w)⟩
theorem turn1_snd {lo : Nat} {itR itR2 : Rho → Item → Prop} {F : CodeFn} (hF : CodeSnd P G lo itR2 F)
    (h : ∀ ρ it, itR ρ it → ∃ it2, itR2 ρ it2 ∧ ∀ (b : Frame) (a : Act) tdc cs w, step P (lone (b.atR a (it :: tdc)) cs w) = .next (lone (b.atR a (it2 :: tdc)) cs w)) :
    CodeSnd P G lo itR F := by
  intro fn env n td ds kind round cs H nx k hk
  refine Out.of_step (hF _ _ _ _ _ _ _ _ _ _ _ hk) (Nat.le_refl _) (fun _ => HeapLo.refl _ _) fun ρ N w f fs rest hI hS => ?_
  obtain ⟨b, a, it, tdc, rfl, h1, h2, h3⟩ := hS
  obtain ⟨it2, k1, k2⟩ := h ρ it h1
  exact ⟨ρ, w, b.atR a (it2 :: tdc), fs, Rho.le_refl ρ, hI, Below.refl _ _, botF_same _ rfl, ⟨b, a, it2, _, rfl, k1, h2, h3⟩, .one (k2 b a tdc _ w)⟩
end
end Go.Ev

