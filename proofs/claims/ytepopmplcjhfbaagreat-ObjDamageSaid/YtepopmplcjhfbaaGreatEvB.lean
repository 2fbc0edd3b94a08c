import Derived.Test.YtepopmplcjhfbaaGreatEvA
import Derived.Test.YtepopmplcjhfbaaGreatEvLin
set_option linter.unusedSectionVars false
set_option linter.unusedVariables false
set_option linter.unusedSimpArgs false
set_option linter.unnecessarySimpa false
set_option linter.unusedSectionVars false
namespace Go.Ev
open Go.RowKit
class Unk where
  gen ::
  s : Nat → Int
  gat : Nat → Nat × Nat
  gcap : Nat → Nat
  hgat : ∀ g, g < 1000000 → gat g = (g, 0)
abbrev Unk.mk (s : Nat → Int) : Unk := Unk.gen s (fun g => (g, 0)) (fun _ => 0) (fun _ _ => rfl)
def gp [Unk] (g off : Nat) : Addr := ⟨(Unk.gat g).1, (Unk.gat g).2 + off, none⟩
variable [Unk]
abbrev Rho := Nat → Option (Nat × Nat)
def Rho.le (ρ ρ' : Rho) : Prop := ∀ i p, ρ i = some p → ρ' i = some p
theorem Rho.le_refl (ρ : Rho) : ρ.le ρ := fun _ _ h => h
theorem Rho.le_trans {a b c : Rho} (h : a.le b) (h' : b.le c) : a.le c := fun i p e => h' i p (h i p e)
def btsV (s : Nat → Int) (w : Nat) (c : Nat) (l : List Nat) : BitVec w := l.foldr (fun i a => BitVec.ofInt w (2 ^ (s i).toNat) ||| a) (BitVec.ofInt w (c : Int))
mutual
inductive VR (ρ : Rho) : AV → Value → Prop where
  | bool (b : Bool) : VR ρ (.bool b) (.bool b)
  | int (k : IntKind) (n : Int) : VR ρ (.int k n) (.int k n)
  | lin (k : IntKind) (c0 : Int) (l : List Int) (bs : List (Int × Int)) (n : Int) (h : n = c0 + Lin.val Unk.s l 0) (hb : Lin.Within Unk.s bs 0) : VR ρ (.lin k c0 l bs) (.int k n)
  | bts (k : IntKind) (c : Nat) (l : List Nat) (n : Int) (h : n = k.wrap ((btsV Unk.s k.bits c l).toNat : Int)) : VR ρ (.bts k c l) (.int k n)
  | str (l : List Nat) (s : ByteArray) (h : s.data.toList.map UInt8.toNat = l) : VR ρ (.str l) (.string s)
  | pnil : VR ρ .pnil (.pointer none)
  | ptr (id off b sz : Nat) (h : ρ id = some (b, sz)) : VR ρ (.ptr id off) (.pointer (some ⟨b, off, none⟩))
  | glob (g off : Nat) : VR ρ (.glob g off) (.pointer (some (gp g off)))
  | snil : VR ρ .snil (.slice none 0 0)
  | sliceK (id off len cap b sz : Nat) (h : ρ id = some (b, sz)) (hl : len ≤ cap) : VR ρ (.slice id off len (.kn cap)) (.slice (some ⟨b, off, none⟩) len cap)
  | sliceU (id off len s cap b sz : Nat) (h : ρ id = some (b, sz)) (hl : len ≤ cap) (hs : off + cap * s = sz) : VR ρ (.slice id off len (.un s)) (.slice (some ⟨b, off, none⟩) len cap)
  | gsl (g off : Nat) (c0 : Int) (l : List Int) (bs : List (Int × Int)) (n : Nat) (h : (n : Int) = c0 + Lin.val Unk.s l 0) (hb : Lin.Within Unk.s bs 0) (hl : n ≤ Unk.gcap g - off) : VR ρ (.gsl g off c0 l bs) (.slice (some (gp g off)) n (Unk.gcap g - off))
  | mnil : VR ρ .mnil (.map none)
  | map (id b sz : Nat) (h : ρ id = some (b, sz)) : VR ρ (.map id) (.map (some b))
  | func (f : Nat) (fs cs : List AV) (fa ca : Array Value) (hf : VRs ρ fs fa.toList) (hc : VRs ρ cs ca.toList) : VR ρ (.func f fs cs) (.func (.func f) fa ca)
  | yld (id b sz : Nat) (h : ρ id = some (b, sz)) : VR ρ (.yld id) (.func (.yield b) #[] #[])
  | nilFunc : VR ρ .nilFunc .nilFunc
  | iface (t : TypeId) (a : AV) (v : Value) (h : VR ρ a v) : VR ρ (.iface t a) (.iface t v)
  | nilIface : VR ρ .nilIface .nilIface
  | agg (l : List AV) (cs : Array Value) (h : VRs ρ l cs.toList) : VR ρ (.agg l) (.agg cs)
  | tup (l : List AV) (cs : Array Value) (h : VRs ρ l cs.toList) : VR ρ (.tup l) (.tuple cs)
inductive VRs (ρ : Rho) : List AV → List Value → Prop where
  | nil : VRs ρ [] []
  | cons (a : AV) (v : Value) (l : List AV) (vs : List Value) (h : VR ρ a v) (hs : VRs ρ l vs) : VRs ρ (a :: l) (v :: vs)
end
mutual
theorem VR.mono {ρ ρ' : Rho} (hle : ρ.le ρ') {a : AV} {v : Value} : VR ρ a v → VR ρ' a v
  | .bool b => .bool b
  | .int k n => .int k n
  | .lin k c0 l bs n h hb => .lin k c0 l bs n h hb
  | .bts k c l n h => .bts k c l n h
  | .str l s h => .str l s h
  | .pnil => .pnil
  | .ptr id off b sz h => .ptr id off b sz (hle _ _ h)
  | .glob g off => .glob g off
  | .snil => .snil
  | .sliceK id off len cap b sz h hl => .sliceK id off len cap b sz (hle _ _ h) hl
  | .sliceU id off len s cap b sz h hl hs => .sliceU id off len s cap b sz (hle _ _ h) hl hs
  | .gsl g off c0 l bs n h hb hl => .gsl g off c0 l bs n h hb hl
  | .mnil => .mnil
  | .map id b sz h => .map id b sz (hle _ _ h)
  | .func f fs cs fa ca hf hc => .func f fs cs fa ca (VRs.mono hle hf) (VRs.mono hle hc)
  | .yld id b sz h => .yld id b sz (hle _ _ h)
  | .nilFunc => .nilFunc
  | .iface t a v h => .iface t a v (VR.mono hle h)
  | .nilIface => .nilIface
  | .agg l cs h => .agg l cs (VRs.mono hle h)
  | .tup l cs h => .tup l cs (VRs.mono hle h)
theorem VRs.mono {ρ ρ' : Rho} (hle : ρ.le ρ') {l : List AV} {vs : List Value} : VRs ρ l vs → VRs ρ' l vs
  | .nil => .nil
  | .cons a v l vs h hs => .cons a v l vs (VR.mono hle h) (VRs.mono hle hs)
end
theorem VRs.length {ρ : Rho} : ∀ {l : List AV} {vs : List Value}, VRs ρ l vs → l.length = vs.length
  | _, _, .nil => rfl
  | _, _, .cons _ _ _ _ _ hs => by simp [hs.length]
theorem VRs.append {ρ : Rho} : ∀ {l l' : List AV} {vs vs' : List Value}, VRs ρ l vs → VRs ρ l' vs' → VRs ρ (l ++ l') (vs ++ vs')
  | _, _, _, _, .nil, h' => h'
  | _, _, _, _, .cons a v l vs h hs, h' => .cons a v _ _ h (hs.append h')
theorem VRs.get {ρ : Rho} : ∀ {l : List AV} {vs : List Value}, VRs ρ l vs → ∀ (i : Nat) (a : AV), l[i]? = some a → ∃ v, vs[i]? = some v ∧ VR ρ a v
  | _, _, .nil, i, a, e => by simp at e
  | _, _, .cons a v l vs h hs, 0, a', e => by simp at e; subst e; exact ⟨v, rfl, h⟩
  | _, _, .cons a v l vs h hs, i + 1, a', e => by
    obtain ⟨v', e', h'⟩ := hs.get i a' (by simpa using e)
    exact ⟨v', by simpa using e', h'⟩
theorem VRs.of_get {ρ : Rho} : ∀ {l : List AV} {vs : List Value}, l.length = vs.length → (∀ (i : Nat) (a : AV) (v : Value), l[i]? = some a → vs[i]? = some v → VR ρ a v) → VRs ρ l vs
  | [], [], _, _ => .nil
  | a :: l, v :: vs, hl, h => .cons a v l vs (h 0 a v rfl rfl) (VRs.of_get (by simpa using hl) fun i a v e e' => h (i + 1) a v (by simpa using e) (by simpa using e'))
  | [], _ :: _, hl, _ => by simp at hl
  | _ :: _, [], hl, _ => by simp at hl
theorem VRs.take {ρ : Rho} : ∀ {l : List AV} {vs : List Value} (n : Nat), VRs ρ l vs → VRs ρ (l.take n) (vs.take n)
  | _, _, _, .nil => by simp; exact .nil
  | _, _, 0, .cons _ _ _ _ _ _ => by simp; exact .nil
  | _, _, n + 1, .cons a v l vs h hs => by simp; exact .cons a v _ _ h (hs.take n)
theorem VRs.drop {ρ : Rho} : ∀ {l : List AV} {vs : List Value} (n : Nat), VRs ρ l vs → VRs ρ (l.drop n) (vs.drop n)
  | _, _, _, .nil => by simp; exact .nil
  | _, _, 0, .cons a v l vs h hs => by simp; exact .cons a v l vs h hs
  | _, _, n + 1, .cons a v l vs h hs => by simp; exact hs.drop n
theorem absS_sound {ρ : Rho} {v : Value} {a : AV} (h : absS v = some a) : VR ρ a v := by
  unfold absS at h
  split at h <;> simp at h <;> subst h
  · exact .bool _
  · exact .int _ _
  · exact .str _ _ (by simp)
  · exact .pnil
  · exact .snil
  · exact .mnil
  · exact .nilFunc
  · exact .nilIface
theorem absL_sound {ρ : Rho} : ∀ (vs : List Value) {l : List AV}, absL vs = some l → VRs ρ l vs
  | [], l, h => by simp [absL] at h; subst h; exact .nil
  | v :: vs, l, h => by
    simp only [absL] at h
    split at h
    · rename_i a ha
      split at h
      · rename_i as has
        simp at h; subst h
        exact .cons _ _ _ _ (absS_sound ha) (absL_sound vs has)
      · cases h
    · cases h
theorem absV_sound {ρ : Rho} {v : Value} {a : AV} (h : absV v = some a) : VR ρ a v := by
  unfold absV at h
  split at h
  · split at h
    · rename_i cs l hl; simp at h; subst h; exact .agg _ _ (absL_sound _ hl)
    · cases h
  · split at h
    · rename_i cs hcs; simp at h; subst h; exact .tup _ _ (by rw [hcs]; exact .nil)
    · cases h
  · exact absS_sound h
theorem VR.cells {ρ : Rho} {a : AV} {v : Value} (h : VR ρ a v) : VRs ρ (cellsOf a) v.cells.toList := by
  cases h <;> simp only [cellsOf, Value.cells] <;> first
    | assumption
    | exact .cons _ _ _ _ (by constructor <;> assumption) .nil
def EnvR (ρ : Rho) (env : Env) (n : Nat) (tmps : Array Value) : Prop := tmps.size = n ∧ ∀ i a, env.get i = some a → ∃ v, tmps[i]? = some v ∧ VR ρ a v
theorem EnvR.mono {ρ ρ' : Rho} (hle : ρ.le ρ') {env : Env} {n : Nat} {tmps : Array Value} (h : EnvR ρ env n tmps) : EnvR ρ' env n tmps :=
  ⟨h.1, fun i a e => let ⟨v, e', h'⟩ := h.2 i a e; ⟨v, e', h'.mono hle⟩⟩
theorem EnvR.put {ρ : Rho} {env env' : Env} {n d : Nat} {tmps : Array Value} {a : AV} {v : Value} (h : EnvR ρ env n tmps) (hd : d < n)
    (he : ∀ m, env'.get m = if m = d then some a else env.get m) (hv : VR ρ a v) : EnvR ρ env' n (tmps.setIfInBounds d v) := by
  refine ⟨by simp [h.1], fun i b e => ?_⟩
  rw [he] at e
  by_cases hi : i = d
  · subst hi
    simp at e; subst e
    exact ⟨v, by simp [h.1, hd], hv⟩
  · simp only [hi, if_false] at e
    obtain ⟨u, e', h'⟩ := h.2 i b e
    exact ⟨u, by rw [Array.getElem?_setIfInBounds_ne (Ne.symm hi)]; exact e', h'⟩
theorem putK_true {env : Env} {n : Nat} {dst : Option Tmp} {a : AV} {k : Env → Bool} (h : putK env n dst a k = true) :
    ∃ env', k env' = true ∧ ∀ (ρ : Rho) (act : Act) (v : Value), EnvR ρ env n act.tmps → VR ρ a v → EnvR ρ env' n (act.put dst v).tmps := by
  cases dst with
  | none => exact ⟨env, h, fun ρ act v he _ => he⟩
  | some d =>
    obtain ⟨hlt, h⟩ := guardB_true (b := Nat.blt d n) (k := fun _ => T.setK 24 env d (some a) k) h
    obtain ⟨env', he, hk⟩ := T.setK_true _ _ _ _ _ h
    exact ⟨env', hk, fun ρ act v h hv => h.put (blt_true hlt) he hv⟩
theorem VR.undef {ρ : Rho} : VR ρ (.tup []) undef := .tup [] #[] .nil
theorem aev_sound {ρ : Rho} {env : Env} {n : Nat} {act : Act} {x : Operand} {a : AV} (he : EnvR ρ env n act.tmps) (h : aev env x = some a) : VR ρ a (act.eval x) := by
  cases x with
  | tmp t =>
    obtain ⟨v, e, hv⟩ := he.2 t a h
    simpa [Act.eval, e] using hv
  | const v => exact absV_sound h
  | global g =>
    change (match Nat.blt g 1000000 with | true => some (AV.glob g 0) | false => none) = some a at h
    split at h
    · rename_i hg
      cases h
      have e := Unk.hgat g (blt_true hg)
      have : act.eval (.global g) = .pointer (some (gp g 0)) := by
        unfold gp; rw [e]; rfl
      rw [this]; exact .glob g 0
    · cases h
  | func f => simp [aev] at h; subst h; exact .func f [] [] _ _ .nil .nil
theorem ov_true {env : Env} {x : Operand} {k : AV → Bool} (h : ov env x k = true) : ∃ a, aev env x = some a ∧ k a = true := by
  cases x with
  | tmp t => exact opt_true h
  | const v =>
    obtain ⟨a, e, h⟩ := opt_true h
    rw [forceW_eq] at h
    exact ⟨a, e, h⟩
  | global g =>
    obtain ⟨hg, h⟩ := guardB_true (b := Nat.blt g 1000000) (k := fun _ => k (.glob g 0)) h
    exact ⟨_, by show (match Nat.blt g 1000000 with | true => some (AV.glob g 0) | false => none) = _; rw [hg], h⟩
  | func f => exact ⟨_, rfl, h⟩
def Aevs (env : Env) : List Operand → List AV → Prop
  | [], [] => True
  | x :: l, a :: as => aev env x = some a ∧ Aevs env l as
  | _, _ => False
theorem ovs_true {env : Env} : ∀ {l : List Operand} {k : List AV → Bool}, ovs env l k = true → ∃ as, Aevs env l as ∧ k as = true
  | [], k, h => ⟨[], trivial, h⟩
  | x :: l, k, h => by
    obtain ⟨a, e, h⟩ := ov_true h
    obtain ⟨as, es, h⟩ := ovs_true h
    exact ⟨a :: as, ⟨e, es⟩, h⟩
theorem Aevs.sound {ρ : Rho} {env : Env} {n : Nat} {act : Act} (he : EnvR ρ env n act.tmps) : ∀ {l : List Operand} {as : List AV}, Aevs env l as → VRs ρ as (l.map act.eval)
  | [], [], _ => .nil
  | _ :: _, _ :: _, h => .cons _ _ _ _ (aev_sound he h.1) (Aevs.sound he h.2)
  | [], _ :: _, h => h.elim
  | _ :: _, [], h => h.elim
end Go.Ev

