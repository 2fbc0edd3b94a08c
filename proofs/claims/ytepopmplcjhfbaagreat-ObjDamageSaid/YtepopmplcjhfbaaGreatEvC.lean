import Derived.Test.YtepopmplcjhfbaaGreatEvB
import Derived.RangeFuncRecord
set_option linter.unusedSectionVars false
set_option linter.unusedVariables false
set_option linter.unusedSimpArgs false
set_option linter.unnecessarySimpa false
namespace Go.Ev
open Go.RowKit
variable [Unk]
def RoundR (ρ : Rho) : Option Nat → Option Nat → Prop
  | none, none => True
  | some l, some b => ∃ sz, ρ l = some (b, sz)
  | _, _ => False
theorem RoundR.mono {ρ ρ' : Rho} (hle : ρ.le ρ') : ∀ {a b : Option Nat}, RoundR ρ a b → RoundR ρ' a b
  | none, none, _ => trivial
  | some _, some _, ⟨sz, h⟩ => ⟨sz, hle _ _ h⟩
  | none, some _, h => h.elim
  | some _, none, h => h.elim
inductive DR (ρ : Rho) : ADef → Deferred → Prop where
  | call (f : Nat) (as : List AV) (cap args : Array Value) (h : VRs ρ as (args ++ cap).toList) : DR ρ (.call f as) { target := .fn (.func f) cap, args }
  | coll (id b sz : Nat) (h : ρ id = some (b, sz)) : DR ρ (.coll id) { target := .collected b, args := #[] }
theorem DR.mono {ρ ρ' : Rho} (hle : ρ.le ρ') {a : ADef} {d : Deferred} : DR ρ a d → DR ρ' a d
  | .call f as cap args h => .call f as cap args (h.mono hle)
  | .coll id b sz h => .coll id b sz (hle _ _ h)
def DRs (ρ : Rho) : List ADef → List Deferred → Prop
  | [], [] => True
  | a :: l, d :: ds => DR ρ a d ∧ DRs ρ l ds
  | _, _ => False
theorem DRs.mono {ρ ρ' : Rho} (hle : ρ.le ρ') : ∀ {l : List ADef} {ds : List Deferred}, DRs ρ l ds → DRs ρ' l ds
  | [], [], _ => trivial
  | _ :: _, _ :: _, h => ⟨h.1.mono hle, DRs.mono hle h.2⟩
  | [], _ :: _, h => h.elim
  | _ :: _, [], h => h.elim
theorem DRs.append {ρ : Rho} : ∀ {l l' : List ADef} {ds ds' : List Deferred}, DRs ρ l ds → DRs ρ l' ds' → DRs ρ (l ++ l') (ds ++ ds')
  | [], _, [], _, _, h' => h'
  | _ :: _, _, _ :: _, _, h, h' => ⟨h.1, DRs.append h.2 h'⟩
  | [], _, _ :: _, _, h, _ => h.elim
  | _ :: _, _, [], _, h, _ => h.elim
def ERs (ρ : Rho) : List (AV × AV) → List MapEntry → Prop
  | [], [] => True
  | a :: l, e :: es => (VR ρ a.1 e.key ∧ VR ρ a.2 e.val) ∧ ERs ρ l es
  | _, _ => False
theorem ERs.mono {ρ ρ' : Rho} (hle : ρ.le ρ') : ∀ {l : List (AV × AV)} {es : List MapEntry}, ERs ρ l es → ERs ρ' l es
  | [], [], _ => trivial
  | _ :: _, _ :: _, h => ⟨⟨h.1.1.mono hle, h.1.2.mono hle⟩, ERs.mono hle h.2⟩
  | [], _ :: _, h => h.elim
  | _ :: _, [], h => h.elim
inductive OR (ρ : Rho) : AO → Nat → Obj → Prop where
  | cells (t : T AV) (n : Nat) (e e' : TypeId) (tail : Bool) (c : Array Value) (sz lo hi : Nat) (hs : c.size = sz) (hn : n ≤ sz) (ht : tail = false → n = sz)
      (hv : ∀ i a, t.get i = some a → ∃ v, c[i]? = some v ∧ VR ρ a v) (hf : lo ≤ hi ∧ ∀ i, i < sz → lo ≤ i → hi ≤ i) : OR ρ (.cells t n e tail) sz (.cells c e' (lo, hi))
  | map (es : List (AV × AV)) (entries : Array MapEntry) (clock sz : Nat) (h : ERs ρ es entries.toList) : OR ρ (.map es) sz (.map entries clock)
  | siter (l : List Nat) (s : ByteArray) (pos sz : Nat) (h : s.data.toList.map UInt8.toNat = l) : OR ρ (.siter l (l.drop pos) pos) sz (.stringIter s pos)
  | loop (st : LoopState) (pending : Option Code) (env : Env) (n : Nat) (ps : List Tmp) (assign body : Code) (d db dsz sz : Nat) (r : Loop) (h1 : r.state = st) (h2 : r.pending = pending)
      (h3 : EnvR ρ env n r.tmps) (h4 : r.params.toList = ps) (h5 : r.assign = assign) (h6 : r.body = body) (h7 : ρ d = some (db, dsz)) (h8 : r.defers = db) : OR ρ (.loop st pending env n ps assign body d) sz (.loop r)
  | defdNone (sz : Nat) : OR ρ (.defd none) sz (.deferred none)
  | defdSome (l : List ADef) (ds : List Deferred) (sz : Nat) (h : DRs ρ l ds) : OR ρ (.defd (some l)) sz (.deferred (some ds))
theorem OR.mono {ρ ρ' : Rho} (hle : ρ.le ρ') {o : AO} {sz : Nat} {ob : Obj} : OR ρ o sz ob → OR ρ' o sz ob
  | .cells t n e e' tail c sz lo hi hs hn ht hv hf => .cells t n e e' tail c sz lo hi hs hn ht (fun i a h => let ⟨v, h1, h2⟩ := hv i a h; ⟨v, h1, h2.mono hle⟩) hf
  | .map es entries clock sz h => .map es entries clock sz (h.mono hle)
  | .siter l s pos sz h => .siter l s pos sz h
  | .loop st pending env n ps assign body d db dsz sz r h1 h2 h3 h4 h5 h6 h7 h8 => .loop st pending env n ps assign body d db dsz sz r h1 h2 (h3.mono hle) h4 h5 h6 (hle _ _ h7) h8
  | .defdNone sz => .defdNone sz
  | .defdSome l ds sz h => .defdSome l ds sz (h.mono hle)
structure Inv (G : Nat → Nat → Option AV) (ρ : Rho) (H : Heap) (nx lo N : Nat) (w : World) : Prop where
  dom : ∀ i p, ρ i = some p → i < nx
  fresh : ∀ i, nx ≤ i → H.get i = none
  obj : ∀ i o, H.get i = some o → ∃ b sz ob, ρ i = some (b, sz) ∧ (lo ≤ i → N ≤ b) ∧ w.heap[b]? = some ob ∧ OR ρ o sz ob
  inj : ∀ i j o o' b sz sz', H.get i = some o → H.get j = some o' → ρ i = some (b, sz) → ρ j = some (b, sz') → i = j
  glob : ∀ g off a, G g off = some a → (gp g off).block < N ∧ ∃ v, w.cell? (gp g off) = some v ∧ VR (fun _ => none) a v
  size : N ≤ w.heap.size
theorem getElem?_lt {α : Type} {a : Array α} {i : Nat} {x : α} (h : a[i]? = some x) : i < a.size := by
  rcases Nat.lt_or_ge i a.size with h' | h'
  · exact h'
  · rw [Array.getElem?_eq_none h'] at h; cases h
theorem Inv.more {G : Nat → Nat → Option AV} {ρ : Rho} {H : Heap} {nx lo N : Nat} {w w' : World} (h : Inv G ρ H nx lo N w) (hb : Below w.heap.size w w') : Inv G ρ H nx lo N w' := {
  dom := h.dom
  fresh := h.fresh
  obj := fun i o e => by
    obtain ⟨b, sz, ob, h1, h2, h3, h4⟩ := h.obj i o e
    exact ⟨b, sz, ob, h1, h2, by rw [hb.block b (getElem?_lt h3)]; exact h3, h4⟩
  inj := h.inj
  glob := fun g off a e => by
    obtain ⟨hg, v, h1, h2⟩ := h.glob g off a e
    have := h.size
    exact ⟨hg, v, by rw [hb.cell (p := gp g off) (by omega)]; exact h1, h2⟩
  size := Nat.le_trans h.size hb.size }
def Rho.put (ρ : Rho) (i b sz : Nat) : Rho := fun j => if j = i then some (b, sz) else ρ j
theorem Rho.le_put {ρ : Rho} {i b sz : Nat} (h : ρ i = none) : ρ.le (ρ.put i b sz) := fun j p e => by
  unfold Rho.put
  split
  · rename_i hj; subst hj; rw [h] at e; cases e
  · exact e
theorem Rho.put_same (ρ : Rho) (i b sz : Nat) : ρ.put i b sz i = some (b, sz) := by simp [Rho.put]
theorem Inv.alloc {G : Nat → Nat → Option AV} {ρ : Rho} {H H' : Heap} {nx lo N : Nat} {w : World} (h : Inv G ρ H nx lo N w) {o : AO} {ob : Obj} {sz : Nat}
    (hH : ∀ m, H'.get m = if m = nx then some o else H.get m) (ho : OR (ρ.put nx w.heap.size sz) o sz ob) :
    ρ.le (ρ.put nx w.heap.size sz) ∧ Inv G (ρ.put nx w.heap.size sz) H' (nx + 1) lo N (w.alloc ob) ∧ Below w.heap.size w (w.alloc ob) := by
  have hn : ρ nx = none := by
    cases e : ρ nx with
    | none => rfl
    | some p => exact absurd (h.dom nx p e) (by omega)
  have hle := Rho.le_put (ρ := ρ) (i := nx) (b := w.heap.size) (sz := sz) hn
  have hb : Below w.heap.size w (w.alloc ob) := (Below.refl _ _).alloc (Nat.le_refl _) _
  refine ⟨hle, ?_, hb⟩
  constructor
  · intro i p e
    unfold Rho.put at e
    split at e
    · omega
    · have := h.dom i p e; omega
  · intro i hi
    rw [hH, if_neg (by omega)]
    exact h.fresh i (by omega)
  · intro i o' e
    rw [hH] at e
    by_cases hi : i = nx
    · subst hi
      simp at e; subst e
      exact ⟨_, sz, ob, Rho.put_same _ _ _ _, fun _ => h.size, by show (w.heap.push ob)[w.heap.size]? = _; simp, ho⟩
    · rw [if_neg hi] at e
      obtain ⟨b, sz', ob', h1, h2, h3, h4⟩ := h.obj i o' e
      exact ⟨b, sz', ob', hle _ _ h1, h2, by rw [hb.block b (getElem?_lt h3)]; exact h3, h4.mono hle⟩
  · intro i j o1 o2 b s1 s2 e1 e2 r1 r2
    rw [hH] at e1 e2
    by_cases hi : i = nx
    · by_cases hj : j = nx
      · omega
      · rw [if_neg hj] at e2
        obtain ⟨b', s', ob', h1, _, h3, _⟩ := h.obj j o2 e2
        have := hle _ _ h1
        rw [r2] at this; simp at this
        rw [hi, Rho.put_same] at r1; simp at r1
        have := getElem?_lt h3
        omega
    · rw [if_neg hi] at e1
      obtain ⟨b', s', ob', h1, _, h3, _⟩ := h.obj i o1 e1
      by_cases hj : j = nx
      · have := hle _ _ h1
        rw [r1] at this; simp at this
        rw [hj, Rho.put_same] at r2; simp at r2
        have := getElem?_lt h3
        omega
      · rw [if_neg hj] at e2
        obtain ⟨b'', s'', ob'', h1', _, _, _⟩ := h.obj j o2 e2
        have k1 := hle _ _ h1
        have k2 := hle _ _ h1'
        rw [r1] at k1; rw [r2] at k2
        simp at k1 k2
        exact h.inj i j o1 o2 b s' s'' e1 e2 (by rw [h1, k1.1]) (by rw [h1', k2.1])
  · intro g off a e
    obtain ⟨hg, v, h1, h2⟩ := h.glob g off a e
    have := h.size
    exact ⟨hg, v, by rw [hb.cell (p := gp g off) (by omega)]; exact h1, h2⟩
  · simp; have := h.size; omega
theorem Inv.set {G : Nat → Nat → Option AV} {ρ : Rho} {H H' : Heap} {nx lo N : Nat} {w w' : World} (h : Inv G ρ H nx lo N w) {id b sz : Nat} {o o' : AO} {ob' : Obj}
    (hid : H.get id = some o) (hlo : lo ≤ id) (hr : ρ id = some (b, sz)) (hH : ∀ m, H'.get m = if m = id then some o' else H.get m)
    (hw : w'.heap[b]? = some ob') (hother : ∀ k, k ≠ b → w'.heap[k]? = w.heap[k]?) (hsize : w'.heap.size = w.heap.size) (hos : w'.os = w.os) (htape : w'.tape = w.tape) (hout : w'.output = w.output)
    (ho : OR ρ o' sz ob') : Inv G ρ H' nx lo N w' ∧ Below N w w' := by
  obtain ⟨b0, sz0, ob0, h1, h2, h3, h4⟩ := h.obj id o hid
  rw [hr] at h1; simp at h1
  obtain ⟨rfl, rfl⟩ := h1
  have hN := h2 hlo
  refine ⟨?_, ⟨hos, htape, hout, by omega, fun k hk => hother k (by omega)⟩⟩
  constructor
  · exact h.dom
  · intro i hi
    rw [hH, if_neg ?_]
    · exact h.fresh i hi
    · have := h.dom id _ hr; omega
  · intro i oi e
    rw [hH] at e
    by_cases hi : i = id
    · subst hi
      simp at e; subst e
      exact ⟨b, sz, ob', hr, h2, hw, ho⟩
    · rw [if_neg hi] at e
      obtain ⟨b', sz', ob'', k1, k2, k3, k4⟩ := h.obj i oi e
      refine ⟨b', sz', ob'', k1, k2, ?_, k4⟩
      rw [hother b' ?_]
      · exact k3
      · intro eb; subst eb
        exact hi (h.inj i id oi o b' sz' sz e hid k1 hr)
  · intro i j o1 o2 b' s1 s2 e1 e2 r1 r2
    rw [hH] at e1 e2
    have f1 : ∃ o, H.get i = some o := by
      by_cases hi : i = id
      · exact ⟨o, hi ▸ hid⟩
      · exact ⟨o1, by simpa [hi] using e1⟩
    have f2 : ∃ o, H.get j = some o := by
      by_cases hj : j = id
      · exact ⟨o, hj ▸ hid⟩
      · exact ⟨o2, by simpa [hj] using e2⟩
    obtain ⟨_, f1⟩ := f1
    obtain ⟨_, f2⟩ := f2
    exact h.inj i j _ _ b' s1 s2 f1 f2 r1 r2
  · intro g off a e
    obtain ⟨hg, v, k1, k2⟩ := h.glob g off a e
    refine ⟨hg, v, ?_, k2⟩
    rw [← k1]
    simp only [World.cell?]
    rw [hother (gp g off).block (by omega)]
  · rw [hsize]; exact h.size
theorem Inv.drop {G : Nat → Nat → Option AV} {ρ : Rho} {H H' : Heap} {nx lo N : Nat} {w : World} (h : Inv G ρ H nx lo N w) {id : Nat} (hH : ∀ m, H'.get m = if m = id then none else H.get m) : Inv G ρ H' nx lo N w := {
  dom := h.dom
  fresh := fun i hi => by rw [hH]; split <;> first | rfl | exact h.fresh i hi
  obj := fun i o e => by
    rw [hH] at e
    split at e
    · cases e
    · exact h.obj i o e
  inj := fun i j o o' b s s' e1 e2 => by
    rw [hH] at e1 e2
    split at e1
    · cases e1
    · split at e2
      · cases e2
      · exact h.inj i j o o' b s s' e1 e2
  glob := h.glob
  size := h.size }
theorem Inv.shut {G : Nat → Nat → Option AV} {ρ : Rho} {H : Heap} {nx lo N : Nat} {w : World} (h : Inv G ρ H nx lo N w) : Inv G ρ H nx nx w.heap.size w := {
  dom := h.dom
  fresh := h.fresh
  obj := fun i o e => by
    obtain ⟨b, sz, ob, h1, h2, h3, h4⟩ := h.obj i o e
    exact ⟨b, sz, ob, h1, fun hi => absurd (h.dom i _ h1) (by omega), h3, h4⟩
  inj := h.inj
  glob := fun g off a e => by
    obtain ⟨hg, v, h1, h2⟩ := h.glob g off a e
    have := h.size
    exact ⟨by omega, v, h1, h2⟩
  size := Nat.le_refl _ }
def HeapLo (lo : Nat) (H H' : Heap) : Prop := ∀ i, i < lo → H'.get i = H.get i
theorem HeapLo.refl (lo : Nat) (H : Heap) : HeapLo lo H H := fun _ _ => rfl
theorem HeapLo.trans {lo : Nat} {a b c : Heap} (h : HeapLo lo a b) (h' : HeapLo lo b c) : HeapLo lo a c := fun i hi => (h' i hi).trans (h i hi)
theorem newK_true {H : Heap} {nx : Nat} {o : AO} {k : Nat → Heap → Nat → Bool} (h : newK H nx o k = true) : ∃ H', (∀ m, H'.get m = if m = nx then some o else H.get m) ∧ k nx H' (nx + 1) = true := by
  obtain ⟨H', hH, h⟩ := T.setK_true _ _ _ _ _ h
  rw [fN_eq] at h
  exact ⟨H', hH, h⟩
theorem setMany_true : ∀ (l : List AV) {t : T AV} {off : Nat} {k : T AV → Bool}, setMany t off l k = true → ∃ t', (∀ m, t'.get m = if off ≤ m ∧ m < off + l.length then l[m - off]? else t.get m) ∧ k t' = true
  | [], t, off, k, h => ⟨t, fun m => by rw [if_neg (by simp)], h⟩
  | a :: l, t, off, k, h => by
    obtain ⟨t1, h1, h⟩ := T.setK_true _ _ _ _ _ h
    rw [fN_eq] at h
    obtain ⟨t', h', hk⟩ := setMany_true l h
    refine ⟨t', fun m => ?_, hk⟩
    rw [h', h1]
    by_cases e : m = off
    · subst e
      rw [if_neg (by omega), if_pos rfl, if_pos (by simp)]
      simp
    · by_cases e' : off + 1 ≤ m ∧ m < off + 1 + l.length
      · rw [if_pos e', if_pos (by simp; omega)]
        have : m - off = (m - (off + 1)) + 1 := by omega
        rw [this, List.getElem?_cons_succ]
      · rw [if_neg e', if_neg e, if_neg (by simp; omega)]
theorem mkCells_true {l : List AV} {k : T AV → Bool} (h : mkCells l k = true) : ∃ t, (∀ m, t.get m = l[m]?) ∧ k t = true := by
  obtain ⟨t, ht, hk⟩ := setMany_true l h
  refine ⟨t, fun m => ?_, hk⟩
  rw [ht]
  split
  · simp
  · rename_i hn
    rw [T.get_lf, List.getElem?_eq_none (by omega)]
theorem getMany_true {t : T AV} : ∀ (n : Nat) {off : Nat} {k : List AV → Bool}, getMany t off n k = true → ∃ l, l.length = n ∧ (∀ i, i < n → t.get (off + i) = l[i]?) ∧ k l = true
  | 0, _, _, h => ⟨[], rfl, fun i hi => by omega, h⟩
  | n + 1, off, k, h => by
    obtain ⟨a, ha, h⟩ := opt_true h
    obtain ⟨l, hl, hg, hk⟩ := getMany_true n h
    refine ⟨a :: l, by simp [hl], fun i hi => ?_, hk⟩
    cases i with
    | zero => simp [ha]
    | succ i => rw [show off + (i + 1) = off + 1 + i from by omega, hg i (by omega)]; rfl
theorem getManyG_true {G : Nat → Nat → Option AV} {g : Nat} : ∀ (n : Nat) {off : Nat} {k : List AV → Bool}, getManyG G g off n k = true → ∃ l, l.length = n ∧ (∀ i, i < n → G g (off + i) = l[i]?) ∧ k l = true
  | 0, _, _, h => ⟨[], rfl, fun i hi => by omega, h⟩
  | n + 1, off, k, h => by
    obtain ⟨a, ha, h⟩ := opt_true h
    obtain ⟨l, hl, hg, hk⟩ := getManyG_true n h
    refine ⟨a :: l, by simp [hl], fun i hi => ?_, hk⟩
    cases i with
    | zero => simp [ha]
    | succ i => rw [show off + (i + 1) = off + 1 + i from by omega, hg i (by omega)]; rfl
end Go.Ev

