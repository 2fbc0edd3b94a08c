import Derived.Test.YtepopmplcjhfbaaGreatEvC
import Derived.Laws.Cells
import Derived.Laws.Entries
set_option linter.unusedSectionVars false
set_option linter.unusedVariables false
set_option linter.unusedSimpArgs false
set_option linter.unnecessarySimpa false
namespace Go.Ev
open Go.RowKit
variable [Unk]
theorem isAggK_true {P : Program} {t : TypeId} {k : Bool → Bool} (h : isAggK P t k = true) : ∃ b, k b = true ∧ ∀ w, (isAgg t).run P w = .ok b w := by
  unfold isAggK at h
  split at h
  · rename_i fs e; exact ⟨true, h, fun w => by simp [isAgg, run_underlying e]⟩
  · rename_i n e1 e; exact ⟨true, h, fun w => by simp [isAgg, run_underlying e]⟩
  · rename_i d h1 h2 e
    refine ⟨false, h, fun w => ?_⟩
    simp only [isAgg, Sem.run_bind, run_underlying e, Result.andThen_ok]
    cases d <;> first | rfl | (exact absurd rfl (h1 _)) | (exact absurd rfl (h2 _ _))
  · cases h
theorem sizeK_true {P : Program} {t : TypeId} {k : Nat → Bool} (h : sizeK P t k = true) : ∃ i, P.info? t = some i ∧ k i.size = true ∧ ∀ w, (sizeOf t).run P w = .ok i.size w := by
  unfold sizeK at h
  split at h
  · rename_i i e
    rw [fN_eq] at h
    exact ⟨i, e, h, fun w => by simp [sizeOf, typeInfo, e]⟩
  · cases h
theorem zeroK_true {P : Program} {t : TypeId} {k : AV → Bool} (h : zeroK P t k = true) : ∃ a z, k a = true ∧ (∀ ρ, VR ρ a z) ∧ ∀ w, (zeroValue t).run P w = .ok z w := by
  unfold zeroK at h
  split at h
  · rename_i i e
    obtain ⟨z, hz, h⟩ := opt_true h
    obtain ⟨a, ha, h⟩ := opt_true h
    rw [forceW_eq] at h
    exact ⟨a, z, h, fun ρ => absV_sound ha, fun w => by simp [zeroValue, typeInfo, e, hz]⟩
  · cases h
theorem add_none (b off i : Nat) : (⟨b, off, none⟩ : Addr).add i = ⟨b, off + i, none⟩ := by
  unfold Addr.add; split <;> simp_all
theorem cell_of_heap {w : World} {b : Nat} {c : Array Value} {e : TypeId} {fz : Nat × Nat} (h : w.heap[b]? = some (.cells c e fz)) (i : Nat) : w.cell? ⟨b, i, none⟩ = c[i]? := by
  simp [World.cell?, h]
theorem run_loadCells_of {P : Program} {w : World} {b off n : Nat} {vs : List Value} (hl : vs.length = n) (h : ∀ i v, vs[i]? = some v → w.cell? ⟨b, off + i, none⟩ = some v) :
    (loadCells ⟨b, off, none⟩ n).run P w = .ok vs.toArray w := by
  subst hl
  exact run_loadCells_list w ⟨b, off, none⟩ vs fun j v hv => by rw [add_none]; exact h j v hv
theorem run_load_of {P : Program} {w : World} {ad : Addr} {v : Value} (h : w.cell? ad = some v) : (load ad).run P w = .ok v w := by simp [h]
theorem vrs_of_cells {ρ : Rho} (f : Nat → Option Value) (l : List AV) (h : ∀ i a, l[i]? = some a → ∃ v, f i = some v ∧ VR ρ a v) :
    ∃ vs, VRs ρ l vs ∧ vs.length = l.length ∧ ∀ i v, vs[i]? = some v → f i = some v := by
  induction l generalizing f with
  | nil => exact ⟨[], .nil, rfl, fun i v e => by simp at e⟩
  | cons a l ih =>
    obtain ⟨v, hv, hr⟩ := h 0 a rfl
    obtain ⟨vs, h1, h2, h3⟩ := ih (fun i => f (i + 1)) (fun i a e => h (i + 1) a (by simpa using e))
    refine ⟨v :: vs, .cons _ _ _ _ hr h1, by simp [h2], fun i u e => ?_⟩
    cases i with
    | zero => simp at e; subst e; exact hv
    | succ i => exact h3 i u (by simpa using e)
theorem Inv.cells {G : Nat → Nat → Option AV} {ρ : Rho} {H : Heap} {nx lo N : Nat} {w : World} (hI : Inv G ρ H nx lo N w) {id : Nat} {c : T AV} {n : Nat} {e : TypeId} {tail : Bool}
    (h : H.get id = some (.cells c n e tail)) : ∃ b sz cs e' l h', ρ id = some (b, sz) ∧ (lo ≤ id → N ≤ b) ∧ w.heap[b]? = some (.cells cs e' (l, h')) ∧ cs.size = sz ∧ n ≤ sz ∧ (tail = false → n = sz) ∧
      (∀ i a, c.get i = some a → ∃ v, cs[i]? = some v ∧ VR ρ a v) ∧ (l ≤ h' ∧ ∀ i, i < sz → l ≤ i → h' ≤ i) := by
  obtain ⟨b, sz, ob, h1, h2, h3, h4⟩ := hI.obj id _ h
  cases h4 with
  | cells _ _ _ e' _ cs _ l h' hs hn ht hv hf => exact ⟨b, sz, cs, e', l, h', h1, h2, h3, hs, hn, ht, hv, hf⟩
theorem getMany_vrs {G : Nat → Nat → Option AV} {ρ : Rho} {H : Heap} {nx lo N : Nat} {w : World} (hI : Inv G ρ H nx lo N w) {id off : Nat} {c : T AV} {n : Nat} {e : TypeId} {tail : Bool}
    (h : H.get id = some (.cells c n e tail)) {l : List AV} {m : Nat} (hl : l.length = m) (hg : ∀ i, i < m → c.get (off + i) = l[i]?) {b sz : Nat} (hr : ρ id = some (b, sz)) :
    ∃ vs, VRs ρ l vs ∧ vs.length = m ∧ ∀ i v, vs[i]? = some v → w.cell? ⟨b, off + i, none⟩ = some v := by
  obtain ⟨b', sz', cs, e', _, _, h1, _, h3, _, _, _, hv, _⟩ := hI.cells h
  rw [hr] at h1; simp at h1; obtain ⟨rfl, rfl⟩ := h1
  obtain ⟨vs, k1, k2, k3⟩ := vrs_of_cells (ρ := ρ) (fun i => w.cell? ⟨b, off + i, none⟩) l (fun i a ea => by
    have hi : i < m := by rw [← hl]; exact (List.getElem?_eq_some_iff.1 ea).1
    obtain ⟨v, e1, e2⟩ := hv (off + i) a (by rw [hg i hi]; exact ea)
    exact ⟨v, by rw [cell_of_heap h3]; exact e1, e2⟩)
  exact ⟨vs, k1, by rw [k2, hl], k3⟩
theorem loadK_true {P : Program} {G : Nat → Nat → Option AV} {H : Heap} {t : TypeId} {a : AV} {k : AV → Bool} (h : loadK P G H t a k = true) :
    ∃ v, k v = true ∧ ∀ {ρ nx lo N w u}, Inv G ρ H nx lo N w → VR ρ a u → ∃ ad r, u = .pointer (some ad) ∧ (loadVar t ad).run P w = .ok r w ∧ VR ρ v r := by
  unfold loadK at h
  split at h
  · rename_i id off
    obtain ⟨o, ho, h⟩ := opt_true h
    split at h
    · rename_i c n e tail
      obtain ⟨b, h, hagg⟩ := isAggK_true h
      cases b with
      | true =>
        simp only at h
        obtain ⟨i, _, h, hsz⟩ := sizeK_true h
        obtain ⟨l, hl, hg, h⟩ := getMany_true _ h
        refine ⟨_, h, fun {ρ nx lo N w u} hI hu => ?_⟩
        cases hu with
        | ptr _ _ b sz hr =>
          obtain ⟨vs, k1, k2, k3⟩ := getMany_vrs hI ho hl hg hr
          refine ⟨_, .agg vs.toArray, rfl, ?_, .agg _ _ (by simpa using k1)⟩
          simp [loadVar, hagg, hsz, run_loadCells_of k2 k3]
      | false =>
        simp only at h
        obtain ⟨v, hv, h⟩ := opt_true h
        refine ⟨_, h, fun {ρ nx lo N w u} hI hu => ?_⟩
        cases hu with
        | ptr _ _ b sz hr =>
          obtain ⟨b', sz', cs, e', _, _, h1, _, h3, _, _, _, hvv, _⟩ := hI.cells ho
          rw [hr] at h1; simp at h1; obtain ⟨rfl, rfl⟩ := h1
          obtain ⟨r, e1, e2⟩ := hvv off v hv
          refine ⟨_, r, rfl, ?_, e2⟩
          have := run_load_of (P := P) (w := w) (ad := ⟨b, off, none⟩) (by rw [cell_of_heap h3]; exact e1)
          simp only [loadVar, Sem.run_bind, hagg, Result.andThen_ok]
          exact this
    · cases h
  · rename_i g off
    obtain ⟨b, h, hagg⟩ := isAggK_true h
    cases b with
    | true =>
      simp only at h
      obtain ⟨i, _, h, hsz⟩ := sizeK_true h
      obtain ⟨l, hl, hg, h⟩ := getManyG_true _ h
      refine ⟨_, h, fun {ρ nx lo N w u} hI hu => ?_⟩
      cases hu
      obtain ⟨vs, k1, k2, k3⟩ := vrs_of_cells (ρ := ρ) (fun i => w.cell? (gp g (off + i))) l (fun j a ea => by
        have hi : j < i.size := by rw [← hl]; exact (List.getElem?_eq_some_iff.1 ea).1
        obtain ⟨_, v, e1, e2⟩ := hI.glob g (off + j) a (by rw [hg j hi]; exact ea)
        exact ⟨v, e1, e2.mono (fun _ _ e => by cases e)⟩)
      refine ⟨_, .agg vs.toArray, rfl, ?_, .agg _ _ (by simpa using k1)⟩
      have k4 : ∀ (i : Nat) (v : Value), vs[i]? = some v → w.cell? ⟨(gp g off).block, (gp g off).off + i, none⟩ = some v := fun i v e => by
        have := k3 i v e
        unfold gp at this ⊢
        rw [← Nat.add_assoc] at this; exact this
      have k5 := run_loadCells_of (P := P) (k2.trans hl) k4
      have e : (⟨(gp g off).block, (gp g off).off, none⟩ : Addr) = gp g off := rfl
      rw [e] at k5
      simp [loadVar, hagg, hsz, k5]
    | false =>
      simp only at h
      obtain ⟨v, hv, h⟩ := opt_true h
      refine ⟨_, h, fun {ρ nx lo N w u} hI hu => ?_⟩
      cases hu
      obtain ⟨_, r, e1, e2⟩ := hI.glob g off v hv
      refine ⟨_, r, rfl, ?_, e2.mono (fun _ _ e => by cases e)⟩
      simp only [loadVar, Sem.run_bind, hagg, Result.andThen_ok]
      exact run_load_of e1
  · cases h
theorem oneA_sound {ρ : Rho} {a : AV} {v : Value} (h : VR ρ a v) (ho : oneA a = true) : v.oneCell' = true := by
  cases h <;> first | rfl | cases ho
theorem oneAll_sound {ρ : Rho} : ∀ {l : List AV} {vs : List Value}, VRs ρ l vs → oneAll l = true → ∀ v ∈ vs, v.oneCell' = true
  | _, _, .nil, _ => by simp
  | _, _, .cons a v l vs h hs, ho => by
    simp only [oneAll] at ho
    split at ho
    · rename_i h1
      intro u hu
      rcases List.mem_cons.1 hu with rfl | hu
      · exact oneA_sound h h1
      · exact oneAll_sound hs ho u hu
    · cases ho
theorem run_storeCells_blk {P : Program} {b off lo hi : Nat} {e : TypeId} : ∀ (vs : List Value) (i : Nat) (c : Array Value) (w : World), w.heap[b]? = some (.cells c e (lo, hi)) → off + i + vs.length ≤ c.size →
    (∀ j, j < c.size → lo ≤ j → hi ≤ j) → (∀ v ∈ vs, v.oneCell' = true) →
    ∃ w' c', (storeCells ⟨b, off, none⟩ vs i).run P w = .ok () w' ∧ w'.heap[b]? = some (.cells c' e (lo, hi)) ∧ c'.size = c.size ∧
      (∀ j, c'[j]? = if off + i ≤ j ∧ j < off + i + vs.length then vs[j - (off + i)]? else c[j]?) ∧ (∀ k, k ≠ b → w'.heap[k]? = w.heap[k]?) ∧ w'.heap.size = w.heap.size ∧ w'.os = w.os ∧ w'.tape = w.tape ∧ w'.output = w.output
  | [], i, c, w, hb, _, _, _ => ⟨w, c, rfl, hb, rfl, fun j => by rw [if_neg (by simp)], fun _ _ => rfl, rfl, rfl, rfl, rfl⟩
  | v :: vs, i, c, w, hb, hl, hf, h1 => by
    simp only [List.length_cons] at hl
    have hcell : w.cell? ⟨b, off + i, none⟩ = some (c[off + i]'(by omega)) := by rw [cell_of_heap hb]; simp
    have hfz : w.frozen? ⟨b, off + i, none⟩ = false := by
      have := hf (off + i) (by omega)
      simp only [World.frozen?, hb]
      cases hd : decide (lo ≤ off + i) with
      | false => simp
      | true => simp at hd; have := this hd; simp; omega
    have hst := run_store P w (⟨b, off + i, none⟩ : Addr) v .plain (h1 v (by simp))
    rw [hcell] at hst
    simp only [hfz, Bool.false_eq_true, if_false] at hst
    have hb1 : (w.setCell ⟨b, off + i, none⟩ v).heap[b]? = some (.cells (c.setIfInBounds (off + i) v) e (lo, hi)) := by
      simp [World.setCell, Array.getElem?_modify, hb]
    obtain ⟨w', c', r1, r2, r3, r4, r5, r6, r7, r8, r9⟩ := run_storeCells_blk (P := P) (off := off) vs (i + 1) (c.setIfInBounds (off + i) v) (w.setCell ⟨b, off + i, none⟩ v) hb1 (by simp; omega)
      (fun j hj => hf j (by simpa using hj)) (fun u hu => h1 u (by simp [hu]))
    refine ⟨w', c', ?_, r2, by simpa using r3, fun j => ?_, fun k hk => (r5 k hk).trans (Below.heap_setCell _ _ _ _ hk), by simpa using r6, r7, r8, r9⟩
    · simp only [storeCells, add_none, Sem.run_bind, hst, Result.andThen_ok, r1]
    · rw [r4]
      by_cases e0 : j = off + i
      · subst e0
        rw [if_neg (by omega), if_pos (by simp)]
        have : off + i < c.size := by omega
        simp [this]
      · by_cases e1 : off + (i + 1) ≤ j ∧ j < off + (i + 1) + vs.length
        · rw [if_pos e1, if_pos (by simp; omega)]
          rw [show j - (off + i) = (j - (off + (i + 1))) + 1 from by omega, List.getElem?_cons_succ]
        · rw [if_neg e1, if_neg (by simp; omega), Array.getElem?_setIfInBounds_ne (by omega)]
theorem storeCellsK_true {G : Nat → Nat → Option AV} {lo : Nat} {H : Heap} {id off : Nat} {l : List AV} {k : Heap → Bool} (h : storeCellsK lo H id off l k = true) :
    ∃ H', k H' = true ∧ HeapLo lo H H' ∧ ∀ {P ρ nx N w b sz vs}, Inv G ρ H nx lo N w → ρ id = some (b, sz) → VRs ρ l vs →
      ∃ w', (storeCells ⟨b, off, none⟩ vs).run P w = .ok () w' ∧ Inv G ρ H' nx lo N w' ∧ Below N w w' := by
  obtain ⟨hlo, h⟩ := guardB_true h
  have hlo := ble_true hlo
  obtain ⟨o, ho, h⟩ := opt_true h
  split at h
  · rename_i c n e tail
    obtain ⟨hn, h⟩ := guardB_true h
    obtain ⟨h1, h⟩ := guardB_true h
    have hn := ble_true hn
    rw [len_eq] at hn
    obtain ⟨c', hc, h⟩ := setMany_true _ h
    obtain ⟨H', hH, h⟩ := T.setK_true _ _ _ _ _ h
    refine ⟨H', h, fun i hi => by rw [hH, if_neg (by omega)], fun {P ρ nx N w b sz vs} hI hr hvs => ?_⟩
    obtain ⟨b', sz', cs, e', l0, h0, k1, k2, k3, k4, k5, k6, k7, k8⟩ := hI.cells ho
    rw [hr] at k1; simp at k1; obtain ⟨rfl, rfl⟩ := k1
    have hlen := hvs.length
    obtain ⟨w', cs', r1, r2, r3, r4, r5, r6, r7, r8, r9⟩ := run_storeCells_blk (P := P) (off := off) vs 0 cs w k3 (by omega) (fun j hj => k8.2 j (by omega)) (oneAll_sound hvs h1)
    obtain ⟨i1, i2⟩ := hI.set ho hlo hr hH r2 r5 r6 r7 r8 r9 (.cells c' n e e' tail cs' sz l0 h0 (by omega) k5 k6 (fun i a ea => by
      rw [hc] at ea
      rw [r4]
      by_cases hi : off ≤ i ∧ i < off + l.length
      · rw [if_pos hi] at ea
        rw [if_pos (by omega)]
        obtain ⟨v, e1, e2⟩ := hvs.get _ _ ea
        exact ⟨v, by simpa using e1, e2⟩
      · rw [if_neg hi] at ea
        rw [if_neg (by omega)]
        exact k7 i a ea) k8)
    exact ⟨w', r1, i1, i2⟩
  · cases h
end Go.Ev

