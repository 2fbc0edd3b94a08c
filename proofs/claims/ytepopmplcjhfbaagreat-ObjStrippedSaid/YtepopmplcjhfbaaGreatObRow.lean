import Derived.Deep.Slices
import Derived.SizedLaws
import Derived.Below
import Derived.WalkKit
import Derived.ProofKit
import Derived.OpenShut
import Derived.Carry
set_option linter.unusedSectionVars false
set_option linter.unusedVariables false
set_option linter.unusedSimpArgs false
set_option linter.unnecessarySimpa false
/-
  Slices of records in memory, as arguments: whatever the record.
-/
namespace Go.Rw
open Go.ChangeShapes Go.WideShapes Go.ChangeAt Go.RowKit Go.Deep
theorem low_of {w : World} {a : Addr} {v : Value} (h : w.cell? a = some v) : a.block < w.heap.size := by
  rcases Nat.lt_or_ge a.block w.heap.size with h' | h'
  · exact h'
  · simp [World.cell?, Array.getElem?_eq_none h'] at h
theorem add_at (b o j : Nat) : (⟨b, o, none⟩ : Addr).add j = ⟨b, o + j, none⟩ := by
  unfold Addr.add
  by_cases h : j = 0
  · subst h; rfl
  · rw [if_neg h]
/-- A slice whose elements lie as these records. -/
def RowsAt {α : Type} (W : World) (s : Value) (f : α → List Value) (size : Nat) (l : List α) : Prop :=
  ∃ a c, s = .slice a l.length c ∧ (l = [] ∨ ∃ b o, a = some ⟨b, o, none⟩ ∧ ∀ (k : Nat) (x : α), l[k]? = some x → ∀ (j : Nat) (u : Value), (f x)[j]? = some u → W.cell? ⟨b, o + k * size + j, none⟩ = some u)
theorem RowsAt.below {α : Type} {W W' : World} {s : Value} {f : α → List Value} {size : Nat} {l : List α} (h : RowsAt W s f size l) (hb : Below W.heap.size W W') : RowsAt W' s f size l := by
  obtain ⟨a, c, rfl, h1⟩ := h
  refine ⟨a, c, rfl, ?_⟩
  rcases h1 with h1 | ⟨b, o, rfl, h4⟩
  · exact .inl h1
  · exact .inr ⟨b, o, rfl, fun k x hk j u hj => (hb.cell (low_of (h4 k x hk j u hj))).trans (h4 k x hk j u hj)⟩
theorem weights_all {H : Type} {P : Program} {e : TypeId} : ∀ {l : List (DataW H)} {d : DataW H}, d ∈ l → ∀ k ∈ d.weights P e, k ∈ DataW.weightsAll P e l
  | [], _, h, _, _ => by cases h
  | x :: l, d, h, k, hk => by
    unfold DataW.weightsAll
    rcases List.mem_cons.1 h with rfl | h
    · exact List.mem_append_left _ hk
    · exact List.mem_append_right _ (weights_all h k hk)
theorem weights_field {H : Type} {P : Program} {t : TypeId} {fs : Array Field} (ht : P.underlying t = some (.struct fs)) {parts : List (DataW H)} {i : Nat} {f : Field} {d : DataW H} (hf : fs[i]? = some f) (hd : parts[i]? = some d) : ∀ k ∈ d.weights P f.type, k ∈ (DataW.agg parts).weights P t := by
  intro k hk
  unfold DataW.weights
  rw [ht]
  exact DataW.weights_mem_each (j := i) (t := f.type) (by simp only [List.getElem?_map, Array.getElem?_toList, hf]; rfl) hd k hk
/-- A slice of records as it is read. -/
theorem open_rows {H : Type} {enc : TypeId × Value → H} {P : Program} {W : World} {t e : TypeId} {size : Nat} (ht : P.underlying t = some (.slice e)) (hc : P.cellsOf e = size) (hs : 0 < size) {α : Type} [Inhabited α] (f : α → List Value) (R : α → Prop) {fuel : Nat} {v : Value} {x : DataW H × List MemPlace}
    (h : DataW.trod enc P W 0 (fun _ => true) true fuel t [v] = some x) (hw : ∀ k ∈ x.1.weights P t, k ≤ reachBytes)
    (each : ∀ (n : Nat) (cs : List Value) (y : DataW H × List MemPlace), cs.length = size → DataW.trod enc P W 0 (fun _ => true) true n e cs = some y → (∀ k ∈ y.1.weights P e, k ≤ reachBytes) → ∃ x, cs = f x ∧ R x) :
    ∃ l : List α, RowsAt W v f size l ∧ (∀ x ∈ l, R x) ∧ l.length * P.bytesOf e ≤ reachBytes := by
  rcases open_slice ht h with ⟨hcs, _⟩ | ⟨a, len, cap, m, n, D, Pl, hcs, _, hl, hm, hmm, rfl, hx⟩
  · obtain rfl : v = .slice none 0 0 := by simpa using hcs
    exact ⟨[], ⟨none, 0, rfl, .inl rfl⟩, fun x hx => by simp at hx, by simp⟩
  · obtain rfl : v = .slice (some a) len cap := by simpa using hcs
    simp only [if_true] at hmm
    subst hmm
    rw [hc] at hx
    have hw0 := hw
    simp only [DataW.weights, ht] at hw0
    have hbytes := hw0 _ (List.mem_cons_self ..)
    simp only [List.length_map, List.length_range] at hbytes
    by_cases h0 : len = 0
    · subst h0
      exact ⟨[], ⟨_, _, rfl, .inl rfl⟩, fun x hx => by simp at hx, by simp⟩
    · have hsp : a.spot = none := by
        obtain ⟨cs', h1, _⟩ := hx 0 (by omega)
        obtain ⟨_, hlen, hcell⟩ := World.cells?_some h1
        have := hcell 0 hs
        rw [Nat.zero_mul, List.getElem?_eq_getElem (by omega)] at this
        have e : (a.add 0).add 0 = a := by unfold Addr.add; simp
        rw [e] at this
        cases hsp : a.spot with
        | none => rfl
        | some p =>
          unfold World.cell? at this
          split at this
          · rw [hsp] at this; cases this
          · cases this
      obtain ⟨blk, off, spot⟩ := a
      dsimp only at hsp
      subst hsp
      have eachi : ∀ i, i < len → ∃ x : α, R x ∧ ∀ (j : Nat) (u : Value), (f x)[j]? = some u → W.cell? ⟨blk, off + (i * size + j), none⟩ = some u := by
        intro i hi
        obtain ⟨cs', h1, h2⟩ := hx i (by omega)
        obtain ⟨_, hlen, hcell⟩ := World.cells?_some h1
        obtain ⟨x, rfl, hr⟩ := each _ _ _ hlen h2 (fun k hk => by
          exact hw0 k (List.mem_cons_of_mem _ (List.mem_append_left _ (weights_all (List.mem_map.2 ⟨i, List.mem_range.2 hi, rfl⟩) k hk))))
        refine ⟨x, hr, fun j u hj => ?_⟩
        have hj7 : j < size := by have := (List.getElem?_eq_some_iff.1 hj).1; omega
        have := hcell j hj7
        rw [add_at, add_at, Nat.add_assoc] at this
        rw [this]; exact hj
      obtain ⟨X, hX⟩ := choose_lt eachi
      refine ⟨(List.range len).map X, ⟨_, _, by rw [List.length_map, List.length_range], .inr ⟨blk, off, rfl, fun k x hk j u hj => ?_⟩⟩, fun x hx => ?_, by rw [List.length_map, List.length_range]; exact Nat.le_trans (Nat.mul_le_mul_right _ (by omega)) hbytes⟩
      · have hkl : k < len := by have := (List.getElem?_eq_some_iff.1 hk).1; simpa using this
        simp [hkl] at hk
        subst hk
        rw [Nat.add_assoc]
        exact (hX k hkl).2 j u hj
      · obtain ⟨k, hk, rfl⟩ := List.mem_map.1 hx
        exact (hX k (List.mem_range.1 hk)).1
end Go.Rw
