import Derived.Test.YtepopmplcjhfbaaGreatObOk
import Derived.LoopTactic
import Derived.Lib.Hide
set_option linter.unusedSectionVars false
set_option linter.unusedVariables false
set_option linter.unusedSimpArgs false
set_option linter.unnecessarySimpa false
/-
  Stage 3: names, in the specification.
-/
namespace Go.Ev
open Go.RowKit Go.Proofs Go.Rw
/-- A Boolean is answered, and nothing changes. -/
def BoolS (w : World) (e : Ending) (w' : World) : Prop := ∃ r : Bool, e = .returned (.bool r) ∧ w' = w
/-- A Boolean is answered, and nothing that was there changes. -/
def BoolR (w : World) (e : Ending) (w' : World) : Prop := ∃ r : Bool, e = .returned (.bool r) ∧ Below w.heap.size w w'
/-- A byte of a name. -/
def okC (k c : Nat) : Prop := (65 ≤ c ∧ c ≤ 90) ∨ (97 ≤ c ∧ c ≤ 122) ∨ c = 95 ∨ c = 46 ∨ (k ≠ 0 ∧ (c = 36 ∨ (48 ≤ c ∧ c ≤ 57)))
def NameOk (s : ByteArray) : Prop := 1 ≤ s.size ∧ s.size ≤ 40 ∧ ∀ k, (h : k < s.size) → okC k (s[k]'h).toNat
noncomputable def nameV (s : ByteArray) : Bool := @decide (NameOk s) (Classical.propDecidable _)
def NmR (s : ByteArray) (w : World) (e : Ending) (w' : World) : Prop := e = .returned (.bool (nameV s)) ∧ w' = w
theorem nm_yes {s : ByteArray} {w : World} (h : NameOk s) : NmR s w (.returned (.bool true)) w := by
  refine ⟨?_, rfl⟩
  unfold nameV
  rw [@decide_eq_true _ (Classical.propDecidable _) h]
theorem nm_no {s : ByteArray} {w : World} (h : ¬ NameOk s) : NmR s w (.returned (.bool false)) w := by
  refine ⟨?_, rfl⟩
  unfold nameV
  rw [@decide_eq_false _ (Classical.propDecidable _) h]
theorem nm_step {s : ByteArray} {k : Nat} (hlt : k < s.size) (h : ∀ j, (h : j < s.size) → j < k → okC j (s[j]'h).toNat) (hk : okC k (s[k]'hlt).toNat) : ∀ j, (h : j < s.size) → j < k + 1 → okC j (s[j]'h).toNat := fun j hj hjk => by
  by_cases e : j < k
  · exact h j hj e
  · obtain rfl : j = k := by omega
    exact hk
set_option maxRecDepth 100000 in
set_option maxHeartbeats 1000000 in
theorem is_name {w : World} (s : ByteArray) (hs : s.size ≤ 140737488351232) : Calls Tryz.prog 218 #[.string s] w (NmR s w) := by
  go_enter Tryz.func218, Tryz.ntmps218
  go_wp2
  all_goals try (go_ret; exact nm_no (fun h => by have := h.1; have := h.2.1; omega))
  have h40 : s.size ≤ 40 := by omega
  have h01 : 1 ≤ s.size := by omega
  go_loop [3] (fun i => ∃ k : Nat, k ≤ s.size ∧ i = .int .i64 k ∧ (∀ j, (h : j < s.size) → j < k → okC j (s[j]'h).toNat)) (fun i => s.size - (intOf i).toNat)
  case atStart => exact ⟨0, by omega, rfl, fun j _ hj => by omega⟩
  case round =>
    obtain ⟨k, hk, rfl, hall⟩ := hrel
    by_cases hlt : k < s.size
    · have hst := nm_step hlt hall
      have hno : ¬ okC k (s[k]'hlt).toNat → ¬ NameOk s := fun h h' => h (h'.2.2 k hlt)
      unfold okC at hno hst
      have e0 := Lib.hid (show k = 0 → (s[0]'(by omega)).toNat = (s[k]'hlt).toNat from by rintro rfl; rfl)
      have hst := Lib.hid hst
      have hno := Lib.hid hno
      clear hall
      go_wp2
      all_goals first
        | (have e0 := e0.out; go_ret; refine nm_no (hno.out ?_); omega)
        | (have e0 := e0.out; exfalso; omega)
        | (rename_i hz; have e0 := e0.out; simp at hz; exfalso; omega)
        | (go_round; (case rel => (refine ⟨k + 1, by omega, by go_num, hst.out ?_⟩; omega)); (case measure => simp [intOf]; omega))
        | (rename _ ∧ _ => hz; simp at hz; have e0 := e0.out; go_ret; refine nm_no (hno.out ?_); omega)
        | (rename_i hz; simp at hz; go_round; (case rel => (refine ⟨k + 1, by omega, by go_num, hst.out ?_⟩; omega)); (case measure => simp [intOf]; omega))
    · go_wp2
      go_ret
      exact nm_yes ⟨h01, h40, fun j hj => hall j hj (by omega)⟩
end Go.Ev
