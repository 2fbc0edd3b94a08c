import Derived.Test.YtepopmplcjhfbaaGreatObGok
import Derived.LoopTactic
import Derived.Lib.Hide
import Derived.BigQuiet
import Derived.IntWalk
import Derived.Deep.RegionHeld3
set_option linter.unusedSectionVars false
set_option linter.unusedVariables false
set_option linter.unusedSimpArgs false
set_option linter.unnecessarySimpa false
/-
  Stage 3: names, in the specification.
-/
namespace Go.Ev
open Go.RowKit Go.Proofs Go.Rw
/-- A Boolean is answered, and nothing changes. -/
def BoolS (w : World) (e : Ending) (w' : World) : Prop := ∃ r : Bool, e = .returned (.bool r) ∧ w' = w
/-- A Boolean is answered, and nothing that was there changes. -/
def BoolR (w : World) (e : Ending) (w' : World) : Prop := ∃ r : Bool, e = .returned (.bool r) ∧ Below w.heap.size w w'
/-- A byte of a name. -/
def okC (k c : Nat) : Prop := (65 ≤ c ∧ c ≤ 90) ∨ (97 ≤ c ∧ c ≤ 122) ∨ c = 95 ∨ c = 46 ∨ (k ≠ 0 ∧ (c = 36 ∨ (48 ≤ c ∧ c ≤ 57)))
def NameOk (s : ByteArray) : Prop := 1 ≤ s.size ∧ s.size ≤ 40 ∧ ∀ k, (h : k < s.size) → okC k (s[k]'h).toNat
noncomputable def nameV (s : ByteArray) : Bool := @decide (NameOk s) (Classical.propDecidable _)
def NmR (s : ByteArray) (w : World) (e : Ending) (w' : World) : Prop := e = .returned (.bool (nameV s)) ∧ w' = w
theorem nm_yes {s : ByteArray} {w : World} (h : NameOk s) : NmR s w (.returned (.bool true)) w := by
  refine ⟨?_, rfl⟩
  unfold nameV
  rw [@decide_eq_true _ (Classical.propDecidable _) h]
theorem nm_no {s : ByteArray} {w : World} (h : ¬ NameOk s) : NmR s w (.returned (.bool false)) w := by
  refine ⟨?_, rfl⟩
  unfold nameV
  rw [@decide_eq_false _ (Classical.propDecidable _) h]
theorem nm_step {s : ByteArray} {k : Nat} (hlt : k < s.size) (h : ∀ j, (h : j < s.size) → j < k → okC j (s[j]'h).toNat) (hk : okC k (s[k]'hlt).toNat) : ∀ j, (h : j < s.size) → j < k + 1 → okC j (s[j]'h).toNat := fun j hj hjk => by
  by_cases e : j < k
  · exact h j hj e
  · obtain rfl : j = k := by omega
    exact hk
set_option maxRecDepth 100000 in
set_option maxHeartbeats 1000000 in
theorem is_name {w : World} (s : ByteArray) (hs : s.size ≤ 140737488351232) : Calls Tryz.prog 218 #[.string s] w (NmR s w) := by
  go_enter Tryz.func218, Tryz.ntmps218
  go_wp2
  all_goals try (go_ret; exact nm_no (fun h => by have := h.1; have := h.2.1; omega))
  have h40 : s.size ≤ 40 := by omega
  have h01 : 1 ≤ s.size := by omega
  go_loop [3] (fun i => ∃ k : Nat, k ≤ s.size ∧ i = .int .i64 k ∧ (∀ j, (h : j < s.size) → j < k → okC j (s[j]'h).toNat)) (fun i => s.size - (intOf i).toNat)
  case atStart => exact ⟨0, by omega, rfl, fun j _ hj => by omega⟩
  case round =>
    obtain ⟨k, hk, rfl, hall⟩ := hrel
    by_cases hlt : k < s.size
    · have hst := nm_step hlt hall
      have hno : ¬ okC k (s[k]'hlt).toNat → ¬ NameOk s := fun h h' => h (h'.2.2 k hlt)
      unfold okC at hno hst
      have e0 := Lib.hid (show k = 0 → (s[0]'(by omega)).toNat = (s[k]'hlt).toNat from by rintro rfl; rfl)
      have hst := Lib.hid hst
      have hno := Lib.hid hno
      clear hall
      go_wp2
      all_goals first
        | (have e0 := e0.out; go_ret; refine nm_no (hno.out ?_); omega)
        | (have e0 := e0.out; exfalso; omega)
        | (rename_i hz; have e0 := e0.out; simp at hz; exfalso; omega)
        | (go_round; (case rel => (refine ⟨k + 1, by omega, by go_num, hst.out ?_⟩; omega)); (case measure => simp [intOf]; omega))
        | (rename _ ∧ _ => hz; simp at hz; have e0 := e0.out; go_ret; refine nm_no (hno.out ?_); omega)
        | (rename_i hz; simp at hz; go_round; (case rel => (refine ⟨k + 1, by omega, by go_num, hst.out ?_⟩; omega)); (case measure => simp [intOf]; omega))
    · go_wp2
      go_ret
      exact nm_yes ⟨h01, h40, fun j hj => hall j hj (by omega)⟩
end Go.Ev

/-
  Stage 3: the cells of an object's slices; files, in the specification: 'some Boolean'.
-/
namespace Go.Ev
open Go.RowKit Go.Proofs Go.Rw
theorem below_drewN {B : Nat} {w w' : World} (h : Below B w w') (n : Nat) : Below B w (w'.drewN n) := ⟨h.os, h.tape, h.output, h.size, h.block⟩
section
variable {W : World} {b o c n k : Nat}
theorem rows_file {l : List ByteArray} (h : RowsAt W (.slice (some ⟨b, o, none⟩) n c) fileCells 1 l) {x : ByteArray} (hk : l[k]? = some x) : W.cell? ⟨b, o + k, none⟩ = some (.string x) := by
  have := rows_at h hk (j := 0) (u := .string x) rfl
  simpa using this
theorem rows_sec {l : List SecT} (h : RowsAt W (.slice (some ⟨b, o, none⟩) n c) SecT.cells 5 l) {x : SecT} (hk : l[k]? = some x) :
    W.cell? ⟨b, o + k * 5, none⟩ = some (.string x.name) ∧ W.cell? ⟨b, o + k * 5 + 1, none⟩ = some (.int .i64 x.rights) ∧ W.cell? ⟨b, o + k * 5 + 2, none⟩ = some (.int .i64 x.align) ∧ W.cell? ⟨b, o + k * 5 + 3, none⟩ = some (.slice x.ba x.bn x.bc) ∧ W.cell? ⟨b, o + k * 5 + 4, none⟩ = some (.int .i64 x.zero) :=
  ⟨rows_at h hk (j := 0) rfl, rows_at h hk (j := 1) rfl, rows_at h hk (j := 2) rfl, rows_at h hk (j := 3) rfl, rows_at h hk (j := 4) rfl⟩
theorem rows_sym {l : List SymT} (h : RowsAt W (.slice (some ⟨b, o, none⟩) n c) SymT.cells 6 l) {x : SymT} (hk : l[k]? = some x) :
    W.cell? ⟨b, o + k * 6, none⟩ = some (.string x.name) ∧ W.cell? ⟨b, o + k * 6 + 1, none⟩ = some (.int .i64 x.sec) ∧ W.cell? ⟨b, o + k * 6 + 2, none⟩ = some (.int .u32 x.val) ∧ W.cell? ⟨b, o + k * 6 + 3, none⟩ = some (.int .i64 x.size) ∧ W.cell? ⟨b, o + k * 6 + 4, none⟩ = some (.int .i64 x.bind) ∧ W.cell? ⟨b, o + k * 6 + 5, none⟩ = some (.int .i64 x.kind) :=
  ⟨rows_at h hk (j := 0) rfl, rows_at h hk (j := 1) rfl, rows_at h hk (j := 2) rfl, rows_at h hk (j := 3) rfl, rows_at h hk (j := 4) rfl, rows_at h hk (j := 5) rfl⟩
theorem rows_rel {l : List RelT} (h : RowsAt W (.slice (some ⟨b, o, none⟩) n c) RelT.cells 5 l) {x : RelT} (hk : l[k]? = some x) :
    W.cell? ⟨b, o + k * 5, none⟩ = some (.int .i64 x.sec) ∧ W.cell? ⟨b, o + k * 5 + 1, none⟩ = some (.int .i64 x.off) ∧ W.cell? ⟨b, o + k * 5 + 2, none⟩ = some (.int .i64 x.kind) ∧ W.cell? ⟨b, o + k * 5 + 3, none⟩ = some (.int .i64 x.sym) ∧ W.cell? ⟨b, o + k * 5 + 4, none⟩ = some (.int .i64 x.add) :=
  ⟨rows_at h hk (j := 0) rfl, rows_at h hk (j := 1) rfl, rows_at h hk (j := 2) rfl, rows_at h hk (j := 3) rfl, rows_at h hk (j := 4) rfl⟩
theorem rows_line {l : List LineT} (h : RowsAt W (.slice (some ⟨b, o, none⟩) n c) LineT.cells 4 l) {x : LineT} (hk : l[k]? = some x) :
    W.cell? ⟨b, o + k * 4, none⟩ = some (.int .i64 x.sec) ∧ W.cell? ⟨b, o + k * 4 + 1, none⟩ = some (.int .i64 x.off) ∧ W.cell? ⟨b, o + k * 4 + 2, none⟩ = some (.int .i64 x.file) ∧ W.cell? ⟨b, o + k * 4 + 3, none⟩ = some (.int .i64 x.line) :=
  ⟨rows_at h hk (j := 0) rfl, rows_at h hk (j := 1) rfl, rows_at h hk (j := 2) rfl, rows_at h hk (j := 3) rfl⟩
end
theorem rows_slice {α : Type} {W : World} {s : Value} {f : α → List Value} {size : Nat} {l : List α} (h : RowsAt W s f size l) : ∃ a c, s = .slice a l.length c := by
  obtain ⟨a', c', rfl, _⟩ := h
  exact ⟨a', c', rfl⟩
theorem rows_some2 {α : Type} {W : World} {a : Option Addr} {n c : Nat} {f : α → List Value} {size : Nat} {l : List α} (h : RowsAt W (.slice a n c) f size l) {k : Nat} (hk : k < l.length) : ∃ b o, a = some ⟨b, o, none⟩ := by
  obtain ⟨b, o, c', e⟩ := rows_some h hk
  cases e
  exact ⟨b, o, rfl⟩
set_option maxRecDepth 100000 in
set_option maxHeartbeats 1000000 in
theorem is_file {w : World} (s : ByteArray) (hs : s.size ≤ 140737488351232) : Calls Tryz.prog 220 #[.string s] w (BoolS w) := by
  go_enter Tryz.func220, Tryz.ntmps220
  go_wp2
  go_loop [3] (fun i => ∃ k : Nat, k ≤ s.size ∧ i = .int .i64 k) (fun i => s.size - (intOf i).toNat)
  case atStart => exact ⟨0, by omega, rfl⟩
  case round =>
    obtain ⟨k, hk, rfl⟩ := hrel
    by_cases hlt : k < s.size
    · go_wp2
      all_goals first | (go_ret; exact ⟨_, rfl, rfl⟩) | (go_round; (case rel => exact ⟨k + 1, by omega, by go_num⟩); (case measure => simp [intOf]; omega)) | skip
    · go_wp2
      all_goals first | (go_ret; exact ⟨_, rfl, rfl⟩) | skip
set_option maxRecDepth 100000 in
set_option maxHeartbeats 1000000 in
theorem files_b {w : World} {s : Value} {l : List ByteArray} (h : RowsAt w s fileCells 1 l) (hr : ∀ x ∈ l, fileR x) (hl : l.length ≤ 140737488351232) : Calls Tryz.prog 138 #[s] w (BoolR w) := by
  obtain ⟨a, c, rfl⟩ := rows_slice h
  go_enter Tryz.func138, Tryz.ntmps138
  go_wp2
  all_goals try (go_ret; exact ⟨_, rfl, Below.refl _ _⟩)
  go_loopw [3] (fun i wr => ∃ k : Nat, k ≤ l.length ∧ i = .int .i64 k ∧ Below w.heap.size w wr) (fun i _ => l.length - (intOf i).toNat)
  case atStart => exact ⟨0, by omega, rfl, Below.refl _ _⟩
  case round =>
    obtain ⟨k, hk, rfl, hbl⟩ := hrel
    by_cases hlt : k < l.length
    · obtain ⟨b, o, rfl⟩ := rows_some2 h hlt
      obtain ⟨x, hx⟩ : ∃ x, l[k]? = some x := ⟨l[k], by simp [hlt]⟩
      have g := rows_file (h.below hbl) hx
      have hxr := hr x (List.mem_of_getElem? hx)
      go_wp2_with fail
      refine (is_file x hxr).mono ?_
      rintro e w1 ⟨r, rfl, rfl⟩
      have hb2 := hbl
      clear hbl g
      cases r
      · go_wp2
        go_ret
        exact ⟨_, rfl, hb2⟩
      · go_wp2
        obtain ⟨wo, rfl⟩ : ∃ wo : World, wo = w1 := ⟨_, rfl⟩
        go_loopw [4] (fun i wr => ∃ j : Nat, j ≤ k ∧ i = .int .i64 j ∧ Below w.heap.size w wr) (fun i _ => k - (intOf i).toNat)
        case atStart => exact ⟨0, by omega, rfl, hb2⟩
        case round =>
          obtain ⟨j, hj, rfl, hbl⟩ := hrel
          by_cases hjk : j < k
          · obtain ⟨y, hy⟩ : ∃ y, l[j]? = some y := ⟨l[j], by simp [Nat.lt_trans hjk hlt]⟩
            have g1 := rows_file (h.below hbl) hx
            have g2 := rows_file (h.below hbl) hy
            have hj' : (j : Int) < (l.length : Int) := by omega
            have hk' : (k : Int) < (l.length : Int) := by omega
            go_wp2
            go_quiet (fail)
            go_wp2
            · go_ret
              exact ⟨_, rfl, below_drewN hbl _⟩
            · go_roundw
              case rel => exact ⟨j + 1, by omega, by go_num, below_drewN hbl _⟩
              case measure => simp [intOf]; omega
          · go_wp2
            go_roundw
            case rel => exact ⟨k + 1, by omega, by go_num, hbl⟩
            case measure => simp [intOf]; omega
    · go_wp2
      go_ret
      exact ⟨_, rfl, hbl⟩
end Go.Ev

/-
  Stage 3: the specification's Len, Width, is32, one symbol, the symbols.
-/
namespace Go.Ev
open Go.RowKit Go.Proofs Go.Rw
/-- A section as a value. -/
def SecT.v (s : SecT) : Value := .agg #[.string s.name, .int .i64 s.rights, .int .i64 s.align, .slice s.ba s.bn s.bc, .int .i64 s.zero]
def SymT.v (s : SymT) : Value := .agg #[.string s.name, .int .i64 s.sec, .int .u32 s.val, .int .i64 s.size, .int .i64 s.bind, .int .i64 s.kind]
theorem new_cell (w : World) (l : Array Value) (t : TypeId) (i : Nat) (v : Value) (h : l[i]? = some v) : (w.alloc (.cells l t)).cell? ⟨w.heap.size, i, none⟩ = some v := by
  rw [World.cell?_alloc_new]; exact h
set_option maxRecDepth 100000 in
theorem len_c {w : World} (s : SecT) (h : s.R) : Calls Tryz.prog 46 #[s.v] w fun e w' => e = .returned (.int .i64 (wrap64 ((s.bn : Int) + s.zero))) ∧ Below w.heap.size w w' := by
  obtain ⟨nm, ri, al, ba, bn, bc, ze⟩ := s
  obtain ⟨h1, h2, h3, h4, h5⟩ := h
  dsimp only [SecT.v] at *
  go_enter Tryz.func46, Tryz.ntmps46
  go_wp2
  go_ret
  exact ⟨rfl, (Below.refl _ _).alloc (Nat.le_refl _) _⟩
theorem len_in (s : SecT) (h : s.R) (h0 : 0 ≤ s.zero) (h1 : s.zero ≤ 65536) : wrap64 ((s.bn : Int) + s.zero) = (s.bn : Int) + s.zero := by
  have := h.2.2.1
  unfold wrap64; omega
theorem wrap64_ok (n : Int) : inI64 (wrap64 n) := inI64_wf (wrap64_wf n)
/-- How many bytes a relocation of this kind takes. -/
def widthV (z : Int) : Int := if z = 3 then 1 else if z = 2 then 2 else 4
theorem width_c {w : World} (z : Int) : Calls Tryz.prog 52 #[.int .i64 z] w fun e w' => e = .returned (.int .i64 (widthV z)) ∧ w' = w := by
  unfold widthV
  by_cases h3 : z = 3
  · subst h3
    go_enter Tryz.func52, Tryz.ntmps52
    go_wp2
    go_ret
    exact ⟨rfl, rfl⟩
  · rw [if_neg h3]
    by_cases h2 : z = 2
    · subst h2
      go_enter Tryz.func52, Tryz.ntmps52
      go_wp2
      go_ret
      exact ⟨rfl, rfl⟩
    · rw [if_neg h2]
      go_enter Tryz.func52, Tryz.ntmps52
      go_wp2
      go_ret
      exact ⟨rfl, rfl⟩
theorem is32_c {w : World} (z : Int) : Calls Tryz.prog 147 #[.int .i64 z] w (BoolS w) := by
  go_enter Tryz.func147, Tryz.ntmps147
  go_wp2
  all_goals (go_ret; exact ⟨_, rfl, rfl⟩)
end Go.Ev

