import Derived.Test.YtepopmplcjhfbaaGreatObCa
set_option linter.unusedSectionVars false
set_option linter.unusedVariables false
set_option linter.unusedSimpArgs false
set_option linter.unnecessarySimpa false
/-
  Stage 3: the cells of an object's slices; files, in the specification: 'some Boolean'.
-/
namespace Go.Ev
open Go.RowKit Go.Proofs Go.Rw
theorem below_drewN {B : Nat} {w w' : World} (h : Below B w w') (n : Nat) : Below B w (w'.drewN n) := ⟨h.os, h.tape, h.output, h.size, h.block⟩
section
variable {W : World} {b o c n k : Nat}
theorem rows_file {l : List ByteArray} (h : RowsAt W (.slice (some ⟨b, o, none⟩) n c) fileCells 1 l) {x : ByteArray} (hk : l[k]? = some x) : W.cell? ⟨b, o + k, none⟩ = some (.string x) := by
  have := rows_at h hk (j := 0) (u := .string x) rfl
  simpa using this
theorem rows_sec {l : List SecT} (h : RowsAt W (.slice (some ⟨b, o, none⟩) n c) SecT.cells 5 l) {x : SecT} (hk : l[k]? = some x) :
    W.cell? ⟨b, o + k * 5, none⟩ = some (.string x.name) ∧ W.cell? ⟨b, o + k * 5 + 1, none⟩ = some (.int .i64 x.rights) ∧ W.cell? ⟨b, o + k * 5 + 2, none⟩ = some (.int .i64 x.align) ∧ W.cell? ⟨b, o + k * 5 + 3, none⟩ = some (.slice x.ba x.bn x.bc) ∧ W.cell? ⟨b, o + k * 5 + 4, none⟩ = some (.int .i64 x.zero) :=
  ⟨rows_at h hk (j := 0) rfl, rows_at h hk (j := 1) rfl, rows_at h hk (j := 2) rfl, rows_at h hk (j := 3) rfl, rows_at h hk (j := 4) rfl⟩
theorem rows_sym {l : List SymT} (h : RowsAt W (.slice (some ⟨b, o, none⟩) n c) SymT.cells 6 l) {x : SymT} (hk : l[k]? = some x) :
    W.cell? ⟨b, o + k * 6, none⟩ = some (.string x.name) ∧ W.cell? ⟨b, o + k * 6 + 1, none⟩ = some (.int .i64 x.sec) ∧ W.cell? ⟨b, o + k * 6 + 2, none⟩ = some (.int .u32 x.val) ∧ W.cell? ⟨b, o + k * 6 + 3, none⟩ = some (.int .i64 x.size) ∧ W.cell? ⟨b, o + k * 6 + 4, none⟩ = some (.int .i64 x.bind) ∧ W.cell? ⟨b, o + k * 6 + 5, none⟩ = some (.int .i64 x.kind) :=
  ⟨rows_at h hk (j := 0) rfl, rows_at h hk (j := 1) rfl, rows_at h hk (j := 2) rfl, rows_at h hk (j := 3) rfl, rows_at h hk (j := 4) rfl, rows_at h hk (j := 5) rfl⟩
theorem rows_rel {l : List RelT} (h : RowsAt W (.slice (some ⟨b, o, none⟩) n c) RelT.cells 5 l) {x : RelT} (hk : l[k]? = some x) :
    W.cell? ⟨b, o + k * 5, none⟩ = some (.int .i64 x.sec) ∧ W.cell? ⟨b, o + k * 5 + 1, none⟩ = some (.int .i64 x.off) ∧ W.cell? ⟨b, o + k * 5 + 2, none⟩ = some (.int .i64 x.kind) ∧ W.cell? ⟨b, o + k * 5 + 3, none⟩ = some (.int .i64 x.sym) ∧ W.cell? ⟨b, o + k * 5 + 4, none⟩ = some (.int .i64 x.add) :=
  ⟨rows_at h hk (j := 0) rfl, rows_at h hk (j := 1) rfl, rows_at h hk (j := 2) rfl, rows_at h hk (j := 3) rfl, rows_at h hk (j := 4) rfl⟩
theorem rows_line {l : List LineT} (h : RowsAt W (.slice (some ⟨b, o, none⟩) n c) LineT.cells 4 l) {x : LineT} (hk : l[k]? = some x) :
    W.cell? ⟨b, o + k * 4, none⟩ = some (.int .i64 x.sec) ∧ W.cell? ⟨b, o + k * 4 + 1, none⟩ = some (.int .i64 x.off) ∧ W.cell? ⟨b, o + k * 4 + 2, none⟩ = some (.int .i64 x.file) ∧ W.cell? ⟨b, o + k * 4 + 3, none⟩ = some (.int .i64 x.line) :=
  ⟨rows_at h hk (j := 0) rfl, rows_at h hk (j := 1) rfl, rows_at h hk (j := 2) rfl, rows_at h hk (j := 3) rfl⟩
end
theorem rows_slice {α : Type} {W : World} {s : Value} {f : α → List Value} {size : Nat} {l : List α} (h : RowsAt W s f size l) : ∃ a c, s = .slice a l.length c := by
  obtain ⟨a', c', rfl, _⟩ := h
  exact ⟨a', c', rfl⟩
theorem rows_some2 {α : Type} {W : World} {a : Option Addr} {n c : Nat} {f : α → List Value} {size : Nat} {l : List α} (h : RowsAt W (.slice a n c) f size l) {k : Nat} (hk : k < l.length) : ∃ b o, a = some ⟨b, o, none⟩ := by
  obtain ⟨b, o, c', e⟩ := rows_some h hk
  cases e
  exact ⟨b, o, rfl⟩
set_option maxRecDepth 100000 in
set_option maxHeartbeats 1000000 in
theorem is_file {w : World} (s : ByteArray) (hs : s.size ≤ 140737488351232) : Calls Tryz.prog 220 #[.string s] w (BoolS w) := by
  go_enter Tryz.func220, Tryz.ntmps220
  go_wp2
  go_loop [3] (fun i => ∃ k : Nat, k ≤ s.size ∧ i = .int .i64 k) (fun i => s.size - (intOf i).toNat)
  case atStart => exact ⟨0, by omega, rfl⟩
  case round =>
    obtain ⟨k, hk, rfl⟩ := hrel
    by_cases hlt : k < s.size
    · go_wp2
      all_goals first | (go_ret; exact ⟨_, rfl, rfl⟩) | (go_round; (case rel => exact ⟨k + 1, by omega, by go_num⟩); (case measure => simp [intOf]; omega)) | skip
    · go_wp2
      all_goals first | (go_ret; exact ⟨_, rfl, rfl⟩) | skip
set_option maxRecDepth 100000 in
set_option maxHeartbeats 1000000 in
theorem files_b {w : World} {s : Value} {l : List ByteArray} (h : RowsAt w s fileCells 1 l) (hr : ∀ x ∈ l, fileR x) (hl : l.length ≤ 140737488351232) : Calls Tryz.prog 138 #[s] w (BoolR w) := by
  obtain ⟨a, c, rfl⟩ := rows_slice h
  go_enter Tryz.func138, Tryz.ntmps138
  go_wp2
  all_goals try (go_ret; exact ⟨_, rfl, Below.refl _ _⟩)
  go_loopw [3] (fun i wr => ∃ k : Nat, k ≤ l.length ∧ i = .int .i64 k ∧ Below w.heap.size w wr) (fun i _ => l.length - (intOf i).toNat)
  case atStart => exact ⟨0, by omega, rfl, Below.refl _ _⟩
  case round =>
    obtain ⟨k, hk, rfl, hbl⟩ := hrel
    by_cases hlt : k < l.length
    · obtain ⟨b, o, rfl⟩ := rows_some2 h hlt
      obtain ⟨x, hx⟩ : ∃ x, l[k]? = some x := ⟨l[k], by simp [hlt]⟩
      have g := rows_file (h.below hbl) hx
      have hxr := hr x (List.mem_of_getElem? hx)
      go_wp2_with fail
      refine (is_file x hxr).mono ?_
      rintro e w1 ⟨r, rfl, rfl⟩
      have hb2 := hbl
      clear hbl g
      cases r
      · go_wp2
        go_ret
        exact ⟨_, rfl, hb2⟩
      · go_wp2
        obtain ⟨wo, rfl⟩ : ∃ wo : World, wo = w1 := ⟨_, rfl⟩
        go_loopw [4] (fun i wr => ∃ j : Nat, j ≤ k ∧ i = .int .i64 j ∧ Below w.heap.size w wr) (fun i _ => k - (intOf i).toNat)
        case atStart => exact ⟨0, by omega, rfl, hb2⟩
        case round =>
          obtain ⟨j, hj, rfl, hbl⟩ := hrel
          by_cases hjk : j < k
          · obtain ⟨y, hy⟩ : ∃ y, l[j]? = some y := ⟨l[j], by simp [Nat.lt_trans hjk hlt]⟩
            have g1 := rows_file (h.below hbl) hx
            have g2 := rows_file (h.below hbl) hy
            have hj' : (j : Int) < (l.length : Int) := by omega
            have hk' : (k : Int) < (l.length : Int) := by omega
            go_wp2
            go_quiet (fail)
            go_wp2
            · go_ret
              exact ⟨_, rfl, below_drewN hbl _⟩
            · go_roundw
              case rel => exact ⟨j + 1, by omega, by go_num, below_drewN hbl _⟩
              case measure => simp [intOf]; omega
          · go_wp2
            go_roundw
            case rel => exact ⟨k + 1, by omega, by go_num, hbl⟩
            case measure => simp [intOf]; omega
    · go_wp2
      go_ret
      exact ⟨_, rfl, hbl⟩
end Go.Ev
