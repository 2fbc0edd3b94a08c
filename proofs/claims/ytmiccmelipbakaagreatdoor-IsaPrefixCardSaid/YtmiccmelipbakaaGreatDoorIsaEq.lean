import Derived.Test.YtmiccmelipbakaaGreatDoorIsaCt
import Derived.LoopTactic
import Derived.Deep.QuietTactic
import Derived.BigQuiet
set_option linter.unusedSectionVars false
set_option linter.unusedVariables false
set_option linter.unusedSimpArgs false
/-
  slices.Equal of two slices of the same bytes.
-/
namespace Go.Ev
open Go.RowKit Go.Proofs
theorem below_drewN {B : Nat} {a w : World} (h : Below B a w) (n : Nat) : Below B a (w.drewN n) := ⟨h.os, h.tape, h.output, h.size, h.block⟩
set_option maxRecDepth 100000 in
set_option maxHeartbeats 1000000 in
theorem equal_same {w : World} {ab ao bb bo n c1 c2 : Nat} (xs : Nat → Int) (hn : n ≤ 140737488355328) (h1 : ∀ j, j < n → w.cell? ⟨ab, ao + j, none⟩ = some (.int .u8 (xs j))) (h2 : ∀ j, j < n → w.cell? ⟨bb, bo + j, none⟩ = some (.int .u8 (xs j))) :
    Calls Tryz.prog 20 #[.slice (some ⟨ab, ao, none⟩) n c1, .slice (some ⟨bb, bo, none⟩) n c2] w fun e w' => e = .returned (.bool true) ∧ Below w.heap.size w w' := by
  go_enter Tryz.func20, Tryz.ntmps20
  go_wp2
  go_loopw [13] (fun i wr => ∃ k : Nat, k ≤ n ∧ i = .int .i64 k ∧ Below w.heap.size w wr) (fun i _ => n - (intOf i).toNat)
  case atStart => exact ⟨0, Nat.zero_le _, rfl, Below.refl _ _⟩
  case round =>
    obtain ⟨k, hk, rfl, hbl⟩ := hrel
    by_cases hlt : k < n
    · have e1 : wr.cell? ⟨ab, ao + k, none⟩ = some (.int .u8 (xs k)) := (hbl.cell (low_of_cell (h1 k hlt))).trans (h1 k hlt)
      have e2 : wr.cell? ⟨bb, bo + k, none⟩ = some (.int .u8 (xs k)) := (hbl.cell (low_of_cell (h2 k hlt))).trans (h2 k hlt)
      have hlt' : (k : Int) < (n : Int) := by omega
      have hB := hbl.size
      go_wp2
      go_quiet (fail)
      go_wp2
      go_roundw
      case rel => exact ⟨k + 1, by omega, by go_num, below_drewN hbl _⟩
      case measure => simp [intOf]; omega
    · have : k = n := by omega
      subst this
      go_wp2
      go_ret
      exact ⟨rfl, hbl⟩
end Go.Ev
