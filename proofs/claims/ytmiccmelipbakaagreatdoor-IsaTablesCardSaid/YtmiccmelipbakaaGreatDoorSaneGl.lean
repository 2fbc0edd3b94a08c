import Derived.Test.YtmiccmelipbakaaGreatDoorSaneOc
import Derived.Lib.LaidU8
import Derived.Shelf.Vars
import Derived.Test.YtmiccmelipbakaaGreatDoorRows
set_option linter.unusedSectionVars false
set_option linter.unusedVariables false
set_option linter.unusedSimpArgs false
namespace Go.Ev
open Go.RowKit Go.Proofs
theorem low_of_cell {w : World} {a : Addr} {v : Value} (h : w.cell? a = some v) : a.block < w.heap.size := by
  rcases Nat.lt_or_ge a.block w.heap.size with h' | h'
  · exact h'
  · simp [World.cell?, Array.getElem?_eq_none h'] at h
/-- What a row's own world tells of the globals. -/
theorem globals_of [Unk] {nm : String} (hnm : Tryz.prog.globalNamed nm = some 7) {w : World} (hsh : w.ShapedOpen Tryz.prog) (h7 : Lib.VarReads Tryz.prog w nm YtmiccmelipbakaaGreatDoor.Rows.laid_math_bits_deBruijn64tab) : ∃ m, Globals (G1 m) w := by
  obtain ⟨m, hm⟩ : ∃ m, w.cell? ⟨0, 0, none⟩ = some (.int .i64 m) := cell_of_shapedOpen_int (t := 3) (zero := #[.int .i64 0]) hsh (of_decide_eq_true (by kernel_rfl)) (by kernel_rfl) (by kernel_rfl) (by kernel_rfl) (by kernel_rfl) (by kernel_rfl)
  obtain ⟨g, t, cs, fuel, p, h1, h2, h3, h4⟩ := h7
  obtain rfl := Option.some.inj (hnm.symm.trans h1)
  obtain rfl := Option.some.inj ((show (Tryz.prog.globals[7]?).map (·.type) = some 219 by kernel_rfl).symm.trans h2)
  have hcs := Lib.cells_of_tab (k := .u8) (e := 5) (n := 64) (zs := tab64.map fun n : Nat => (n : Int)) (by kernel_rfl) (by kernel_rfl) (by kernel_rfl) (by kernel_rfl) h4
  have hcell : ∀ i, w.cell? ⟨7, i, none⟩ = cs[i]? := World.var?_cell hnm h3
  refine ⟨m, fun g off a h => ?_⟩
  unfold G1 at h
  split at h
  · rename_i hg
    have hg := beqF hg
    subst hg
    split at h
    · rename_i n hn
      cases h
      rw [nth_eq] at hn
      have hc : w.cell? ⟨7, off, none⟩ = some (.int .u8 (n : Int)) := by
        rw [hcell, ← Array.getElem?_toList, hcs, List.getElem?_map, List.getElem?_map, hn]; rfl
      rw [gp_low (by omega)]
      exact ⟨low_of_cell hc, _, hc, .int _ _⟩
    · cases h
  · split at h
    · rename_i hg
      have hg := beqF hg
      subst hg
      split at h
      · rename_i ho
        have ho := beqF ho
        subst ho
        cases h
        rw [gp_low (by omega)]
        exact ⟨low_of_cell hm, _, hm, .int _ _⟩
      · cases h
    · cases h
end Go.Ev
