import Derived.Test.YtepopmplcjhfbaaGreatObCb
import Derived.BigQuiet
import Derived.Lib.Hide
import Derived.IntWalk
import Derived.Deep.RegionHeld3
set_option linter.unusedSectionVars false
set_option linter.unusedVariables false
set_option linter.unusedSimpArgs false
set_option linter.unnecessarySimpa false
/-
  Stage 3: the specification's Len, Width, is32, one symbol, the symbols.
-/
namespace Go.Ev
open Go.RowKit Go.Proofs Go.Rw
/-- A section as a value. -/
def SecT.v (s : SecT) : Value := .agg #[.string s.name, .int .i64 s.rights, .int .i64 s.align, .slice s.ba s.bn s.bc, .int .i64 s.zero]
def SymT.v (s : SymT) : Value := .agg #[.string s.name, .int .i64 s.sec, .int .u32 s.val, .int .i64 s.size, .int .i64 s.bind, .int .i64 s.kind]
theorem new_cell (w : World) (l : Array Value) (t : TypeId) (i : Nat) (v : Value) (h : l[i]? = some v) : (w.alloc (.cells l t)).cell? ⟨w.heap.size, i, none⟩ = some v := by
  rw [World.cell?_alloc_new]; exact h
set_option maxRecDepth 100000 in
theorem len_c {w : World} (s : SecT) (h : s.R) : Calls Tryz.prog 46 #[s.v] w fun e w' => e = .returned (.int .i64 (wrap64 ((s.bn : Int) + s.zero))) ∧ Below w.heap.size w w' := by
  obtain ⟨nm, ri, al, ba, bn, bc, ze⟩ := s
  obtain ⟨h1, h2, h3, h4, h5⟩ := h
  dsimp only [SecT.v] at *
  go_enter Tryz.func46, Tryz.ntmps46
  go_wp2
  go_ret
  exact ⟨rfl, (Below.refl _ _).alloc (Nat.le_refl _) _⟩
theorem len_in (s : SecT) (h : s.R) (h0 : 0 ≤ s.zero) (h1 : s.zero ≤ 65536) : wrap64 ((s.bn : Int) + s.zero) = (s.bn : Int) + s.zero := by
  have := h.2.2.1
  unfold wrap64; omega
theorem wrap64_ok (n : Int) : inI64 (wrap64 n) := inI64_wf (wrap64_wf n)
/-- How many bytes a relocation of this kind takes. -/
def widthV (z : Int) : Int := if z = 3 then 1 else if z = 2 then 2 else 4
theorem width_c {w : World} (z : Int) : Calls Tryz.prog 52 #[.int .i64 z] w fun e w' => e = .returned (.int .i64 (widthV z)) ∧ w' = w := by
  unfold widthV
  by_cases h3 : z = 3
  · subst h3
    go_enter Tryz.func52, Tryz.ntmps52
    go_wp2
    go_ret
    exact ⟨rfl, rfl⟩
  · rw [if_neg h3]
    by_cases h2 : z = 2
    · subst h2
      go_enter Tryz.func52, Tryz.ntmps52
      go_wp2
      go_ret
      exact ⟨rfl, rfl⟩
    · rw [if_neg h2]
      go_enter Tryz.func52, Tryz.ntmps52
      go_wp2
      go_ret
      exact ⟨rfl, rfl⟩
theorem is32_c {w : World} (z : Int) : Calls Tryz.prog 147 #[.int .i64 z] w (BoolS w) := by
  go_enter Tryz.func147, Tryz.ntmps147
  go_wp2
  all_goals (go_ret; exact ⟨_, rfl, rfl⟩)
end Go.Ev
