import Derived.Test.YtecebagkbjimmaaGreatDoorIsaRk
set_option linter.unusedSectionVars false
set_option linter.unusedVariables false
set_option linter.unusedSimpArgs false
/-
  The law IsaUses: by runs at each operation, the fields unknown.
-/
namespace Go.Ev
open Go.RowKit Go.Proofs
def orcUs (op : Nat) (f : Nat) : Option Orc := match Nat.beq f 15 with
  | true => some (.given [([], .bool true)])
  | false => match Nat.beq f 18 with
    | true => some (.given [([opArg op (rt op)], .int .i64 (.ofNat 0))])
    | false => match Nat.beq f 56 with
      | true => some (.given [([opArg op (rt op)], .bool true)])
      | false => none
def invU : List (Int × Int) := xb .inv
def orcUn (f : Nat) : Option Orc := match Nat.beq f 15 with
  | true => some (.given [([], .bool true)])
  | false => match Nat.beq f 18 with
    | true => some (.given [([xa 0 .inv invU], .int .i64 (xret .inv))])
    | false => match Nat.beq f 56 with
      | true => some (.given [([xa 0 .inv invU], .bool false)])
      | false => none
noncomputable def usRun (m : Int) (op : Nat) : Bool := match opN op with
  | false => true
  | true => evalA Tryz.prog (G1 m) (orcUs op) 1000000 6 [opArg op (rt op)] isTrue
set_option maxRecDepth 1000000 in
theorem us_no (m : Int) : evalA Tryz.prog (G1 m) orcUn 1000000 6 [xa 0 .inv invU] isTrue = true := by kernel_rfl
end Go.Ev

namespace Go.Ev
open Go.RowKit Go.Proofs
set_option maxRecDepth 1000000 in
theorem us_0 (m : Int) : uptoB (fun i => usRun m (0 + i)) 10 = true := by kernel_rfl
end Go.Ev

namespace Go.Ev
open Go.RowKit Go.Proofs
set_option maxRecDepth 1000000 in
theorem us_10 (m : Int) : uptoB (fun i => usRun m (10 + i)) 10 = true := by kernel_rfl
end Go.Ev

namespace Go.Ev
open Go.RowKit Go.Proofs
set_option maxRecDepth 1000000 in
theorem us_20 (m : Int) : uptoB (fun i => usRun m (20 + i)) 9 = true := by kernel_rfl
end Go.Ev

namespace Go.Ev
open Go.RowKit Go.Proofs
set_option maxRecDepth 1000000 in
theorem us_29 (m : Int) : uptoB (fun i => usRun m (29 + i)) 9 = true := by kernel_rfl
end Go.Ev

namespace Go.Ev
open Go.RowKit Go.Proofs
set_option maxRecDepth 1000000 in
theorem us_38 (m : Int) : uptoB (fun i => usRun m (38 + i)) 9 = true := by kernel_rfl
end Go.Ev

namespace Go.Ev
open Go.RowKit Go.Proofs
set_option maxRecDepth 1000000 in
theorem us_47 (m : Int) : uptoB (fun i => usRun m (47 + i)) 9 = true := by kernel_rfl
end Go.Ev

namespace Go.Ev
open Go.RowKit Go.Proofs
set_option maxRecDepth 1000000 in
theorem us_56 (m : Int) : uptoB (fun i => usRun m (56 + i)) 9 = true := by kernel_rfl
end Go.Ev

namespace Go.Ev
open Go.RowKit Go.Proofs
set_option maxRecDepth 1000000 in
theorem us_65 (m : Int) : uptoB (fun i => usRun m (65 + i)) 8 = true := by kernel_rfl
end Go.Ev

