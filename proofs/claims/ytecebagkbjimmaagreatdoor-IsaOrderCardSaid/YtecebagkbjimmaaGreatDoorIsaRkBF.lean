import Derived.Test.YtecebagkbjimmaaGreatDoorIsaRk
set_option linter.unusedSectionVars false
set_option linter.unusedVariables false
set_option linter.unusedSimpArgs false
namespace Go.Ev
open Go.RowKit Go.Proofs
set_option maxRecDepth 1000000 in
theorem rk_46 (m : Int) : uptoB (fun i => rkRun m (46 + i)) 4 = true := by kernel_rfl
set_option maxRecDepth 1000000 in
theorem rk_50 (m : Int) : uptoB (fun i => rkRun m (50 + i)) 4 = true := by kernel_rfl
set_option maxRecDepth 1000000 in
theorem rk_54 (m : Int) : uptoB (fun i => rkRun m (54 + i)) 4 = true := by kernel_rfl
set_option maxRecDepth 1000000 in
theorem rk_58 (m : Int) : uptoB (fun i => rkRun m (58 + i)) 3 = true := by kernel_rfl
end Go.Ev

namespace Go.Ev
open Go.RowKit Go.Proofs
set_option maxRecDepth 1000000 in
theorem uq_0 (m : Int) : uptoB (fun i => uqRun m (0 + i)) 30 = true := by kernel_rfl
set_option maxRecDepth 1000000 in
theorem uq_30 (m : Int) : uptoB (fun i => uqRun m (30 + i)) 20 = true := by kernel_rfl
set_option maxRecDepth 1000000 in
theorem uq_50 (m : Int) : uptoB (fun i => uqRun m (50 + i)) 23 = true := by kernel_rfl
end Go.Ev

