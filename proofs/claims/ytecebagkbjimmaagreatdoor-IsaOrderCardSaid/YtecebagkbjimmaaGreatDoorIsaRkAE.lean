import Derived.Test.YtecebagkbjimmaaGreatDoorIsaRk
set_option linter.unusedSectionVars false
set_option linter.unusedVariables false
set_option linter.unusedSimpArgs false
namespace Go.Ev
open Go.RowKit Go.Proofs
set_option maxRecDepth 1000000 in
theorem rk_0 (m : Int) : uptoB (fun i => rkRun m (0 + i)) 16 = true := by kernel_rfl
set_option maxRecDepth 1000000 in
theorem rk_16 (m : Int) : uptoB (fun i => rkRun m (16 + i)) 12 = true := by kernel_rfl
set_option maxRecDepth 1000000 in
theorem rk_28 (m : Int) : uptoB (fun i => rkRun m (28 + i)) 10 = true := by kernel_rfl
set_option maxRecDepth 1000000 in
theorem rk_38 (m : Int) : uptoB (fun i => rkRun m (38 + i)) 8 = true := by kernel_rfl
end Go.Ev

namespace Go.Ev
open Go.RowKit Go.Proofs
set_option maxRecDepth 1000000 in
theorem rq_0 (m : Int) : uptoB (fun i => rqRun m (0 + i)) 30 = true := by kernel_rfl
set_option maxRecDepth 1000000 in
theorem rq_30 (m : Int) : uptoB (fun i => rqRun m (30 + i)) 20 = true := by kernel_rfl
set_option maxRecDepth 1000000 in
theorem rq_50 (m : Int) : uptoB (fun i => rqRun m (50 + i)) 23 = true := by kernel_rfl
end Go.Ev

