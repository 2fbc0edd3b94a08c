import Derived.Test.YtecebagkbjimmaaGreatDoorIsaRk
set_option linter.unusedSectionVars false
set_option linter.unusedVariables false
set_option linter.unusedSimpArgs false
namespace Go.Ev
open Go.RowKit Go.Proofs
set_option maxRecDepth 1000000 in
theorem un_0 (m : Int) : uptoB (fun i => unRun m (0 + i)) 16 = true := by kernel_rfl
set_option maxRecDepth 1000000 in
theorem un_16 (m : Int) : uptoB (fun i => unRun m (16 + i)) 12 = true := by kernel_rfl
set_option maxRecDepth 1000000 in
theorem un_28 (m : Int) : uptoB (fun i => unRun m (28 + i)) 10 = true := by kernel_rfl
set_option maxRecDepth 1000000 in
theorem un_38 (m : Int) : uptoB (fun i => unRun m (38 + i)) 8 = true := by kernel_rfl
end Go.Ev

namespace Go.Ev
open Go.RowKit Go.Proofs
set_option maxRecDepth 1000000 in
theorem rk_61 (m : Int) : uptoB (fun i => rkRun m (61 + i)) 4 = true := by kernel_rfl
set_option maxRecDepth 1000000 in
theorem rk_65 (m : Int) : uptoB (fun i => rkRun m (65 + i)) 3 = true := by kernel_rfl
set_option maxRecDepth 1000000 in
theorem rk_68 (m : Int) : uptoB (fun i => rkRun m (68 + i)) 3 = true := by kernel_rfl
set_option maxRecDepth 1000000 in
theorem rk_71 (m : Int) : uptoB (fun i => rkRun m (71 + i)) 2 = true := by kernel_rfl
end Go.Ev

