import Derived.Test.YtecebagkbjimmaaGreatDoorIsaRk
set_option linter.unusedSectionVars false
set_option linter.unusedVariables false
set_option linter.unusedSimpArgs false
namespace Go.Ev
open Go.RowKit Go.Proofs
set_option maxRecDepth 1000000 in
theorem un_46 (m : Int) : uptoB (fun i => unRun m (46 + i)) 4 = true := by kernel_rfl
set_option maxRecDepth 1000000 in
theorem un_50 (m : Int) : uptoB (fun i => unRun m (50 + i)) 4 = true := by kernel_rfl
set_option maxRecDepth 1000000 in
theorem un_54 (m : Int) : uptoB (fun i => unRun m (54 + i)) 4 = true := by kernel_rfl
set_option maxRecDepth 1000000 in
theorem un_58 (m : Int) : uptoB (fun i => unRun m (58 + i)) 3 = true := by kernel_rfl
end Go.Ev

namespace Go.Ev
open Go.RowKit Go.Proofs
set_option maxRecDepth 1000000 in
theorem un_61 (m : Int) : uptoB (fun i => unRun m (61 + i)) 4 = true := by kernel_rfl
set_option maxRecDepth 1000000 in
theorem un_65 (m : Int) : uptoB (fun i => unRun m (65 + i)) 3 = true := by kernel_rfl
set_option maxRecDepth 1000000 in
theorem un_68 (m : Int) : uptoB (fun i => unRun m (68 + i)) 3 = true := by kernel_rfl
set_option maxRecDepth 1000000 in
theorem un_71 (m : Int) : uptoB (fun i => unRun m (71 + i)) 2 = true := by kernel_rfl
end Go.Ev

