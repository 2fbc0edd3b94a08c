import Derived.Test.YtecebagkbjimmaaGreatDoorIsaRkAE
import Derived.Test.YtecebagkbjimmaaGreatDoorIsaRkBF
import Derived.Test.YtecebagkbjimmaaGreatDoorIsaRkCG
import Derived.Test.YtecebagkbjimmaaGreatDoorIsaRkDH
import Derived.Test.YtecebagkbjimmaaGreatDoorIsaRkAE
import Derived.Test.YtecebagkbjimmaaGreatDoorIsaRkBF
import Derived.Test.YtecebagkbjimmaaGreatDoorIsaRkCG
import Derived.Test.YtecebagkbjimmaaGreatDoorIsaRkDH
set_option linter.unusedSectionVars false
set_option linter.unusedVariables false
set_option linter.unusedSimpArgs false
namespace Go.Ev
open Go.RowKit Go.Proofs
theorem rank_all (m : Int) {op : Nat} (h : op < 73) : rkRun m op = true := by
  have e : ∀ {lo n : Nat}, uptoB (fun i => rkRun m (lo + i)) n = true → lo ≤ op → op < lo + n → rkRun m op = true := fun {lo n} h h1 h2 => by
    have := @uptoB_true (Unk.mk (nthI [])) _ _ h (op - lo) (by omega)
    rwa [show lo + (op - lo) = op by omega] at this
  by_cases h1 : op < 16
  · exact e (rk_0 m) (by omega) (by omega)
  by_cases h2 : op < 28
  · exact e (rk_16 m) (by omega) (by omega)
  by_cases h3 : op < 38
  · exact e (rk_28 m) (by omega) (by omega)
  by_cases h4 : op < 46
  · exact e (rk_38 m) (by omega) (by omega)
  by_cases h5 : op < 50
  · exact e (rk_46 m) (by omega) (by omega)
  by_cases h6 : op < 54
  · exact e (rk_50 m) (by omega) (by omega)
  by_cases h7 : op < 58
  · exact e (rk_54 m) (by omega) (by omega)
  by_cases h8 : op < 61
  · exact e (rk_58 m) (by omega) (by omega)
  by_cases h9 : op < 65
  · exact e (rk_61 m) (by omega) (by omega)
  by_cases h10 : op < 68
  · exact e (rk_65 m) (by omega) (by omega)
  by_cases h11 : op < 71
  · exact e (rk_68 m) (by omega) (by omega)
  · exact e (rk_71 m) (by omega) (by omega)
theorem unrank_all (m : Int) {op : Nat} (h : op < 73) : unRun m op = true := by
  have e : ∀ {lo n : Nat}, uptoB (fun i => unRun m (lo + i)) n = true → lo ≤ op → op < lo + n → unRun m op = true := fun {lo n} h h1 h2 => by
    have := @uptoB_true (Unk.mk (nthI [])) _ _ h (op - lo) (by omega)
    rwa [show lo + (op - lo) = op by omega] at this
  by_cases h1 : op < 16
  · exact e (un_0 m) (by omega) (by omega)
  by_cases h2 : op < 28
  · exact e (un_16 m) (by omega) (by omega)
  by_cases h3 : op < 38
  · exact e (un_28 m) (by omega) (by omega)
  by_cases h4 : op < 46
  · exact e (un_38 m) (by omega) (by omega)
  by_cases h5 : op < 50
  · exact e (un_46 m) (by omega) (by omega)
  by_cases h6 : op < 54
  · exact e (un_50 m) (by omega) (by omega)
  by_cases h7 : op < 58
  · exact e (un_54 m) (by omega) (by omega)
  by_cases h8 : op < 61
  · exact e (un_58 m) (by omega) (by omega)
  by_cases h9 : op < 65
  · exact e (un_61 m) (by omega) (by omega)
  by_cases h10 : op < 68
  · exact e (un_65 m) (by omega) (by omega)
  by_cases h11 : op < 71
  · exact e (un_68 m) (by omega) (by omega)
  · exact e (un_71 m) (by omega) (by omega)
theorem rrank_all (m : Int) {op : Nat} (h : op < 73) : rqRun m op = true := by
  have e : ∀ {lo n : Nat}, uptoB (fun i => rqRun m (lo + i)) n = true → lo ≤ op → op < lo + n → rqRun m op = true := fun {lo n} h h1 h2 => by
    have := @uptoB_true (Unk.mk (nthI [])) _ _ h (op - lo) (by omega)
    rwa [show lo + (op - lo) = op by omega] at this
  by_cases h1 : op < 30
  · exact e (rq_0 m) (by omega) (by omega)
  by_cases h2 : op < 50
  · exact e (rq_30 m) (by omega) (by omega)
  · exact e (rq_50 m) (by omega) (by omega)
theorem runrank_all (m : Int) {op : Nat} (h : op < 73) : uqRun m op = true := by
  have e : ∀ {lo n : Nat}, uptoB (fun i => uqRun m (lo + i)) n = true → lo ≤ op → op < lo + n → uqRun m op = true := fun {lo n} h h1 h2 => by
    have := @uptoB_true (Unk.mk (nthI [])) _ _ h (op - lo) (by omega)
    rwa [show lo + (op - lo) = op by omega] at this
  by_cases h1 : op < 30
  · exact e (uq_0 m) (by omega) (by omega)
  by_cases h2 : op < 50
  · exact e (uq_30 m) (by omega) (by omega)
  · exact e (uq_50 m) (by omega) (by omega)
end Go.Ev
