import Derived.Test.YtepopmplcjhfbaaGreatObL1
import Derived.Test.YtepopmplcjhfbaaGreatObL2
import Derived.Test.YtepopmplcjhfbaaGreatObL3
import Derived.Test.YtepopmplcjhfbaaGreatObL4
import Derived.Test.YtepopmplcjhfbaaGreatObL5
set_option linter.unusedSectionVars false
set_option linter.unusedVariables false
set_option linter.unusedSimpArgs false
/-
  Stage 3: the law ObjApplied, at whatever came in.
-/
namespace Go.Ev
open Go.RowKit Go.Proofs
theorem applied_calls {W : World} {a : Option Addr} {n cap : Nat} {q : Nat → Int} {off k s add p : Int} (hb : BytesAt W a n q) (hle : n ≤ cap) (hcap : cap ≤ 140737488351232) (hz : a = none → cap = 0)
    (hs0 : 0 ≤ s) (hs1 : s ≤ 4294967295) (hp0 : 0 ≤ p) (hp1 : p ≤ 4294967295) :
    Calls Tryz.prog 12 #[.slice a n cap, .int .i64 off, .int .i64 k, .int .u32 s, .int .i64 add, .int .u32 p] W fun e w' => e = .returned (.bool true) ∧ Below W.heap.size W w' := by
  by_cases hn : 20000 < n
  · exact law_long hn W
  have hn : n ≤ 20000 := by omega
  cases hA : okA n off k add with
  | false => exact law_err (E := 1) hn hb hz (by decide) (fun a cap w => apply_no hn hA w) (fun a cap w => rapply_no hn hA w)
  | true =>
    have hA' := hA
    simp only [okA, kdB, adB, fdB, Bool.and_eq_true, decide_eq_true_eq] at hA'
    obtain ⟨⟨⟨hk1, hk5⟩, ha0, ha1⟩, ho, hf⟩ := hA'
    cases hR : okR (s + add) k with
    | false => exact law_err (E := 32) hn hb hz (by decide) (fun a cap w => apply_rng hn hA hR hs0 hs1 w) (fun a cap w => rapply_rng hn hk1 hk5 ha0 ha1 ho hf hR hs0 hs1 hp0 hp1 w)
    | true =>
      have hw := wd_pos k
      obtain ⟨o', rfl⟩ := Int.eq_ofNat_of_zero_le ho
      rcases hb with ⟨_, rfl⟩ | ⟨b, o, rfl, hc⟩
      · omega
      have h5 : k = 1 ∨ k = 2 ∨ k = 3 ∨ k = 4 ∨ k = 5 := by omega
      rcases h5 with rfl | rfl | rfl | rfl | rfl
      · have e : wd 1 = 4 := by decide
        exact law_k1 hn hle hcap ha0 ha1 (by omega) hR hs0 hs1 hp0 hp1 hc
      · have e : wd 2 = 2 := by decide
        exact law_k2 hn hle hcap ha0 ha1 (by omega) hR hs0 hs1 hp0 hp1 hc
      · have e : wd 3 = 1 := by decide
        exact law_k3 hn hle hcap ha0 ha1 (by omega) hR hs0 hs1 hp0 hp1 hc
      · have e : wd 4 = 4 := by decide
        exact law_k4 hn hle hcap ha0 ha1 (by omega) hR hs0 hs1 hp0 hp1 hc
      · have e : wd 5 = 4 := by decide
        exact law_k5 hn hle hcap ha0 ha1 (by omega) hR hs0 hs1 hp0 hp1 hc
end Go.Ev
