import Derived.Test.YtepopmplcjhfbaaGreatObAp
set_option linter.unusedSectionVars false
set_option linter.unusedVariables false
set_option linter.unusedSimpArgs false
/-
  Stage 3: what the specification's Apply answers.
-/
namespace Go.Ev
open Go.RowKit Go.Proofs
def rval (k v p : Int) : Int := if k = 4 then (v % 4294967296 - p) % 4294967296 else if k = 5 then v % 4294967296 / 256 else v % 4294967296
set_option maxRecDepth 100000 in
set_option maxHeartbeats 1000000 in
theorem value_calls {k s add p : Int} (hs0 : 0 ≤ s) (hs1 : s ≤ 4294967295) (ha0 : -2147483648 ≤ add) (ha1 : add ≤ 2147483647) (hp0 : 0 ≤ p) (hp1 : p ≤ 4294967295) (w : World) :
    Calls Tryz.prog 148 #[.int .i64 k, .int .u32 s, .int .i64 add, .int .u32 p] w fun e w' => e = .returned (.tuple #[.int .u32 (rval k (s + add) p), .bool (okR (s + add) k)]) ∧ w' = w := by
  go_enter Tryz.func148, Tryz.ntmps148
  go_wp2
  all_goals go_ret2
  all_goals refine ⟨?_, rfl⟩
  all_goals simp at *
  all_goals simp [rval, okR, *] <;> omega
set_option maxRecDepth 100000 in
set_option maxHeartbeats 1000000 in
theorem rapply_a1 {a : Option Addr} {n cap : Nat} {off k s add p : Int} (hn : n ≤ 20000) (h : k < 1) (w : World) :
    Calls Tryz.prog 51 #[.slice a n cap, .int .i64 off, .int .i64 k, .int .u32 s, .int .i64 add, .int .u32 p] w fun e w' => e = .returned (.tuple #[.slice none 0 0, .int .i64 1]) ∧ w' = w := by
  go_enter Tryz.func51, Tryz.ntmps51
  go_wp2
  go_ret2
  exact ⟨rfl, rfl⟩
set_option maxRecDepth 100000 in
set_option maxHeartbeats 1000000 in
theorem rapply_a2 {a : Option Addr} {n cap : Nat} {off k s add p : Int} (hn : n ≤ 20000) (h1 : 1 ≤ k) (h : 5 < k) (w : World) :
    Calls Tryz.prog 51 #[.slice a n cap, .int .i64 off, .int .i64 k, .int .u32 s, .int .i64 add, .int .u32 p] w fun e w' => e = .returned (.tuple #[.slice none 0 0, .int .i64 1]) ∧ w' = w := by
  go_enter Tryz.func51, Tryz.ntmps51
  go_wp2
  go_ret2
  exact ⟨rfl, rfl⟩
set_option maxRecDepth 100000 in
set_option maxHeartbeats 1000000 in
theorem rapply_a3 {a : Option Addr} {n cap : Nat} {off k s add p : Int} (hn : n ≤ 20000) (h1 : 1 ≤ k) (h5 : k ≤ 5) (h : (decide (-2147483648 ≤ add) && decide (add ≤ 2147483647)) = false) (w : World) :
    Calls Tryz.prog 51 #[.slice a n cap, .int .i64 off, .int .i64 k, .int .u32 s, .int .i64 add, .int .u32 p] w fun e w' => e = .returned (.tuple #[.slice none 0 0, .int .i64 1]) ∧ w' = w := by
  have h2 := is32_calls add
  rw [h] at h2
  clear h
  go_enter Tryz.func51, Tryz.ntmps51
  go_wp2_with fail
  refine (h2 _).mono ?_
  rintro e w2 ⟨rfl, rfl⟩
  go_wp2
  go_ret2
  exact ⟨rfl, rfl⟩
set_option maxRecDepth 100000 in
set_option maxHeartbeats 1000000 in
theorem rapply_a4 {a : Option Addr} {n cap : Nat} {off k s add p : Int} (hn : n ≤ 20000) (h1 : 1 ≤ k) (h5 : k ≤ 5) (h : (decide (-2147483648 ≤ add) && decide (add ≤ 2147483647)) = true) (h6 : off < 0) (w : World) :
    Calls Tryz.prog 51 #[.slice a n cap, .int .i64 off, .int .i64 k, .int .u32 s, .int .i64 add, .int .u32 p] w fun e w' => e = .returned (.tuple #[.slice none 0 0, .int .i64 1]) ∧ w' = w := by
  have h2 := is32_calls add
  rw [h] at h2
  clear h
  go_enter Tryz.func51, Tryz.ntmps51
  go_wp2_with fail
  refine (h2 _).mono ?_
  rintro e w2 ⟨rfl, rfl⟩
  go_wp2
  go_ret2
  exact ⟨rfl, rfl⟩
set_option maxRecDepth 100000 in
set_option maxHeartbeats 1000000 in
theorem rapply_a5 {a : Option Addr} {n cap : Nat} {off k s add p : Int} (hn : n ≤ 20000) (h1 : 1 ≤ k) (h5 : k ≤ 5) (h : (decide (-2147483648 ≤ add) && decide (add ≤ 2147483647)) = true) (h6 : 0 ≤ off) (h7 : n < off) (w : World) :
    Calls Tryz.prog 51 #[.slice a n cap, .int .i64 off, .int .i64 k, .int .u32 s, .int .i64 add, .int .u32 p] w fun e w' => e = .returned (.tuple #[.slice none 0 0, .int .i64 1]) ∧ w' = w := by
  have h2 := is32_calls add
  rw [h] at h2
  clear h
  go_enter Tryz.func51, Tryz.ntmps51
  go_wp2_with fail
  refine (h2 _).mono ?_
  rintro e w2 ⟨rfl, rfl⟩
  go_wp2
  go_ret2
  exact ⟨rfl, rfl⟩
set_option maxRecDepth 100000 in
set_option maxHeartbeats 1000000 in
theorem rapply_a6 {a : Option Addr} {n cap : Nat} {off k s add p : Int} (hn : n ≤ 20000) (h1 : 1 ≤ k) (h5 : k ≤ 5) (h : (decide (-2147483648 ≤ add) && decide (add ≤ 2147483647)) = true) (h6 : 0 ≤ off) (h7 : off ≤ n) (h8 : n < off + wd k) (w : World) :
    Calls Tryz.prog 51 #[.slice a n cap, .int .i64 off, .int .i64 k, .int .u32 s, .int .i64 add, .int .u32 p] w fun e w' => e = .returned (.tuple #[.slice none 0 0, .int .i64 1]) ∧ w' = w := by
  have h2 := is32_calls add
  rw [h] at h2
  clear h
  have h3 := width_calls k
  have hw := wd_le k
  go_enter Tryz.func51, Tryz.ntmps51
  go_wp2_with fail
  refine (h2 _).mono ?_
  rintro e w2 ⟨rfl, rfl⟩
  go_wp2_with fail
  refine (h3 _).mono ?_
  rintro e w3 ⟨rfl, rfl⟩
  go_wp2
  go_ret2
  exact ⟨rfl, rfl⟩
theorem rapply_no {a : Option Addr} {n cap : Nat} {off k s add p : Int} (hn : n ≤ 20000) (h : okA n off k add = false) (w : World) :
    Calls Tryz.prog 51 #[.slice a n cap, .int .i64 off, .int .i64 k, .int .u32 s, .int .i64 add, .int .u32 p] w fun e w' => e = .returned (.tuple #[.slice none 0 0, .int .i64 1]) ∧ w' = w := by
  unfold okA kdB adB fdB at h
  by_cases h1 : k < 1
  · exact rapply_a1 hn h1 w
  by_cases h2 : 5 < k
  · exact rapply_a2 hn (by omega) h2 w
  cases h3 : (decide (-2147483648 ≤ add) && decide (add ≤ 2147483647)) with
  | false => exact rapply_a3 hn (by omega) (by omega) h3 w
  | true =>
    by_cases h4 : off < 0
    · exact rapply_a4 hn (by omega) (by omega) h3 h4 w
    by_cases h5 : n < off
    · exact rapply_a5 hn (by omega) (by omega) h3 (by omega) h5 w
    refine rapply_a6 hn (by omega) (by omega) h3 (by omega) (by omega) ?_ w
    rw [h3] at h
    simp at h
    omega
end Go.Ev
