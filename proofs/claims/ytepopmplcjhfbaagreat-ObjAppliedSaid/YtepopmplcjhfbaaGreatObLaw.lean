import Derived.Test.YtepopmplcjhfbaaGreatObRg
set_option linter.unusedSectionVars false
set_option linter.unusedVariables false
set_option linter.unusedSimpArgs false
/-
  Stage 3: the walk of the law ObjApplied.
-/
namespace Go.Ev
open Go.RowKit Go.Proofs
theorem clone_any {w : World} {a : Option Addr} {n cap : Nat} {q : Nat → Int} (hn : n ≤ 20000) (h : BytesAt w a n q) (hz : a = none → cap = 0) :
    Calls Tryz.prog 42 #[.slice a n cap] w fun e w' => ∃ a' c', e = .returned (.slice a' n c') ∧ BytesAt w' a' n q ∧ Below w.heap.size w w' := by
  rcases h with ⟨rfl, rfl⟩ | ⟨b, o, rfl, hc⟩
  · obtain rfl := hz rfl
    refine (clone_nil w).mono ?_
    rintro e w' ⟨rfl, rfl⟩
    exact ⟨none, 0, rfl, .inl ⟨rfl, rfl⟩, Below.refl _ _⟩
  · refine (clone_some (by omega) hc).mono ?_
    rintro e w' ⟨g, c', rfl, hg, hO, hb⟩
    exact ⟨_, c', rfl, hO.at, hb⟩
set_option maxRecDepth 100000 in
set_option maxHeartbeats 1000000 in
theorem law_long {a : Option Addr} {n cap : Nat} {off k s add p : Int} (hn : 20000 < n) (w : World) :
    Calls Tryz.prog 12 #[.slice a n cap, .int .i64 off, .int .i64 k, .int .u32 s, .int .i64 add, .int .u32 p] w fun e w' => e = .returned (.bool true) ∧ Below w.heap.size w w' := by
  go_enter Tryz.func12, Tryz.ntmps12
  go_wp2_with fail
  refine (sane_calls _).mono ?_
  rintro e w1 ⟨rfl, hA1⟩
  go_wp2
  go_ret
  exact ⟨rfl, hA1⟩
set_option maxRecDepth 100000 in
set_option maxHeartbeats 1000000 in
theorem law_err {a : Option Addr} {n cap : Nat} {q : Nat → Int} {off k s add p E : Int} {w : World} (hn : n ≤ 20000) (hb : BytesAt w a n q) (hz : a = none → cap = 0) (hE : E ≠ 0)
    (hap : ∀ (a : Option Addr) (cap : Nat) (w : World), Calls Tryz.prog 50 #[.slice a n cap, .int .i64 off, .int .i64 k, .int .u32 s, .int .i64 add, .int .u32 p] w fun e w' => e = .returned (.tuple #[.slice none 0 0, .int .i64 E]) ∧ w' = w)
    (hrp : ∀ (a : Option Addr) (cap : Nat) (w : World), Calls Tryz.prog 51 #[.slice a n cap, .int .i64 off, .int .i64 k, .int .u32 s, .int .i64 add, .int .u32 p] w fun e w' => e = .returned (.tuple #[.slice none 0 0, .int .i64 E]) ∧ w' = w) :
    Calls Tryz.prog 12 #[.slice a n cap, .int .i64 off, .int .i64 k, .int .u32 s, .int .i64 add, .int .u32 p] w fun e w' => e = .returned (.bool true) ∧ Below w.heap.size w w' := by
  go_enter Tryz.func12, Tryz.ntmps12
  go_wp2_with fail
  refine (sane_calls _).mono ?_
  rintro e w1 ⟨rfl, hA1⟩
  obtain ⟨hc1, hf1⟩ := bcell hA1
  go_wp2_with fail
  refine (clone_any hn (hb.below hA1) hz).mono ?_
  rintro e w2 ⟨a', c', rfl, hb2, hB2⟩
  have hA2 := bel_then hA1 (Nat.le_refl _) hB2
  clear hc1 hf1 hB2 hA1
  go_wp2_with fail
  refine (hap _ _ _).mono ?_
  rintro e w3 ⟨rfl, rfl⟩
  go_wp2_with fail
  refine (hrp _ _ _).mono ?_
  rintro e w4 ⟨rfl, rfl⟩
  go_wp2_with fail
  refine (bequal (q := q) (.inl ⟨rfl, rfl⟩) (.inl ⟨rfl, rfl⟩)).mono ?_
  rintro e w5 ⟨rfl, rfl⟩
  go_wp2_with fail
  refine (bequal (hb.below hA2) hb2).mono ?_
  rintro e w6 ⟨rfl, rfl⟩
  go_wp2
  go_ret
  exact ⟨rfl, hA2⟩
end Go.Ev
