import Derived.Test.YtmiccmelipbakaaGreatDoorIsaDeM
import Derived.WalkKit
import Derived.Outline
import Derived.LoopN
import Derived.Lib.Hide
import Derived.Lib.AppendZeros
import Derived.Laws.AppendOwnNone
set_option linter.unusedSectionVars false
set_option linter.unusedVariables false
set_option linter.unusedSimpArgs false
/-
  slices.Concat of two slices of bytes, of which the first has an element.
-/
namespace Go.Ev
open Go.RowKit Go.Proofs
theorem info5 : (Tryz.prog.info? 5).map (fun i => (i.zero, i.size, i.bytes)) = some (some (.int .u8 0), 1, 1) := by kernel_rfl
/-- What a new row that Grow has made holds. -/
def mk0 (w : World) (n : Nat) : Array Value := Builtin.zeroCells #[Value.int .u8 0] n ++ Builtin.zeroCells #[Value.int .u8 0] (grownCap w n 0 5 - n)
set_option maxRecDepth 100000 in
theorem grow_nil (n : Nat) (z : Int) (hz : z = n) (h0 : 0 < n) (h48 : n ≤ 140737488355328) (w : World) :
    Calls Tryz.prog 93 #[.slice none 0 0, .int .i64 z] w fun e w' => e = .returned (.slice (some ⟨w.heap.size, 0, none⟩) 0 (grownCap w n 0 5)) ∧
      w' = (w.alloc (.cells (mk0 w n) 5)).drew := by
  subst hz
  obtain ⟨i0, hi, hz0, hz1, hz2⟩ := info_parts info5
  have hrun := fun (w : World) (ty : TypeId) => Lib.run_append_nil_zeros (P := Tryz.prog) w 25 3 ty 5 i0 (.int .u8 0) .i64 .i64 Tryz.underlying25 Tryz.underlying3 hi hz0 n h0 (by omega) (by omega) (by rw [hz2]; omega)
  go_enter Tryz.func93, Tryz.ntmps93
  go_wp2_with (at_builtin; refine Lib.wpList_append_run _ rfl _ _ _ _ rfl _ _ rfl rfl _ _ (hrun _ _) ?_)
  go_ret
  exact ⟨rfl, rfl⟩
theorem zeros_size (n : Nat) : (Builtin.zeroCells #[Value.int .u8 0] n).size = n := by simp [Builtin.zeroCells]
theorem own_made (w : World) (n : Nat) (hn : n ≤ 140737488355328) :
    (w.alloc (.cells (mk0 w n) 5)).drew.ownsRow w.heap.size 5 1 (.slice (some ⟨w.heap.size, 0, none⟩) 0 (grownCap w n 0 5)) 0 [] := by
  have h1 := grownCap_ge w n 0 5
  have h2 := grownCap_le_maxLen w n 0 5 (by unfold maxLen; omega)
  have h3 : (mk0 w n).size = grownCap w n 0 5 * 1 := by
    unfold mk0
    rw [Array.size_append, zeros_size, zeros_size]
    omega
  exact (World.ownsRow_made w (mk0 w n) _ (Nat.le_refl _) h2 h3).drew
theorem cell_add (b o j : Nat) : (⟨b, o, none⟩ : Addr).add j = ⟨b, o + j, none⟩ := by
  unfold Addr.add
  by_cases h : j = 0
  · subst h; rfl
  · rw [if_neg h]
/-- What Concat answers. -/
def CtR (xs : List Value) (w : World) (e : Ending) (w' : World) : Prop := ∃ g cap : Nat, e = .returned (.slice (some ⟨g, 0, none⟩) xs.length cap) ∧ xs.length ≤ cap ∧ cap ≤ maxLen ∧ (∀ j v, xs[j]? = some v → w'.cell? ⟨g, j, none⟩ = some v) ∧ Below w.heap.size w w'
theorem ct_end {w w2 : World} {v : Value} {n : Nat} {xs : List Value} (hown : w2.ownsRow w.heap.size 5 1 v n xs) (hpos : 0 < n) (hbl : Below w.heap.size w w2) : CtR xs w (.returned v) w2 := by
  obtain ⟨hl, ⟨_, h0⟩ | ⟨g, cap, cur, rfl, _, hh, hc, hm, hs, ht⟩⟩ := hown
  · omega
  · rw [Nat.mul_one] at hl ht
    refine ⟨g, cap, by rw [hl], by omega, hm, fun j v hj => ?_, hbl⟩
    have hj' : cur[j]? = some v := by
      rw [← ht, List.getElem?_take] at hj
      split at hj
      · simpa using hj
      · cases hj
    simp [World.cell?, hh, hj']
set_option maxRecDepth 100000 in
set_option maxHeartbeats 1000000 in
theorem concat_calls {w : World} {B cb co n1 c1 rb ro n2 c2 : Nat} {us1 us2 : List Value} (h0 : w.cell? ⟨B, 0, none⟩ = some (.slice (some ⟨cb, co, none⟩) n1 c1)) (h1 : w.cell? ⟨B, 1, none⟩ = some (.slice (some ⟨rb, ro, none⟩) n2 c2))
    (hl1 : us1.length = n1) (hl2 : us2.length = n2) (hn1 : 0 < n1) (hb : n1 + n2 ≤ 140737488355328)
    (hu1 : ∀ j u, us1[j]? = some u → w.cell? ((⟨cb, co, none⟩ : Addr).add j) = some u) (hu2 : ∀ j u, us2[j]? = some u → w.cell? ((⟨rb, ro, none⟩ : Addr).add j) = some u)
    (ho1 : ∀ u ∈ us1, u.oneCell' = true) (ho2 : ∀ u ∈ us2, u.oneCell' = true) :
    Calls Tryz.prog 45 #[.slice (some ⟨B, 0, none⟩) 2 2] w (CtR (us1 ++ us2) w) := by
  obtain ⟨i0, hi, hz0, hz1, hz2⟩ := info_parts info5
  have hB : B < w.heap.size := low_of_cell h0
  go_enter Tryz.func45, Tryz.ntmps45
  go_wp2
  refine wp_loop_rounds 3 ?_
  rw [rounds_succ]
  go_wp2
  rw [rounds_succ]
  go_wp2
  rw [rounds_succ]
  go_wp2_with (go_at_call 93; refine (grow_nil (n1 + n2) _ (by omega) (by omega) (by omega) _).mono ?_; rintro e w' ⟨rfl, rfl⟩)
  have hown0 := own_made w (n1 + n2) (by omega)
  have hbl0 : Below w.heap.size w (w.alloc (.cells (mk0 w (n1 + n2)) 5)).drew := ((Below.refl _ _).alloc (Nat.le_refl _) _).drew
  have hc0 : (w.alloc (.cells (mk0 w (n1 + n2)) 5)).drew.cell? ⟨B, 0, none⟩ = some (.slice (some ⟨cb, co, none⟩) n1 c1) := (hbl0.cell (p := ⟨B, 0, none⟩) hB).trans h0
  have hv1 : ∀ j u, us1[j]? = some u → (w.alloc (.cells (mk0 w (n1 + n2)) 5)).drew.cell? ((⟨cb, co, none⟩ : Addr).add j) = some u := fun j u hj => (hbl0.cell (low_of_cell (hu1 j u hj))).trans (hu1 j u hj)
  have hv2 : ∀ j u, us2[j]? = some u → (w.alloc (.cells (mk0 w (n1 + n2)) 5)).drew.cell? ((⟨rb, ro, none⟩ : Addr).add j) = some u := fun j u hj => (hbl0.cell (low_of_cell (hu2 j u hj))).trans (hu2 j u hj)
  have hc1 : (w.alloc (.cells (mk0 w (n1 + n2)) 5)).drew.cell? ⟨B, 1, none⟩ = some (.slice (some ⟨rb, ro, none⟩) n2 c2) := (hbl0.cell (p := ⟨B, 1, none⟩) hB).trans h1
  have hz : w.heap.size ≤ (w.alloc (.cells (mk0 w (n1 + n2)) 5)).drew.heap.size := hbl0.size
  generalize (w.alloc (.cells (mk0 w (n1 + n2)) 5)).drew = W1 at *
  clear h0 h1 hu1
  refine wp_loop_rounds 3 ?_
  rw [rounds_succ]
  go_wp2_with (at_builtin; refine wpList_append_own _ rfl _ _ 25 rfl w.heap.size 5 i0 (.int .u8 0) 1 1 Tryz.underlying25 hi hz0 hz1 hz2 rfl (by decide) _ _ _ rfl hown0 ⟨cb, co, none⟩ n1 c1 us1 rfl (by omega) hv1 ho1 (by unfold maxLen; omega) (by omega) hz ?_)
  intro v1 w1 hown1 hg1 _
  have hlt2 : ∀ j u, us2[j]? = some u → rb < w.heap.size := fun j u hj => by have := low_of_cell (hu2 j u hj); rw [cell_add] at this; exact this
  have hw1 : ∀ j u, us2[j]? = some u → w1.cell? ((⟨rb, ro, none⟩ : Addr).add j) = some u := fun j u hj => hg1.cell (hv2 j u hj) (by have := hlt2 j u hj; rw [cell_add]; simp [Value.ownBlock]; omega)
  have hc1' : w1.cell? ⟨B, 1, none⟩ = some (.slice (some ⟨rb, ro, none⟩) n2 c2) := hg1.cell hc1 (by simp [Value.ownBlock]; omega)
  have hbl1 : Below w.heap.size w w1 := hbl0.grown hg1 hz (fun k hk => by simp [Value.ownBlock] at hk; omega)
  have hz1' := hbl1.size
  clear hbl0 hc0 hv1 hu2 hown0 hc1 hz hv2 hg1 hlt2
  go_wp2
  rw [rounds_succ]
  go_wp2_with (at_builtin; refine wpList_append_own _ rfl _ _ 25 rfl w.heap.size 5 i0 (.int .u8 0) 1 1 Tryz.underlying25 hi hz0 hz1 hz2 rfl (by decide) _ _ _ rfl hown1 ⟨rb, ro, none⟩ n2 c2 us2 rfl (by omega) hw1 ho2 (by unfold maxLen; omega) (by omega) hz1' ?_)
  intro v2 w2 hown2 hg2 hnil
  have hbl2 : Below w.heap.size w w2 := hbl1.grown hg2 hz1' (fun k hk => (hown1.lt k hk).1)
  clear hbl1 hw1 hc1' hz1' hg2
  go_wp2
  rw [rounds_succ]
  go_wp2
  go_ret
  exact ct_end hown2 (by omega) hbl2
set_option maxRecDepth 100000 in
set_option maxHeartbeats 1000000 in
theorem concat_nil {w : World} {B cb co n1 c1 : Nat} {us1 : List Value} (h0 : w.cell? ⟨B, 0, none⟩ = some (.slice (some ⟨cb, co, none⟩) n1 c1)) (h1 : w.cell? ⟨B, 1, none⟩ = some (.slice none 0 0))
    (hl1 : us1.length = n1) (hn1 : 0 < n1) (hb : n1 ≤ 140737488355328)
    (hu1 : ∀ j u, us1[j]? = some u → w.cell? ((⟨cb, co, none⟩ : Addr).add j) = some u) (ho1 : ∀ u ∈ us1, u.oneCell' = true) :
    Calls Tryz.prog 45 #[.slice (some ⟨B, 0, none⟩) 2 2] w (CtR us1 w) := by
  obtain ⟨i0, hi, hz0, hz1, hz2⟩ := info_parts info5
  have hB : B < w.heap.size := low_of_cell h0
  go_enter Tryz.func45, Tryz.ntmps45
  go_wp2
  refine wp_loop_rounds 3 ?_
  rw [rounds_succ]
  go_wp2
  rw [rounds_succ]
  go_wp2
  rw [rounds_succ]
  go_wp2_with (go_at_call 93; refine (grow_nil n1 _ (by omega) (by omega) (by omega) _).mono ?_; rintro e w' ⟨rfl, rfl⟩)
  have hown0 := own_made w n1 (by omega)
  have hbl0 : Below w.heap.size w (w.alloc (.cells (mk0 w n1) 5)).drew := ((Below.refl _ _).alloc (Nat.le_refl _) _).drew
  have hc0 : (w.alloc (.cells (mk0 w n1) 5)).drew.cell? ⟨B, 0, none⟩ = some (.slice (some ⟨cb, co, none⟩) n1 c1) := (hbl0.cell (p := ⟨B, 0, none⟩) hB).trans h0
  have hv1 : ∀ j u, us1[j]? = some u → (w.alloc (.cells (mk0 w n1) 5)).drew.cell? ((⟨cb, co, none⟩ : Addr).add j) = some u := fun j u hj => (hbl0.cell (low_of_cell (hu1 j u hj))).trans (hu1 j u hj)
  have hc1 : (w.alloc (.cells (mk0 w n1) 5)).drew.cell? ⟨B, 1, none⟩ = some (.slice none 0 0) := (hbl0.cell (p := ⟨B, 1, none⟩) hB).trans h1
  have hz : w.heap.size ≤ (w.alloc (.cells (mk0 w n1) 5)).drew.heap.size := hbl0.size
  generalize (w.alloc (.cells (mk0 w n1) 5)).drew = W1 at *
  clear h0 h1 hu1
  refine wp_loop_rounds 3 ?_
  rw [rounds_succ]
  go_wp2_with (at_builtin; refine wpList_append_own _ rfl _ _ 25 rfl w.heap.size 5 i0 (.int .u8 0) 1 1 Tryz.underlying25 hi hz0 hz1 hz2 rfl (by decide) _ _ _ rfl hown0 ⟨cb, co, none⟩ n1 c1 us1 rfl (by omega) hv1 ho1 (by unfold maxLen; omega) (by omega) hz ?_)
  intro v1 w1 hown1 hg1 _
  have hc1' : w1.cell? ⟨B, 1, none⟩ = some (.slice none 0 0) := hg1.cell hc1 (by simp [Value.ownBlock]; omega)
  have hbl1 : Below w.heap.size w w1 := hbl0.grown hg1 hz (fun k hk => by simp [Value.ownBlock] at hk; omega)
  clear hbl0 hc0 hv1 hown0 hc1 hz hg1
  go_wp2
  rw [rounds_succ]
  go_wp2_with (at_builtin; refine wpList_append_own_none rfl _ _ 25 rfl w.heap.size 5 i0 1 Tryz.underlying25 hi _ _ _ rfl hown1 rfl ?_)
  clear hc1'
  go_wp2
  rw [rounds_succ]
  go_wp2
  go_ret
  exact ct_end hown1 (by omega) hbl1
end Go.Ev
