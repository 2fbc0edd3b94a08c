import Derived.Test.YtmiccmelipbakaaGreatDoorIsaDeM
import Derived.WalkKit
import Derived.Outline
import Derived.LoopN
import Derived.Lib.Hide
import Derived.Lib.AppendZeros
import Derived.Laws.AppendOwnNone
import Derived.LoopTactic
import Derived.Deep.QuietTactic
import Derived.BigQuiet
set_option linter.unusedSectionVars false
set_option linter.unusedVariables false
set_option linter.unusedSimpArgs false
/-
  slices.Concat of two slices of bytes, of which the first has an element.
-/
namespace Go.Ev
open Go.RowKit Go.Proofs
theorem info5 : (Tryz.prog.info? 5).map (fun i => (i.zero, i.size, i.bytes)) = some (some (.int .u8 0), 1, 1) := by kernel_rfl
/-- What a new row that Grow has made holds. -/
def mk0 (w : World) (n : Nat) : Array Value := Builtin.zeroCells #[Value.int .u8 0] n ++ Builtin.zeroCells #[Value.int .u8 0] (grownCap w n 0 5 - n)
set_option maxRecDepth 100000 in
theorem grow_nil (n : Nat) (z : Int) (hz : z = n) (h0 : 0 < n) (h48 : n ≤ 140737488355328) (w : World) :
    Calls Tryz.prog 93 #[.slice none 0 0, .int .i64 z] w fun e w' => e = .returned (.slice (some ⟨w.heap.size, 0, none⟩) 0 (grownCap w n 0 5)) ∧
      w' = (w.alloc (.cells (mk0 w n) 5)).drew := by
  subst hz
  obtain ⟨i0, hi, hz0, hz1, hz2⟩ := info_parts info5
  have hrun := fun (w : World) (ty : TypeId) => Lib.run_append_nil_zeros (P := Tryz.prog) w 25 3 ty 5 i0 (.int .u8 0) .i64 .i64 Tryz.underlying25 Tryz.underlying3 hi hz0 n h0 (by omega) (by omega) (by rw [hz2]; omega)
  go_enter Tryz.func93, Tryz.ntmps93
  go_wp2_with (at_builtin; refine Lib.wpList_append_run _ rfl _ _ _ _ rfl _ _ rfl rfl _ _ (hrun _ _) ?_)
  go_ret
  exact ⟨rfl, rfl⟩
theorem zeros_size (n : Nat) : (Builtin.zeroCells #[Value.int .u8 0] n).size = n := by simp [Builtin.zeroCells]
theorem own_made (w : World) (n : Nat) (hn : n ≤ 140737488355328) :
    (w.alloc (.cells (mk0 w n) 5)).drew.ownsRow w.heap.size 5 1 (.slice (some ⟨w.heap.size, 0, none⟩) 0 (grownCap w n 0 5)) 0 [] := by
  have h1 := grownCap_ge w n 0 5
  have h2 := grownCap_le_maxLen w n 0 5 (by unfold maxLen; omega)
  have h3 : (mk0 w n).size = grownCap w n 0 5 * 1 := by
    unfold mk0
    rw [Array.size_append, zeros_size, zeros_size]
    omega
  exact (World.ownsRow_made w (mk0 w n) _ (Nat.le_refl _) h2 h3).drew
theorem cell_add (b o j : Nat) : (⟨b, o, none⟩ : Addr).add j = ⟨b, o + j, none⟩ := by
  unfold Addr.add
  by_cases h : j = 0
  · subst h; rfl
  · rw [if_neg h]
/-- What Concat answers. -/
def CtR (xs : List Value) (w : World) (e : Ending) (w' : World) : Prop := ∃ g cap : Nat, e = .returned (.slice (some ⟨g, 0, none⟩) xs.length cap) ∧ xs.length ≤ cap ∧ cap ≤ maxLen ∧ (∀ j v, xs[j]? = some v → w'.cell? ⟨g, j, none⟩ = some v) ∧ Below w.heap.size w w'
theorem ct_end {w w2 : World} {v : Value} {n : Nat} {xs : List Value} (hown : w2.ownsRow w.heap.size 5 1 v n xs) (hpos : 0 < n) (hbl : Below w.heap.size w w2) : CtR xs w (.returned v) w2 := by
  obtain ⟨hl, ⟨_, h0⟩ | ⟨g, cap, cur, rfl, _, hh, hc, hm, hs, ht⟩⟩ := hown
  · omega
  · rw [Nat.mul_one] at hl ht
    refine ⟨g, cap, by rw [hl], by omega, hm, fun j v hj => ?_, hbl⟩
    have hj' : cur[j]? = some v := by
      rw [← ht, List.getElem?_take] at hj
      split at hj
      · simpa using hj
      · cases hj
    simp [World.cell?, hh, hj']
set_option maxRecDepth 100000 in
set_option maxHeartbeats 1000000 in
theorem concat_calls {w : World} {B cb co n1 c1 rb ro n2 c2 : Nat} {us1 us2 : List Value} (h0 : w.cell? ⟨B, 0, none⟩ = some (.slice (some ⟨cb, co, none⟩) n1 c1)) (h1 : w.cell? ⟨B, 1, none⟩ = some (.slice (some ⟨rb, ro, none⟩) n2 c2))
    (hl1 : us1.length = n1) (hl2 : us2.length = n2) (hn1 : 0 < n1) (hb : n1 + n2 ≤ 140737488355328)
    (hu1 : ∀ j u, us1[j]? = some u → w.cell? ((⟨cb, co, none⟩ : Addr).add j) = some u) (hu2 : ∀ j u, us2[j]? = some u → w.cell? ((⟨rb, ro, none⟩ : Addr).add j) = some u)
    (ho1 : ∀ u ∈ us1, u.oneCell' = true) (ho2 : ∀ u ∈ us2, u.oneCell' = true) :
    Calls Tryz.prog 45 #[.slice (some ⟨B, 0, none⟩) 2 2] w (CtR (us1 ++ us2) w) := by
  obtain ⟨i0, hi, hz0, hz1, hz2⟩ := info_parts info5
  have hB : B < w.heap.size := low_of_cell h0
  go_enter Tryz.func45, Tryz.ntmps45
  go_wp2
  refine wp_loop_rounds 3 ?_
  rw [rounds_succ]
  go_wp2
  rw [rounds_succ]
  go_wp2
  rw [rounds_succ]
  go_wp2_with (go_at_call 93; refine (grow_nil (n1 + n2) _ (by omega) (by omega) (by omega) _).mono ?_; rintro e w' ⟨rfl, rfl⟩)
  have hown0 := own_made w (n1 + n2) (by omega)
  have hbl0 : Below w.heap.size w (w.alloc (.cells (mk0 w (n1 + n2)) 5)).drew := ((Below.refl _ _).alloc (Nat.le_refl _) _).drew
  have hc0 : (w.alloc (.cells (mk0 w (n1 + n2)) 5)).drew.cell? ⟨B, 0, none⟩ = some (.slice (some ⟨cb, co, none⟩) n1 c1) := (hbl0.cell (p := ⟨B, 0, none⟩) hB).trans h0
  have hv1 : ∀ j u, us1[j]? = some u → (w.alloc (.cells (mk0 w (n1 + n2)) 5)).drew.cell? ((⟨cb, co, none⟩ : Addr).add j) = some u := fun j u hj => (hbl0.cell (low_of_cell (hu1 j u hj))).trans (hu1 j u hj)
  have hv2 : ∀ j u, us2[j]? = some u → (w.alloc (.cells (mk0 w (n1 + n2)) 5)).drew.cell? ((⟨rb, ro, none⟩ : Addr).add j) = some u := fun j u hj => (hbl0.cell (low_of_cell (hu2 j u hj))).trans (hu2 j u hj)
  have hc1 : (w.alloc (.cells (mk0 w (n1 + n2)) 5)).drew.cell? ⟨B, 1, none⟩ = some (.slice (some ⟨rb, ro, none⟩) n2 c2) := (hbl0.cell (p := ⟨B, 1, none⟩) hB).trans h1
  have hz : w.heap.size ≤ (w.alloc (.cells (mk0 w (n1 + n2)) 5)).drew.heap.size := hbl0.size
  generalize (w.alloc (.cells (mk0 w (n1 + n2)) 5)).drew = W1 at *
  clear h0 h1 hu1
  refine wp_loop_rounds 3 ?_
  rw [rounds_succ]
  go_wp2_with (at_builtin; refine wpList_append_own _ rfl _ _ 25 rfl w.heap.size 5 i0 (.int .u8 0) 1 1 Tryz.underlying25 hi hz0 hz1 hz2 rfl (by decide) _ _ _ rfl hown0 ⟨cb, co, none⟩ n1 c1 us1 rfl (by omega) hv1 ho1 (by unfold maxLen; omega) (by omega) hz ?_)
  intro v1 w1 hown1 hg1 _
  have hlt2 : ∀ j u, us2[j]? = some u → rb < w.heap.size := fun j u hj => by have := low_of_cell (hu2 j u hj); rw [cell_add] at this; exact this
  have hw1 : ∀ j u, us2[j]? = some u → w1.cell? ((⟨rb, ro, none⟩ : Addr).add j) = some u := fun j u hj => hg1.cell (hv2 j u hj) (by have := hlt2 j u hj; rw [cell_add]; simp [Value.ownBlock]; omega)
  have hc1' : w1.cell? ⟨B, 1, none⟩ = some (.slice (some ⟨rb, ro, none⟩) n2 c2) := hg1.cell hc1 (by simp [Value.ownBlock]; omega)
  have hbl1 : Below w.heap.size w w1 := hbl0.grown hg1 hz (fun k hk => by simp [Value.ownBlock] at hk; omega)
  have hz1' := hbl1.size
  clear hbl0 hc0 hv1 hu2 hown0 hc1 hz hv2 hg1 hlt2
  go_wp2
  rw [rounds_succ]
  go_wp2_with (at_builtin; refine wpList_append_own _ rfl _ _ 25 rfl w.heap.size 5 i0 (.int .u8 0) 1 1 Tryz.underlying25 hi hz0 hz1 hz2 rfl (by decide) _ _ _ rfl hown1 ⟨rb, ro, none⟩ n2 c2 us2 rfl (by omega) hw1 ho2 (by unfold maxLen; omega) (by omega) hz1' ?_)
  intro v2 w2 hown2 hg2 hnil
  have hbl2 : Below w.heap.size w w2 := hbl1.grown hg2 hz1' (fun k hk => (hown1.lt k hk).1)
  clear hbl1 hw1 hc1' hz1' hg2
  go_wp2
  rw [rounds_succ]
  go_wp2
  go_ret
  exact ct_end hown2 (by omega) hbl2
set_option maxRecDepth 100000 in
set_option maxHeartbeats 1000000 in
theorem concat_nil {w : World} {B cb co n1 c1 : Nat} {us1 : List Value} (h0 : w.cell? ⟨B, 0, none⟩ = some (.slice (some ⟨cb, co, none⟩) n1 c1)) (h1 : w.cell? ⟨B, 1, none⟩ = some (.slice none 0 0))
    (hl1 : us1.length = n1) (hn1 : 0 < n1) (hb : n1 ≤ 140737488355328)
    (hu1 : ∀ j u, us1[j]? = some u → w.cell? ((⟨cb, co, none⟩ : Addr).add j) = some u) (ho1 : ∀ u ∈ us1, u.oneCell' = true) :
    Calls Tryz.prog 45 #[.slice (some ⟨B, 0, none⟩) 2 2] w (CtR us1 w) := by
  obtain ⟨i0, hi, hz0, hz1, hz2⟩ := info_parts info5
  have hB : B < w.heap.size := low_of_cell h0
  go_enter Tryz.func45, Tryz.ntmps45
  go_wp2
  refine wp_loop_rounds 3 ?_
  rw [rounds_succ]
  go_wp2
  rw [rounds_succ]
  go_wp2
  rw [rounds_succ]
  go_wp2_with (go_at_call 93; refine (grow_nil n1 _ (by omega) (by omega) (by omega) _).mono ?_; rintro e w' ⟨rfl, rfl⟩)
  have hown0 := own_made w n1 (by omega)
  have hbl0 : Below w.heap.size w (w.alloc (.cells (mk0 w n1) 5)).drew := ((Below.refl _ _).alloc (Nat.le_refl _) _).drew
  have hc0 : (w.alloc (.cells (mk0 w n1) 5)).drew.cell? ⟨B, 0, none⟩ = some (.slice (some ⟨cb, co, none⟩) n1 c1) := (hbl0.cell (p := ⟨B, 0, none⟩) hB).trans h0
  have hv1 : ∀ j u, us1[j]? = some u → (w.alloc (.cells (mk0 w n1) 5)).drew.cell? ((⟨cb, co, none⟩ : Addr).add j) = some u := fun j u hj => (hbl0.cell (low_of_cell (hu1 j u hj))).trans (hu1 j u hj)
  have hc1 : (w.alloc (.cells (mk0 w n1) 5)).drew.cell? ⟨B, 1, none⟩ = some (.slice none 0 0) := (hbl0.cell (p := ⟨B, 1, none⟩) hB).trans h1
  have hz : w.heap.size ≤ (w.alloc (.cells (mk0 w n1) 5)).drew.heap.size := hbl0.size
  generalize (w.alloc (.cells (mk0 w n1) 5)).drew = W1 at *
  clear h0 h1 hu1
  refine wp_loop_rounds 3 ?_
  rw [rounds_succ]
  go_wp2_with (at_builtin; refine wpList_append_own _ rfl _ _ 25 rfl w.heap.size 5 i0 (.int .u8 0) 1 1 Tryz.underlying25 hi hz0 hz1 hz2 rfl (by decide) _ _ _ rfl hown0 ⟨cb, co, none⟩ n1 c1 us1 rfl (by omega) hv1 ho1 (by unfold maxLen; omega) (by omega) hz ?_)
  intro v1 w1 hown1 hg1 _
  have hc1' : w1.cell? ⟨B, 1, none⟩ = some (.slice none 0 0) := hg1.cell hc1 (by simp [Value.ownBlock]; omega)
  have hbl1 : Below w.heap.size w w1 := hbl0.grown hg1 hz (fun k hk => by simp [Value.ownBlock] at hk; omega)
  clear hbl0 hc0 hv1 hown0 hc1 hz hg1
  go_wp2
  rw [rounds_succ]
  go_wp2_with (at_builtin; refine wpList_append_own_none rfl _ _ 25 rfl w.heap.size 5 i0 1 Tryz.underlying25 hi _ _ _ rfl hown1 rfl ?_)
  clear hc1'
  go_wp2
  rw [rounds_succ]
  go_wp2
  go_ret
  exact ct_end hown1 (by omega) hbl1
end Go.Ev

/-
  slices.Equal of two slices of the same bytes.
-/
namespace Go.Ev
open Go.RowKit Go.Proofs
theorem below_drewN {B : Nat} {a w : World} (h : Below B a w) (n : Nat) : Below B a (w.drewN n) := ⟨h.os, h.tape, h.output, h.size, h.block⟩
set_option maxRecDepth 100000 in
set_option maxHeartbeats 1000000 in
theorem equal_same {w : World} {ab ao bb bo n c1 c2 : Nat} (xs : Nat → Int) (hn : n ≤ 140737488355328) (h1 : ∀ j, j < n → w.cell? ⟨ab, ao + j, none⟩ = some (.int .u8 (xs j))) (h2 : ∀ j, j < n → w.cell? ⟨bb, bo + j, none⟩ = some (.int .u8 (xs j))) :
    Calls Tryz.prog 20 #[.slice (some ⟨ab, ao, none⟩) n c1, .slice (some ⟨bb, bo, none⟩) n c2] w fun e w' => e = .returned (.bool true) ∧ Below w.heap.size w w' := by
  go_enter Tryz.func20, Tryz.ntmps20
  go_wp2
  go_loopw [13] (fun i wr => ∃ k : Nat, k ≤ n ∧ i = .int .i64 k ∧ Below w.heap.size w wr) (fun i _ => n - (intOf i).toNat)
  case atStart => exact ⟨0, Nat.zero_le _, rfl, Below.refl _ _⟩
  case round =>
    obtain ⟨k, hk, rfl, hbl⟩ := hrel
    by_cases hlt : k < n
    · have e1 : wr.cell? ⟨ab, ao + k, none⟩ = some (.int .u8 (xs k)) := (hbl.cell (low_of_cell (h1 k hlt))).trans (h1 k hlt)
      have e2 : wr.cell? ⟨bb, bo + k, none⟩ = some (.int .u8 (xs k)) := (hbl.cell (low_of_cell (h2 k hlt))).trans (h2 k hlt)
      have hlt' : (k : Int) < (n : Int) := by omega
      have hB := hbl.size
      go_wp2
      go_quiet (fail)
      go_wp2
      go_roundw
      case rel => exact ⟨k + 1, by omega, by go_num, below_drewN hbl _⟩
      case measure => simp [intOf]; omega
    · have : k = n := by omega
      subst this
      go_wp2
      go_ret
      exact ⟨rfl, hbl⟩
end Go.Ev

/-
  What the walk of the law IsaPrefix calls, in the walk's own words.
-/
namespace Go.Ev
open Go.RowKit Go.Proofs
theorem globU_below {m : Int} {w w' : World} (hG : GlobU m w) (hb : Below w.heap.size w w') : GlobU m w' := fun U g off a e => by
  obtain ⟨h1, v, h2, h3⟩ := hG U g off a e
  exact ⟨Nat.lt_of_lt_of_le h1 hb.size, v, by rw [hb.cell h1]; exact h2, h3⟩
theorem sane_b {m : Int} {w : World} (hG : GlobU m w) : Calls Tryz.prog 15 #[] w fun e w' => e = .returned (.bool true) ∧ Below w.heap.size w w' :=
  letI : Unk := Unk.mk (nthI [])
  sane_ok (hG _)
theorem bcell {W w1 : World} (hb : Below W.heap.size W w1) : (∀ b o, b < W.heap.size → w1.cell? ⟨b, o, none⟩ = W.cell? ⟨b, o, none⟩) ∧ (∀ b o, b < W.heap.size → w1.frozen? ⟨b, o, none⟩ = W.frozen? ⟨b, o, none⟩) :=
  ⟨fun b o h => hb.cell (p := ⟨b, o, none⟩) h, fun b o h => hb.frozen (p := ⟨b, o, none⟩) h⟩
theorem bel_alloc {w w1 : World} {o : Obj} (h : Below (w.alloc o).heap.size (w.alloc o) w1) : Below w.heap.size w w1 := ((Below.refl _ _).alloc (Nat.le_refl _) _).trans (h.mono (by simp))
theorem bel_then {B : Nat} {W w1 w2 : World} (h : Below B W w1) (hB : B ≤ W.heap.size) (h' : Below w1.heap.size w1 w2) : Below B W w2 := h.trans (h'.mono (Nat.le_trans hB h.size))

/-! ### Bytes -/
def byV (f : Nat → Int) (n : Nat) : List Value := (List.range n).map fun j => .int .u8 (f j)
theorem byV_len (f : Nat → Int) (n : Nat) : (byV f n).length = n := by simp [byV]
theorem byV_get {f : Nat → Int} {n j : Nat} {u : Value} (h : (byV f n)[j]? = some u) : j < n ∧ u = .int .u8 (f j) := by
  have hj : j < n := by
    have := (List.getElem?_eq_some_iff.1 h).1
    rwa [byV_len] at this
  refine ⟨hj, ?_⟩
  simp [byV, hj] at h
  exact h.symm
theorem byV_at {f : Nat → Int} {n j : Nat} (h : j < n) : (byV f n)[j]? = some (.int .u8 (f j)) := by simp [byV, h]
theorem byV_one (f : Nat → Int) (n : Nat) : ∀ u ∈ byV f n, u.oneCell' = true := fun u hu => by
  simp only [byV, List.mem_map] at hu
  obtain ⟨j, _, rfl⟩ := hu
  rfl
/-- A slice of bytes in a world. -/
def BytesAt (w : World) (a : Option Addr) (n cap : Nat) (q : Nat → Int) : Prop :=
  (a = none ∧ n = 0 ∧ cap = 0 ∨ ∃ b o, a = some ⟨b, o, none⟩ ∧ ∀ j, j < n → w.cell? ⟨b, o + j, none⟩ = some (.int .u8 (q j))) ∧ n ≤ cap ∧ cap ≤ 140737488351232 ∧ ∀ j, InB (q j)
theorem BytesAt.below {w w' : World} {a : Option Addr} {n cap : Nat} {q : Nat → Int} (h : BytesAt w a n cap q) (hb : Below w.heap.size w w') : BytesAt w' a n cap q := by
  refine ⟨?_, h.2⟩
  rcases h.1 with h | ⟨b, o, rfl, hc⟩
  · exact .inl h
  · exact .inr ⟨b, o, rfl, fun j hj => (hb.cell (low_of_cell (hc j hj))).trans (hc j hj)⟩

/-! ### The calls -/
/-- What Concat of the bytes f 0 .. and others answers. -/
def CcR (N : Nat) (f : Nat → Int) (w : World) (e : Ending) (w' : World) : Prop := ∃ (gb n cap : Nat) (q : Nat → Int), e = .returned (.slice (some ⟨gb, 0, none⟩) n cap) ∧ n ≤ cap ∧ cap ≤ 9223372036854775807 ∧ N ≤ n ∧ (∀ j, j < N → q j = f j) ∧ (∀ j, InB (q j)) ∧
  (∀ j, j < n → w'.cell? ⟨gb, 0 + j, none⟩ = some (.int .u8 (q j))) ∧ Below w.heap.size w w'
def catF (N : Nat) (f g : Nat → Int) (j : Nat) : Int := if j < N then f j else g (j - N)
theorem cat_get {N n : Nat} {f g : Nat → Int} {j : Nat} (h : j < N + n) : (byV f N ++ byV g n)[j]? = some (.int .u8 (catF N f g j)) := by
  unfold catF
  by_cases hj : j < N
  · rw [List.getElem?_append_left (by rw [byV_len]; exact hj), byV_at hj, if_pos hj]
  · rw [List.getElem?_append_right (by rw [byV_len]; omega), byV_len, byV_at (by omega), if_neg hj]
theorem ccR_of {N n : Nat} {f q : Nat → Int} {xs : List Value} {w : World} (hl : xs.length = n) (hN : N ≤ n) (hx : ∀ j, j < n → xs[j]? = some (.int .u8 (q j))) (hq : ∀ j, j < N → q j = f j) (hi : ∀ j, InB (q j)) {e : Ending} {w' : World} (h : CtR xs w e w') : CcR N f w e w' := by
  obtain ⟨g, cap, he, h1, h2, h3, h4⟩ := h
  rw [hl] at he h1
  exact ⟨g, n, cap, q, he, h1, h2, hN, hq, hi, fun j hj => by rw [Nat.zero_add]; exact h3 j _ (hx j hj), h4⟩
theorem concat_b {w : World} {B : Nat} {cb co N c1 : Nat} {f g : Nat → Int} {ra : Option Addr} {n2 c2 : Nat} (h0 : w.cell? ⟨B, 0, none⟩ = some (.slice (some ⟨cb, co, none⟩) N c1)) (h1 : w.cell? ⟨B, 1, none⟩ = some (.slice ra n2 c2)) (hr : BytesAt w ra n2 c2 g)
    (hN : 0 < N) (hN8 : N ≤ 8) (hc : ∀ j, j < N → w.cell? ⟨cb, co + j, none⟩ = some (.int .u8 (f j))) (hf : ∀ j, InB (f j)) : Calls Tryz.prog 45 #[.slice (some ⟨B, 0, none⟩) 2 2] w (CcR N f w) := by
  obtain ⟨hr, hle, hcap, hg⟩ := hr
  have hu1 : ∀ j u, (byV f N)[j]? = some u → w.cell? ((⟨cb, co, none⟩ : Addr).add j) = some u := fun j u hj => by
    obtain ⟨hj', rfl⟩ := byV_get hj
    rw [cell_add]; exact hc j hj'
  rcases hr with ⟨rfl, rfl, rfl⟩ | ⟨rb, ro, rfl, hc2⟩
  · exact (concat_nil h0 h1 (byV_len f N) hN (by omega) hu1 (byV_one f N)).mono fun e w' h => ccR_of (byV_len f N) (Nat.le_refl _) (fun j hj => byV_at hj) (fun j _ => rfl) hf h
  · refine (concat_calls h0 h1 (byV_len f N) (byV_len g n2) hN (by omega) hu1 (fun j u hj => ?_) (byV_one f N) (byV_one g n2)).mono fun e w' h =>
      ccR_of (q := catF N f g) (by rw [List.length_append, byV_len, byV_len]) (Nat.le_add_right _ _) (fun j hj => cat_get hj) (fun j hj => by unfold catF; rw [if_pos hj]) (fun j => ?_) h
    · obtain ⟨hj', rfl⟩ := byV_get hj
      rw [cell_add]; exact hc2 j hj'
    · unfold catF
      split
      · exact hf j
      · exact hg _
abbrev agI (o a b c d k i : Int) : Value := .agg #[.int .i64 o, .int .i64 a, .int .i64 b, .int .i64 c, .int .i64 d, .int .i64 k, .int .u32 i]
/-- Decode of bytes that begin with those of an instruction. -/
theorem decode_enc {m : Int} {w : World} (hG : GlobU m w) {x : XK} {op a b c d k i : Int} (hx : IsX x op a b c d k i) (hn : xlen x ≠ 0) {gb n cap : Nat} {q : Nat → Int} (hle : n ≤ cap) (hcap : cap ≤ 9223372036854775807) (hN : xlen x ≤ n)
    (hq : ∀ j, j < xlen x → q j = eB op a b c d k i j) (hi : ∀ j, InB (q j)) (hc : ∀ j, j < n → w.cell? ⟨gb, 0 + j, none⟩ = some (.int .u8 (q j))) :
    Calls Tryz.prog 21 #[.slice (some ⟨gb, 0, none⟩) n cap] w fun e w' => e = .returned (.tuple #[agI op a b c d k i, .int .i64 (xlen x : Int), .int .i64 0]) ∧ Below w.heap.size w w' := by
  obtain ⟨h1, h2, h3⟩ := dec_enc hx hn hq hN
  refine (decode_any hG hle hcap hc hi).mono fun e w' ⟨he, hb⟩ => ⟨?_, hb⟩
  rw [he, h1, h2, h3]; rfl
/-- Bytes that begin with no instruction. -/
def BNo (n : Nat) (q : Nat → Int) : Prop := dOk n q = false
theorem decode_not {m : Int} {w : World} (hG : GlobU m w) {a : Option Addr} {n cap : Nat} {q : Nat → Int} (hb : BytesAt w a n cap q) (hn : BNo n q) :
    Calls Tryz.prog 21 #[.slice a n cap] w fun e w' => e = .returned (.tuple #[agI 0 0 0 0 0 0 0, .int .i64 0, .int .i64 6]) ∧ Below w.heap.size w w' := by
  obtain ⟨hr, hle, hcap, hg⟩ := hb
  rcases hr with ⟨rfl, rfl, rfl⟩ | ⟨b, o, rfl, hc⟩
  · exact decode_nil hG
  · refine (decode_any hG hle (by omega) hc hg).mono fun e w' ⟨he, hb⟩ => ⟨?_, hb⟩
    rw [he, show dOk n q = false from hn]; rfl
theorem decode_yes {m : Int} {w : World} (hG : GlobU m w) {b o n cap : Nat} {q : Nat → Int} (hle : n ≤ cap) (hcap : cap ≤ 9223372036854775807) (hc : ∀ j, j < n → w.cell? ⟨b, o + j, none⟩ = some (.int .u8 (q j))) (hg : ∀ j, InB (q j)) (hn : dOk n q = true)
    {N : Nat} (hN : N = dSz q) {op a b' c d k i : Int} (hi : dIn q = insnV op a b' c d k i) : Calls Tryz.prog 21 #[.slice (some ⟨b, o, none⟩) n cap] w fun e w' => e = .returned (.tuple #[agI op a b' c d k i, .int .i64 (N : Int), .int .i64 0]) ∧ Below w.heap.size w w' := by
  refine (decode_any hG hle hcap hc hg).mono fun e w' ⟨he, hb⟩ => ⟨?_, hb⟩
  rw [he, hn, hN, hi]; rfl
/-- Encode of what Decode has read. -/
theorem encode_N {m : Int} {w : World} (hG : GlobU m w) {x : XK} {op a b c d k i : Int} (hx : IsX x op a b c d k i) {N : Nat} {q : Nat → Int} (hN : N = xlen x) (h0 : 0 < N) (hq : ∀ j, j < N → eB op a b c d k i j = q j) : Calls Tryz.prog 16 #[agI op a b c d k i] w (EnR N q w) := by
  subst hN
  refine (encode_ok hG hx (by omega)).mono fun e w' h => ?_
  obtain ⟨blk, off, cap, he, hc, hcell, hb⟩ := h
  exact ⟨blk, off, cap, he, hc, fun j hj => by rw [hcell j hj, hq j hj], hb⟩
theorem decode_M {m : Int} {w : World} (hG : GlobU m w) {x : XK} {op a b c d k i : Int} (hx : IsX x op a b c d k i) {M : Nat} (hM : M = xlen x) (h0 : 0 < M) {f : Nat → Int} (hf : ∀ j, j < M → eB op a b c d k i j = f j) {gb n cap : Nat} {q : Nat → Int} (hle : n ≤ cap) (hcap : cap ≤ 9223372036854775807) (hN : M ≤ n)
    (hq : ∀ j, j < M → q j = f j) (hi : ∀ j, InB (q j)) (hc : ∀ j, j < n → w.cell? ⟨gb, 0 + j, none⟩ = some (.int .u8 (q j))) :
    Calls Tryz.prog 21 #[.slice (some ⟨gb, 0, none⟩) n cap] w fun e w' => e = .returned (.tuple #[agI op a b c d k i, .int .i64 (M : Int), .int .i64 0]) ∧ Below w.heap.size w w' := by
  subst hM
  exact decode_enc hG hx (by omega) hle hcap hN (fun j hj => (hq j hj).trans (hf j hj).symm) hi hc
theorem alloc_at {w : World} {c : Array Value} {e : TypeId} {j : Nat} {v : Value} (h : c[j]? = some v) : (w.alloc (.cells c e)).cell? ⟨w.heap.size, j, none⟩ = some v := by
  have e' := heap_alloc_new w (.cells c e)
  unfold World.cell?
  simp only [e']
  exact h
end Go.Ev

