import Derived.Test.YtepopmplcjhfbaaGreatObSane
import Derived.WalkKit
import Derived.LoopN
import Derived.Outline
import Derived.Laws.AppendOwnNone
import Derived.Laws.BytesString
import Derived.Deep.QuietTactic
import Derived.BigQuiet
import Derived.WalkSpells
set_option linter.unusedSectionVars false
set_option linter.unusedVariables false
set_option linter.unusedSimpArgs false
set_option linter.unnecessarySimpa false
/-
  Stage 3: bytes, and the calls upon them that copy and compare.
-/
namespace Go.Ev
open Go.RowKit Go.Proofs
theorem low_of_cell {w : World} {a : Addr} {v : Value} (h : w.cell? a = some v) : a.block < w.heap.size := by
  rcases Nat.lt_or_ge a.block w.heap.size with h' | h'
  · exact h'
  · simp [World.cell?, Array.getElem?_eq_none h'] at h
theorem cell_add (b o j : Nat) : (⟨b, o, none⟩ : Addr).add j = ⟨b, o + j, none⟩ := by
  unfold Addr.add
  by_cases h : j = 0
  · subst h; rfl
  · rw [if_neg h]
theorem bcell {W w1 : World} (hb : Below W.heap.size W w1) : (∀ b o, b < W.heap.size → w1.cell? ⟨b, o, none⟩ = W.cell? ⟨b, o, none⟩) ∧ (∀ b o, b < W.heap.size → w1.frozen? ⟨b, o, none⟩ = W.frozen? ⟨b, o, none⟩) :=
  ⟨fun b o h => hb.cell (p := ⟨b, o, none⟩) h, fun b o h => hb.frozen (p := ⟨b, o, none⟩) h⟩
theorem bel_then {B : Nat} {W w1 w2 : World} (h : Below B W w1) (hB : B ≤ W.heap.size) (h' : Below w1.heap.size w1 w2) : Below B W w2 := h.trans (h'.mono (Nat.le_trans hB h.size))
def InB (q : Int) : Prop := 0 ≤ q ∧ q ≤ 255
/-- A slice of bytes in a world. -/
def BytesAt (w : World) (a : Option Addr) (n : Nat) (q : Nat → Int) : Prop := (a = none ∧ n = 0) ∨ ∃ b o, a = some ⟨b, o, none⟩ ∧ ∀ j, j < n → w.cell? ⟨b, o + j, none⟩ = some (.int .u8 (q j))
theorem BytesAt.below {w w' : World} {a : Option Addr} {n : Nat} {q : Nat → Int} (h : BytesAt w a n q) (hb : Below w.heap.size w w') : BytesAt w' a n q := by
  rcases h with h | ⟨b, o, rfl, hc⟩
  · exact .inl h
  · exact .inr ⟨b, o, rfl, fun j hj => (hb.cell (low_of_cell (hc j hj))).trans (hc j hj)⟩
def strOf (n : Nat) (q : Nat → Int) : ByteArray := ((List.range n).map q).foldl (fun r n => r.push (UInt8.ofNat n.toNat)) ByteArray.empty
theorem load_bytes {w : World} {b o n : Nat} {q : Nat → Int} (h : ∀ j, j < n → w.cell? ⟨b, o + j, none⟩ = some (.int .u8 (q j))) : (loadCells ⟨b, o, none⟩ n).run Tryz.prog w = .ok (((List.range n).map q).map (Value.int .u8)).toArray w := by
  letI : Unk := Unk.mk fun _ => 0
  have := run_loadCells_of (P := Tryz.prog) (w := w) (b := b) (off := o) (n := n) (vs := ((List.range n).map q).map (Value.int .u8)) (by simp) (fun i v hv => by
    have hi : i < n := by
      have := (List.getElem?_eq_some_iff.1 hv).1
      simpa using this
    simp [hi] at hv
    rw [h i hi, hv])
  exact this
theorem conv_bytes {w : World} {a : Option Addr} {n cap : Nat} {q : Nat → Int} (h : BytesAt w a n q) : (convert 34 9 (.slice a n cap)).run Tryz.prog w = .ok (.string (strOf n q)) w := by
  rw [run_convert_bytes_string w 34 9 5 a n cap Tryz.underlying34 Tryz.underlying5 Tryz.underlying9]
  rcases h with ⟨rfl, rfl⟩ | ⟨b, o, rfl, hc⟩
  · simp [Conv.bytesToString, strOf]
  · exact run_bytesToString w _ n cap _ (load_bytes hc)
set_option maxRecDepth 100000 in
set_option maxHeartbeats 1000000 in
theorem bequal {w : World} {a b : Option Addr} {n c1 c2 : Nat} {q : Nat → Int} (ha : BytesAt w a n q) (hb : BytesAt w b n q) :
    Calls Tryz.prog 23 #[.slice a n c1, .slice b n c2] w fun e w' => e = .returned (.bool true) ∧ w' = w := by
  have h1 := conv_bytes (cap := c1) ha
  have h2 := conv_bytes (cap := c2) hb
  go_enter Tryz.func23, Tryz.ntmps23
  go_wp2
  go_ret
  exact ⟨rfl, rfl⟩
def byV (f : Nat → Int) (n : Nat) : List Value := (List.range n).map fun j => .int .u8 (f j)
theorem byV_len (f : Nat → Int) (n : Nat) : (byV f n).length = n := by simp [byV]
theorem byV_get {f : Nat → Int} {n j : Nat} {u : Value} (h : (byV f n)[j]? = some u) : j < n ∧ u = .int .u8 (f j) := by
  have hj : j < n := by
    have := (List.getElem?_eq_some_iff.1 h).1
    rwa [byV_len] at this
  refine ⟨hj, ?_⟩
  simp [byV, hj] at h
  exact h.symm
theorem byV_at {f : Nat → Int} {n j : Nat} (h : j < n) : (byV f n)[j]? = some (.int .u8 (f j)) := by simp [byV, h]
theorem byV_one (f : Nat → Int) (n : Nat) : ∀ u ∈ byV f n, u.oneCell' = true := fun u hu => by
  simp only [byV, List.mem_map] at hu
  obtain ⟨j, _, rfl⟩ := hu
  rfl
theorem info5 : (Tryz.prog.info? 5).map (fun i => (i.zero, i.size, i.bytes)) = some (some (.int .u8 0), 1, 1) := by kernel_rfl
/-- A slice of bytes of the call's own. -/
def OwnB (w : World) (g n cap : Nat) (q : Nat → Int) : Prop := ∃ cur : Array Value, w.heap[g]? = some (.cells cur 5 (0, 0)) ∧ n ≤ cap ∧ cap ≤ maxLen ∧ cur.size = cap ∧ ∀ j, j < n → cur[j]? = some (.int .u8 (q j))
theorem ownB_of_row {w : World} {base n : Nat} {q : Nat → Int} {v : Value} (h : w.ownsRow base 5 1 v n (byV q n)) (hv : v ≠ .slice none 0 0) : ∃ g cap, v = .slice (some ⟨g, 0, none⟩) n cap ∧ base ≤ g ∧ OwnB w g n cap q := by
  obtain ⟨_, h | ⟨g, cap, cur, rfl, hb, hg, h1, h2, h3, h4⟩⟩ := h
  · exact absurd h.1 hv
  · refine ⟨g, cap, rfl, hb, cur, hg, h1, h2, by omega, fun j hj => ?_⟩
    have := congrArg (fun l : List Value => l[j]?) h4
    simp only [List.getElem?_take, Nat.mul_one, hj, if_true, byV_at hj] at this
    simpa using this
theorem OwnB.low {w : World} {g n cap : Nat} {q : Nat → Int} (h : OwnB w g n cap q) : g < w.heap.size := by
  obtain ⟨cur, h, _⟩ := h
  rcases Nat.lt_or_ge g w.heap.size with h' | h'
  · exact h'
  · simp [Array.getElem?_eq_none h'] at h
theorem OwnB.at {w : World} {g n cap : Nat} {q : Nat → Int} (h : OwnB w g n cap q) : BytesAt w (some ⟨g, 0, none⟩) n q := by
  obtain ⟨cur, h, _, _, _, hc⟩ := h
  refine .inr ⟨g, 0, rfl, fun j hj => ?_⟩
  simp [World.cell?, h, hc j hj]
theorem OwnB.below {w w' : World} {g n cap : Nat} {q : Nat → Int} (h : OwnB w g n cap q) (hb : Below w.heap.size w w') : OwnB w' g n cap q := by
  have hl := h.low
  obtain ⟨cur, h, r⟩ := h
  exact ⟨cur, (hb.block g hl).trans h, r⟩
/-- What a clone is. -/
def ClR (n : Nat) (q : Nat → Int) (w : World) (e : Ending) (w' : World) : Prop := ∃ g cap, e = .returned (.slice (some ⟨g, 0, none⟩) n cap) ∧ w.heap.size ≤ g ∧ OwnB w' g n cap q ∧ Below w.heap.size w w'
theorem cl_end {w w' : World} {n : Nat} {q : Nat → Int} {v : Value} (h : w'.ownsRow w.heap.size 5 1 v n (byV q n)) (hv : v ≠ .slice none 0 0) (hb : Below w.heap.size w w') : ClR n q w (.returned v) w' := by
  obtain ⟨g, cap, rfl, h1, h2⟩ := ownB_of_row h hv
  exact ⟨g, cap, rfl, h1, h2, hb⟩
set_option maxRecDepth 100000 in
set_option maxHeartbeats 1000000 in
theorem clone_some {w : World} {b o n cap : Nat} {q : Nat → Int} (hn : n ≤ 140737488351232) (hc : ∀ j, j < n → w.cell? ⟨b, o + j, none⟩ = some (.int .u8 (q j))) :
    Calls Tryz.prog 42 #[.slice (some ⟨b, o, none⟩) n cap] w (ClR n q w) := by
  obtain ⟨i0, hi, hz0, hz1, hz2⟩ := info_parts info5
  have hnil := fun (w : World) => Lib.run_eql_slice_nil (P := Tryz.prog) w 34 5 (some ⟨b, o, none⟩) n cap 0 0 Tryz.underlying34
  have hown0 : (w.alloc (.cells #[] 5)).ownsRow w.heap.size 5 1 (.slice (some ⟨w.heap.size, 0, none⟩) 0 0) 0 [] := World.ownsRow_made w #[] 0 (Nat.le_refl _) (Nat.zero_le _) rfl
  have hbl0 : Below w.heap.size w (w.alloc (.cells #[] 5)) := (Below.refl _ _).alloc (Nat.le_refl _) _
  have hv1 : ∀ j u, (byV q n)[j]? = some u → (w.alloc (.cells #[] 5)).cell? ((⟨b, o, none⟩ : Addr).add j) = some u := fun j u hj => by
    obtain ⟨hj', rfl⟩ := byV_get hj
    rw [cell_add]
    exact (hbl0.cell (low_of_cell (hc j hj'))).trans (hc j hj')
  clear hc
  have hl := byV_len q n
  have ho := byV_one q n
  have hz := hbl0.size
  go_enter Tryz.func42, Tryz.ntmps42
  go_wp2_with (at_builtin; refine wpList_append_own _ rfl _ _ 34 rfl w.heap.size 5 i0 (.int .u8 0) 1 1 Tryz.underlying34 hi hz0 hz1 hz2 rfl (by decide) _ _ _ rfl hown0 ⟨b, o, none⟩ n cap (byV q n) rfl (by omega) hv1 ho (by unfold maxLen; omega) (by omega) hz ?_)
  intro v1 w1 hown1 hg1 hnn
  have hbl1 : Below w.heap.size w w1 := hbl0.grown hg1 hz (fun k hk => by simp [Value.ownBlock] at hk; omega)
  clear hbl0 hown0 hv1 hg1
  go_wp2
  go_ret
  refine cl_end (by simpa using hown1) ?_ hbl1
  intro e
  exact hnn e
set_option maxRecDepth 100000 in
set_option maxHeartbeats 1000000 in
theorem bclone_some {w : World} {b o n cap : Nat} {q : Nat → Int} (hn : n ≤ 140737488351232) (hc : ∀ j, j < n → w.cell? ⟨b, o + j, none⟩ = some (.int .u8 (q j))) :
    Calls Tryz.prog 144 #[.slice (some ⟨b, o, none⟩) n cap] w (ClR n q w) := by
  obtain ⟨i0, hi, hz0, hz1, hz2⟩ := info_parts info5
  have hnil := fun (w : World) => Lib.run_eql_slice_nil (P := Tryz.prog) w 34 5 (some ⟨b, o, none⟩) n cap 0 0 Tryz.underlying34
  have hown0 : (w.alloc (.cells #[] 5)).ownsRow w.heap.size 5 1 (.slice (some ⟨w.heap.size, 0, none⟩) 0 0) 0 [] := World.ownsRow_made w #[] 0 (Nat.le_refl _) (Nat.zero_le _) rfl
  have hbl0 : Below w.heap.size w (w.alloc (.cells #[] 5)) := (Below.refl _ _).alloc (Nat.le_refl _) _
  have hv1 : ∀ j u, (byV q n)[j]? = some u → (w.alloc (.cells #[] 5)).cell? ((⟨b, o, none⟩ : Addr).add j) = some u := fun j u hj => by
    obtain ⟨hj', rfl⟩ := byV_get hj
    rw [cell_add]
    exact (hbl0.cell (low_of_cell (hc j hj'))).trans (hc j hj')
  clear hc
  have hl := byV_len q n
  have ho := byV_one q n
  have hz := hbl0.size
  go_enter Tryz.func144, Tryz.ntmps144
  go_wp2_with (at_builtin; refine wpList_append_own _ rfl _ _ 34 rfl w.heap.size 5 i0 (.int .u8 0) 1 1 Tryz.underlying34 hi hz0 hz1 hz2 rfl (by decide) _ _ _ rfl hown0 ⟨b, o, none⟩ n cap (byV q n) rfl (by omega) hv1 ho (by unfold maxLen; omega) (by omega) hz ?_)
  intro v1 w1 hown1 hg1 hnn
  have hbl1 : Below w.heap.size w w1 := hbl0.grown hg1 hz (fun k hk => by simp [Value.ownBlock] at hk; omega)
  clear hbl0 hown0 hv1 hg1
  go_wp2
  go_ret
  refine cl_end (by simpa using hown1) ?_ hbl1
  intro e
  exact hnn e
set_option maxRecDepth 100000 in
theorem clone_nil (w : World) : Calls Tryz.prog 42 #[.slice none 0 0] w fun e w' => e = .returned (.slice none 0 0) ∧ w' = w := by
  have hnil := fun (w : World) => Lib.run_eql_slice_nil (P := Tryz.prog) w 34 5 none 0 0 0 0 Tryz.underlying34
  go_enter Tryz.func42, Tryz.ntmps42
  go_wp2
  go_ret
  exact ⟨rfl, rfl⟩
set_option maxRecDepth 100000 in
theorem bclone_nil (w : World) : Calls Tryz.prog 144 #[.slice none 0 0] w fun e w' => e = .returned (.slice none 0 0) ∧ w' = w := by
  have hnil := fun (w : World) => Lib.run_eql_slice_nil (P := Tryz.prog) w 34 5 none 0 0 0 0 Tryz.underlying34
  go_enter Tryz.func144, Tryz.ntmps144
  go_wp2
  go_ret
  exact ⟨rfl, rfl⟩
end Go.Ev
