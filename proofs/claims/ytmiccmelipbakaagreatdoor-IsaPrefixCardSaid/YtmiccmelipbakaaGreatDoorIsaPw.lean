import Derived.Test.YtmiccmelipbakaaGreatDoorIsaPx
import Derived.Deep.DeepFit
set_option linter.unusedSectionVars false
set_option linter.unusedVariables false
set_option linter.unusedSimpArgs false
/-
  The walk of the law IsaPrefix.
-/
namespace Go.Ev
open Go.RowKit Go.Proofs
set_option maxRecDepth 100000 in
set_option maxHeartbeats 1000000 in
theorem prefix_nn {m : Int} {w : World} (hG : GlobU m w) {op a b c d k i : Int} (hx : IsX .inv op a b c d k i) {rv : Value} {ba : Option Addr} {n cap : Nat} {q : Nat → Int} (hb : BytesAt w ba n cap q) (hno : BNo n q) :
    Calls Tryz.prog 8 #[agI op a b c d k i, rv, .slice ba n cap] w fun e w' => e = .returned (.bool true) ∧ Below w.heap.size w w' := by
  go_enter Tryz.func8, Tryz.ntmps8
  go_wp2_with fail
  refine (sane_b (globU_below hG ((Below.refl _ _).alloc (Nat.le_refl _) _))).mono ?_
  rintro e w1 ⟨rfl, hA1⟩
  obtain ⟨hc1, hf1⟩ := bcell hA1
  go_wp2_with fail
  refine (encode_no (globU_below hG (bel_alloc hA1)) hx).mono ?_
  rintro e w2 ⟨rfl, hb2⟩
  have hA2 := bel_then hA1 (Nat.le_refl _) hb2
  clear hc1 hf1 hb2 hA1
  go_wp2_with fail
  refine (decode_not (globU_below hG (bel_alloc hA2)) (hb.below (bel_alloc hA2)) hno).mono ?_
  rintro e w3 ⟨rfl, hb3⟩
  have hA3 := bel_alloc (bel_then hA2 (Nat.le_refl _) hb3)
  clear hb3 hA2
  go_wp2
  go_ret
  exact ⟨rfl, hA3.alloc hA3.size _⟩
set_option maxRecDepth 100000 in
set_option maxHeartbeats 1000000 in
theorem prefix_ny {m : Int} {w : World} (hG : GlobU m w) {op a b c d k i : Int} (hx : IsX .inv op a b c d k i) {rv : Value} {bb bo n cap : Nat} {q : Nat → Int} (hle : n ≤ cap) (hcap : cap ≤ 140737488351232) (hc : ∀ j, j < n → w.cell? ⟨bb, bo + j, none⟩ = some (.int .u8 (q j))) (hg : ∀ j, InB (q j)) (hyes : dOk n q = true)
    {x' : XK} {op' a' b' c' d' k' i' : Int} {N : Nat} (hi : dIn q = insnV op' a' b' c' d' k' i') (hx' : IsX x' op' a' b' c' d' k' i') (hN : N = xlen x') (hN' : N = dSz q) (h0 : 0 < N) (hNn : N ≤ n) (hq : ∀ j, j < N → eB op' a' b' c' d' k' i' j = q j) :
    Calls Tryz.prog 8 #[agI op a b c d k i, rv, .slice (some ⟨bb, bo, none⟩) n cap] w fun e w' => e = .returned (.bool true) ∧ Below w.heap.size w w' := by
  have H1 := Lib.hid hN
  have H2 := Lib.hid hN'
  have H3 := Lib.hid hi
  have H4 := Lib.hid hq
  have H5 := Lib.hid hyes
  clear hN hN' hi hq hyes
  go_enter Tryz.func8, Tryz.ntmps8
  go_wp2_with fail
  refine (sane_b (globU_below hG ((Below.refl _ _).alloc (Nat.le_refl _) _))).mono ?_
  rintro e w1 ⟨rfl, hA1⟩
  obtain ⟨hc1, hf1⟩ := bcell hA1
  go_wp2_with fail
  refine (encode_no (globU_below hG (bel_alloc hA1)) hx).mono ?_
  rintro e w2 ⟨rfl, hb2⟩
  have hA2 := bel_alloc (bel_then hA1 (Nat.le_refl _) hb2)
  clear hc1 hf1 hb2 hA1
  go_wp2_with fail
  have hcl2 : ∀ j, j < n → w2.cell? ⟨bb, bo + j, none⟩ = some (.int .u8 (q j)) := fun j hj => (hA2.cell (low_of_cell (hc j hj))).trans (hc j hj)
  refine (decode_yes (globU_below hG hA2) hle (by omega) hcl2 hg H5.out H2.out H3.out).mono ?_
  rintro e w3 ⟨rfl, hb3⟩
  have hA3 := bel_then hA2 (Nat.le_refl _) hb3
  clear hb3 hA2 hcl2
  go_wp2_with fail
  refine (encode_N (globU_below hG (hA3.alloc hA3.size _)) hx' H1.out h0 H4.out).mono ?_
  rintro e w4 ⟨blk, off, cp, rfl, hcp, hcells, hb4⟩
  have hA4 := bel_then (hA3.alloc hA3.size _) (Nat.le_refl _) hb4
  clear hb4 hA3
  have hle' : (N : Int) ≤ (n : Int) := by omega
  go_wp2_with fail
  have hbc : ∀ j, j < N → w4.cell? ⟨bb, bo + j, none⟩ = some (.int .u8 (q j)) := fun j hj => (hA4.cell (low_of_cell (hc j (by omega)))).trans (hc j (by omega))
  have hN47 : N ≤ 140737488355328 := by omega
  refine (equal_same q hN47 hcells hbc).mono ?_
  rintro e w5 ⟨rfl, hb5⟩
  have hA5 := bel_then hA4 (Nat.le_refl _) hb5
  clear hb5 hA4 hcells hbc
  go_wp2
  go_ret
  exact ⟨rfl, hA5⟩
set_option maxRecDepth 100000 in
set_option maxHeartbeats 2000000 in
theorem prefix_yn {m : Int} {w : World} (hG : GlobU m w) {x : XK} {op a b c d k i : Int} (hx : IsX x op a b c d k i) {ra : Option Addr} {n2 c2 : Nat} {g : Nat → Int} (hr : BytesAt w ra n2 c2 g) {M : Nat} {f : Nat → Int} (hM : M = xlen x) (hM0 : 0 < M) (hM8 : M ≤ 8) (hfe : ∀ j, j < M → eB op a b c d k i j = f j) (hf : ∀ j, InB (f j))
    {ba : Option Addr} {n cap : Nat} {q : Nat → Int} (hb : BytesAt w ba n cap q) (hno : BNo n q) :
    Calls Tryz.prog 8 #[agI op a b c d k i, .slice ra n2 c2, .slice ba n cap] w fun e w' => e = .returned (.bool true) ∧ Below w.heap.size w w' := by
  have K1 := Lib.hid hM
  have K2 := Lib.hid hfe
  clear hM hfe
  go_enter Tryz.func8, Tryz.ntmps8
  go_wp2_with fail
  refine (sane_b (globU_below hG ((Below.refl _ _).alloc (Nat.le_refl _) _))).mono ?_
  rintro e w1 ⟨rfl, hA1⟩
  obtain ⟨hc1, hf1⟩ := bcell hA1
  go_wp2_with fail
  refine (encode_N (globU_below hG (bel_alloc hA1)) hx K1.out hM0 K2.out).mono ?_
  rintro e w2 ⟨blk, off, cp, rfl, hcp, hcells, hb2⟩
  have hA2 := bel_then hA1 (Nat.le_refl _) hb2
  have hw2 : w.heap.size ≤ w2.heap.size := (bel_alloc hA2).size
  have hz2 := hA2.size
  clear hc1 hf1 hb2 hA1
  go_wp2_with fail
  refine (concat_b (alloc_at rfl) (alloc_at rfl) (hr.below ((bel_alloc hA2).alloc hw2 _)) hM0 hM8 (fun j hj => (((Below.refl _ _).alloc (Nat.le_refl _) _).cell (low_of_cell (hcells j hj))).trans (hcells j hj)) hf).mono ?_
  rintro e w3 ⟨gb, n3, cap3, q3, rfl, hle3, hcap3, hM3, hq3, hi3, hc3, hb3⟩
  have hA3 := bel_then (hA2.alloc hz2 _) (Nat.le_refl _) hb3
  clear hb3 hA2 hcells hz2
  go_wp2_with fail
  refine (decode_M (globU_below hG (bel_alloc hA3)) hx K1.out hM0 K2.out hle3 hcap3 hM3 hq3 hi3 hc3).mono ?_
  rintro e w4 ⟨rfl, hb4⟩
  have hA4 := bel_then hA3 (Nat.le_refl _) hb4
  have hz4 := (bel_alloc hA4).size
  obtain ⟨hc4, hf4⟩ := bcell hA4
  have hsz4 : w.heap.size < w4.heap.size := by have := hA4.size; simp at this; omega
  clear hb4 hA3 hc3 hq3 hi3
  go_wp2_with fail
  refine (decode_not (globU_below hG ((bel_alloc hA4).alloc hz4 _)) (hb.below ((bel_alloc hA4).alloc hz4 _)) hno).mono ?_
  rintro e w5 ⟨rfl, hb5⟩
  have hA5 := bel_then ((bel_alloc hA4).alloc hz4 _) (Nat.le_refl _) hb5
  clear hc4 hf4 hb5 hA4
  go_wp2
  go_ret
  exact ⟨rfl, hA5.alloc hA5.size _⟩
set_option maxRecDepth 100000 in
set_option maxHeartbeats 2000000 in
theorem prefix_yy {m : Int} {w : World} (hG : GlobU m w) {x : XK} {op a b c d k i : Int} (hx : IsX x op a b c d k i) {ra : Option Addr} {n2 c2 : Nat} {g : Nat → Int} (hr : BytesAt w ra n2 c2 g) {M : Nat} {f : Nat → Int} (hM : M = xlen x) (hM0 : 0 < M) (hM8 : M ≤ 8) (hfe : ∀ j, j < M → eB op a b c d k i j = f j) (hf : ∀ j, InB (f j))
    {bb bo n cap : Nat} {q : Nat → Int} (hle : n ≤ cap) (hcap : cap ≤ 140737488351232) (hc : ∀ j, j < n → w.cell? ⟨bb, bo + j, none⟩ = some (.int .u8 (q j))) (hg : ∀ j, InB (q j)) (hyes : dOk n q = true)
    {x' : XK} {op' a' b' c' d' k' i' : Int} {N : Nat} (hi : dIn q = insnV op' a' b' c' d' k' i') (hx' : IsX x' op' a' b' c' d' k' i') (hN : N = xlen x') (hN' : N = dSz q) (h0 : 0 < N) (hNn : N ≤ n) (hq : ∀ j, j < N → eB op' a' b' c' d' k' i' j = q j) :
    Calls Tryz.prog 8 #[agI op a b c d k i, .slice ra n2 c2, .slice (some ⟨bb, bo, none⟩) n cap] w fun e w' => e = .returned (.bool true) ∧ Below w.heap.size w w' := by
  have H1 := Lib.hid hN
  have H2 := Lib.hid hN'
  have H3 := Lib.hid hi
  have H4 := Lib.hid hq
  have H5 := Lib.hid hyes
  clear hN hN' hi hq hyes
  have K1 := Lib.hid hM
  have K2 := Lib.hid hfe
  clear hM hfe
  go_enter Tryz.func8, Tryz.ntmps8
  go_wp2_with fail
  refine (sane_b (globU_below hG ((Below.refl _ _).alloc (Nat.le_refl _) _))).mono ?_
  rintro e w1 ⟨rfl, hA1⟩
  obtain ⟨hc1, hf1⟩ := bcell hA1
  go_wp2_with fail
  refine (encode_N (globU_below hG (bel_alloc hA1)) hx K1.out hM0 K2.out).mono ?_
  rintro e w2 ⟨blk, off, cp, rfl, hcp, hcells, hb2⟩
  have hA2 := bel_then hA1 (Nat.le_refl _) hb2
  have hw2 : w.heap.size ≤ w2.heap.size := (bel_alloc hA2).size
  have hz2 := hA2.size
  clear hc1 hf1 hb2 hA1
  go_wp2_with fail
  refine (concat_b (alloc_at rfl) (alloc_at rfl) (hr.below ((bel_alloc hA2).alloc hw2 _)) hM0 hM8 (fun j hj => (((Below.refl _ _).alloc (Nat.le_refl _) _).cell (low_of_cell (hcells j hj))).trans (hcells j hj)) hf).mono ?_
  rintro e w3 ⟨gb, n3, cap3, q3, rfl, hle3, hcap3, hM3, hq3, hi3, hc3, hb3⟩
  have hA3 := bel_then (hA2.alloc hz2 _) (Nat.le_refl _) hb3
  clear hb3 hA2 hcells hz2
  go_wp2_with fail
  refine (decode_M (globU_below hG (bel_alloc hA3)) hx K1.out hM0 K2.out hle3 hcap3 hM3 hq3 hi3 hc3).mono ?_
  rintro e w4 ⟨rfl, hb4⟩
  have hA4 := bel_then hA3 (Nat.le_refl _) hb4
  have hz4 := (bel_alloc hA4).size
  obtain ⟨hc4, hf4⟩ := bcell hA4
  have hsz4 : w.heap.size < w4.heap.size := by have := hA4.size; simp at this; omega
  clear hb4 hA3 hc3 hq3 hi3
  go_wp2_with fail
  have hA5 := (bel_alloc hA4).alloc hz4 (.cells #[.int .i64 op, .int .i64 a, .int .i64 b, .int .i64 c, .int .i64 d, .int .i64 k, .int .u32 i] 24)
  have hcl5 : ∀ j, j < n → (w4.alloc (.cells #[.int .i64 op, .int .i64 a, .int .i64 b, .int .i64 c, .int .i64 d, .int .i64 k, .int .u32 i] 24)).cell? ⟨bb, bo + j, none⟩ = some (.int .u8 (q j)) := fun j hj => (hA5.cell (low_of_cell (hc j hj))).trans (hc j hj)
  refine (decode_yes (globU_below hG hA5) hle (by omega) hcl5 hg H5.out H2.out H3.out).mono ?_
  rintro e w6 ⟨rfl, hb6⟩
  have hA6 := bel_then hA5 (Nat.le_refl _) hb6
  clear hb6 hA5 hcl5 hc4 hf4 hA4 hsz4 hz4
  go_wp2_with fail
  refine (encode_N (globU_below hG (hA6.alloc hA6.size _)) hx' H1.out h0 H4.out).mono ?_
  rintro e w7 ⟨blk, off, cp, rfl, hcp, hcells, hb7⟩
  have hA7 := bel_then (hA6.alloc hA6.size _) (Nat.le_refl _) hb7
  clear hb7 hA6
  have hle' : (N : Int) ≤ (n : Int) := by omega
  go_wp2_with fail
  have hbc : ∀ j, j < N → w7.cell? ⟨bb, bo + j, none⟩ = some (.int .u8 (q j)) := fun j hj => (hA7.cell (low_of_cell (hc j (by omega)))).trans (hc j (by omega))
  have hN47 : N ≤ 140737488355328 := by omega
  refine (equal_same q hN47 hcells hbc).mono ?_
  rintro e w8 ⟨rfl, hb8⟩
  have hA8 := bel_then hA7 (Nat.le_refl _) hb8
  clear hb8 hA7 hcells hbc
  go_wp2
  go_ret
  exact ⟨rfl, hA8⟩
end Go.Ev
