import Derived.Test.YtepopmplcjhfbaaGreatObRf
set_option linter.unusedSectionVars false
set_option linter.unusedVariables false
set_option linter.unusedSimpArgs false
/-
  Stage 3: what the specification's Apply answers where the field is there.
-/
namespace Go.Ev
open Go.RowKit Go.Proofs
set_option maxRecDepth 100000 in
set_option maxHeartbeats 1000000 in
theorem rapply_rng {a : Option Addr} {n cap : Nat} {off k s add p : Int} (hn : n ≤ 20000) (hk1 : 1 ≤ k) (hk5 : k ≤ 5) (ha0 : -2147483648 ≤ add) (ha1 : add ≤ 2147483647) (ho : 0 ≤ off) (hf : off + wd k ≤ n) (h4 : okR (s + add) k = false) (hs0 : 0 ≤ s) (hs1 : s ≤ 4294967295) (hp0 : 0 ≤ p) (hp1 : p ≤ 4294967295) (w : World) :
    Calls Tryz.prog 51 #[.slice a n cap, .int .i64 off, .int .i64 k, .int .u32 s, .int .i64 add, .int .u32 p] w fun e w' => e = .returned (.tuple #[.slice none 0 0, .int .i64 32]) ∧ w' = w := by
  have h2 := is32_calls add
  rw [show (decide (-2147483648 ≤ add) && decide (add ≤ 2147483647)) = true by simp [ha0, ha1]] at h2
  have h3 := width_calls k
  have h5 := value_calls (k := k) hs0 hs1 ha0 ha1 hp0 hp1
  rw [h4] at h5
  have hw := wd_le k
  clear h4
  go_enter Tryz.func51, Tryz.ntmps51
  go_wp2_with fail
  refine (h2 _).mono ?_
  rintro e w2 ⟨rfl, rfl⟩
  go_wp2_with fail
  refine (h3 _).mono ?_
  rintro e w3 ⟨rfl, rfl⟩
  go_wp2_with fail
  refine (h5 _).mono ?_
  rintro e w4 ⟨rfl, rfl⟩
  go_wp2
  go_ret2
  exact ⟨rfl, rfl⟩
set_option maxRecDepth 100000 in
set_option maxHeartbeats 1000000 in
theorem rapply_1 {b o n cap off : Nat} {q : Nat → Int} {k s add p R : Int} {w : World} (hn : n ≤ 20000) (hk1 : 1 ≤ k) (hk5 : k ≤ 5) (ha0 : -2147483648 ≤ add) (ha1 : add ≤ 2147483647) (hf : off + 1 ≤ n) (hw : wd k = 1)
    (h5 : ∀ w, Calls Tryz.prog 148 #[.int .i64 k, .int .u32 s, .int .i64 add, .int .u32 p] w fun e w' => e = .returned (.tuple #[.int .u32 R, .bool true]) ∧ w' = w) (hR0 : 0 ≤ R) (hR1 : R ≤ 4294967295)
    (hc : ∀ j, j < n → w.cell? ⟨b, o + j, none⟩ = some (.int .u8 (q j))) :
    Calls Tryz.prog 51 #[.slice (some ⟨b, o, none⟩) n cap, .int .i64 off, .int .i64 k, .int .u32 s, .int .i64 add, .int .u32 p] w (ApR q n off 1 (byteN R) w) := by
  have h2 := is32_calls add
  rw [show (decide (-2147483648 ≤ add) && decide (add ≤ 2147483647)) = true by simp [ha0, ha1]] at h2
  have hW := width_calls k
  rw [hw] at hW
  obtain ⟨i0, hi, hz0, hz1, hz2⟩ := info_parts info5
  have hown0 : (w.alloc (.cells #[] 5)).ownsRow w.heap.size 5 1 (.slice (some ⟨w.heap.size, 0, none⟩) 0 0) 0 [] := World.ownsRow_made w #[] 0 (Nat.le_refl _) (Nat.zero_le _) rfl
  have hbl0 : Below w.heap.size w (w.alloc (.cells #[] 5)) := (Below.refl _ _).alloc (Nat.le_refl _) _
  have hv1 : ∀ j u, (byV q n)[j]? = some u → (w.alloc (.cells #[] 5)).cell? ((⟨b, o, none⟩ : Addr).add j) = some u := fun j u hj => by
    obtain ⟨hj', rfl⟩ := byV_get hj
    rw [cell_add]
    exact (hbl0.cell (low_of_cell (hc j hj'))).trans (hc j hj')
  clear hc
  have hl := byV_len q n
  have hb1 := byV_one q n
  have hz := hbl0.size
  go_enter Tryz.func51, Tryz.ntmps51
  go_wp2_with fail
  refine (h2 _).mono ?_
  rintro e w2 ⟨rfl, rfl⟩
  go_wp2_with fail
  refine (hW _).mono ?_
  rintro e w3 ⟨rfl, rfl⟩
  go_wp2_with fail
  refine (h5 _).mono ?_
  rintro e w4 ⟨rfl, rfl⟩
  clear h2 h5
  go_wp2_with (at_builtin; refine wpList_append_own _ rfl _ _ 34 rfl w4.heap.size 5 i0 (.int .u8 0) 1 1 Tryz.underlying34 hi hz0 hz1 hz2 rfl (by decide) _ _ _ rfl hown0 ⟨b, o, none⟩ n cap (byV q n) rfl (by omega) hv1 hb1 (by unfold maxLen; omega) (by omega) hz ?_)
  intro v1 w1 hown1 hg1 hnn
  have hbl1 : Below w4.heap.size w4 w1 := hbl0.grown hg1 hz (fun k hk => by simp [Value.ownBlock] at hk; omega)
  clear hbl0 hown0 hv1 hg1
  have hv : v1 ≠ .slice none 0 0 := hnn
  obtain ⟨g, cap', rfl, hg, hO⟩ := ownB_of_row (n := n) (q := q) (by simpa using hown1) hv
  have hcn : n ≤ cap' := hO.cap.1
  have hcm : cap' ≤ maxLen := hO.cap.2
  unfold maxLen at hcm
  have hc0 := hO.cell (j := off) (by omega)
  have hf0 := hO.frozen off
  rw [← putB_add q off (byteN R)] at hO
  obtain ⟨h1, hb2⟩ := hO.put (u := R % 256) rfl
  have hbo1 := hbl1.trans (hb2.mono hg)
  simp only [Nat.add_zero] at h1 hbo1
  clear hown1 hnn hv hbl1 hb2 hO hi hz0 hz1 hz2 hz hl hb1
  go_wp2_with fail
  refine wp_loop_rounds 2 ?_
  rw [rounds_succ]
  go_wp2_with fail
  refine (hW _).mono ?_
  rintro e w50 ⟨rfl, rfl⟩
  go_wp2_with fail
  rw [rounds_succ]
  go_wp2_with fail
  refine (hW _).mono ?_
  rintro e w59 ⟨rfl, rfl⟩
  go_wp2_with fail
  go_ret2
  exact ⟨g, cap', rfl, hg, h1, hbo1⟩
set_option maxRecDepth 100000 in
set_option maxHeartbeats 1000000 in
theorem rapply_2 {b o n cap off : Nat} {q : Nat → Int} {k s add p R : Int} {w : World} (hn : n ≤ 20000) (hk1 : 1 ≤ k) (hk5 : k ≤ 5) (ha0 : -2147483648 ≤ add) (ha1 : add ≤ 2147483647) (hf : off + 2 ≤ n) (hw : wd k = 2)
    (h5 : ∀ w, Calls Tryz.prog 148 #[.int .i64 k, .int .u32 s, .int .i64 add, .int .u32 p] w fun e w' => e = .returned (.tuple #[.int .u32 R, .bool true]) ∧ w' = w) (hR0 : 0 ≤ R) (hR1 : R ≤ 4294967295)
    (hc : ∀ j, j < n → w.cell? ⟨b, o + j, none⟩ = some (.int .u8 (q j))) :
    Calls Tryz.prog 51 #[.slice (some ⟨b, o, none⟩) n cap, .int .i64 off, .int .i64 k, .int .u32 s, .int .i64 add, .int .u32 p] w (ApR q n off 2 (byteN R) w) := by
  have h2 := is32_calls add
  rw [show (decide (-2147483648 ≤ add) && decide (add ≤ 2147483647)) = true by simp [ha0, ha1]] at h2
  have hW := width_calls k
  rw [hw] at hW
  obtain ⟨i0, hi, hz0, hz1, hz2⟩ := info_parts info5
  have hown0 : (w.alloc (.cells #[] 5)).ownsRow w.heap.size 5 1 (.slice (some ⟨w.heap.size, 0, none⟩) 0 0) 0 [] := World.ownsRow_made w #[] 0 (Nat.le_refl _) (Nat.zero_le _) rfl
  have hbl0 : Below w.heap.size w (w.alloc (.cells #[] 5)) := (Below.refl _ _).alloc (Nat.le_refl _) _
  have hv1 : ∀ j u, (byV q n)[j]? = some u → (w.alloc (.cells #[] 5)).cell? ((⟨b, o, none⟩ : Addr).add j) = some u := fun j u hj => by
    obtain ⟨hj', rfl⟩ := byV_get hj
    rw [cell_add]
    exact (hbl0.cell (low_of_cell (hc j hj'))).trans (hc j hj')
  clear hc
  have hl := byV_len q n
  have hb1 := byV_one q n
  have hz := hbl0.size
  go_enter Tryz.func51, Tryz.ntmps51
  go_wp2_with fail
  refine (h2 _).mono ?_
  rintro e w2 ⟨rfl, rfl⟩
  go_wp2_with fail
  refine (hW _).mono ?_
  rintro e w3 ⟨rfl, rfl⟩
  go_wp2_with fail
  refine (h5 _).mono ?_
  rintro e w4 ⟨rfl, rfl⟩
  clear h2 h5
  go_wp2_with (at_builtin; refine wpList_append_own _ rfl _ _ 34 rfl w4.heap.size 5 i0 (.int .u8 0) 1 1 Tryz.underlying34 hi hz0 hz1 hz2 rfl (by decide) _ _ _ rfl hown0 ⟨b, o, none⟩ n cap (byV q n) rfl (by omega) hv1 hb1 (by unfold maxLen; omega) (by omega) hz ?_)
  intro v1 w1 hown1 hg1 hnn
  have hbl1 : Below w4.heap.size w4 w1 := hbl0.grown hg1 hz (fun k hk => by simp [Value.ownBlock] at hk; omega)
  clear hbl0 hown0 hv1 hg1
  have hv : v1 ≠ .slice none 0 0 := hnn
  obtain ⟨g, cap', rfl, hg, hO⟩ := ownB_of_row (n := n) (q := q) (by simpa using hown1) hv
  have hcn : n ≤ cap' := hO.cap.1
  have hcm : cap' ≤ maxLen := hO.cap.2
  unfold maxLen at hcm
  have hc0 := hO.cell (j := off) (by omega)
  have hf0 := hO.frozen off
  rw [← putB_add q off (byteN R)] at hO
  obtain ⟨h1, hb2⟩ := hO.put (u := R % 256) rfl
  have hbo1 := hbl1.trans (hb2.mono hg)
  simp only [Nat.add_zero] at h1 hbo1
  clear hown1 hnn hv hbl1 hb2 hO hi hz0 hz1 hz2 hz hl hb1
  go_wp2_with fail
  refine wp_loop_rounds 3 ?_
  rw [rounds_succ]
  go_wp2_with fail
  refine (hW _).mono ?_
  rintro e w50 ⟨rfl, rfl⟩
  go_wp2_with fail
  generalize w50.setCell ⟨g, off, none⟩ (.int .u8 (R % 256)) = v1 at *
  have hc1 := h1.cell (j := off + 1) (by omega)
  have hf1 := h1.frozen (off + 1)
  clear hc0 hf0
  obtain ⟨h2, hz2⟩ := h1.put (m := 1) (u := R / 256 % 256) (by show _ / _ % _ = _; omega)
  have hbo2 := hbo1.trans (hz2.mono hg)
  clear hz2 hbo1 h1
  rw [rounds_succ]
  go_wp2_with fail
  refine (hW _).mono ?_
  rintro e w51 ⟨rfl, rfl⟩
  go_wp2_with fail
  rw [rounds_succ]
  go_wp2_with fail
  refine (hW _).mono ?_
  rintro e w59 ⟨rfl, rfl⟩
  go_wp2_with fail
  go_ret2
  exact ⟨g, cap', rfl, hg, h2, hbo2⟩
set_option maxRecDepth 100000 in
set_option maxHeartbeats 1000000 in
theorem rapply_4 {b o n cap off : Nat} {q : Nat → Int} {k s add p R : Int} {w : World} (hn : n ≤ 20000) (hk1 : 1 ≤ k) (hk5 : k ≤ 5) (ha0 : -2147483648 ≤ add) (ha1 : add ≤ 2147483647) (hf : off + 4 ≤ n) (hw : wd k = 4)
    (h5 : ∀ w, Calls Tryz.prog 148 #[.int .i64 k, .int .u32 s, .int .i64 add, .int .u32 p] w fun e w' => e = .returned (.tuple #[.int .u32 R, .bool true]) ∧ w' = w) (hR0 : 0 ≤ R) (hR1 : R ≤ 4294967295)
    (hc : ∀ j, j < n → w.cell? ⟨b, o + j, none⟩ = some (.int .u8 (q j))) :
    Calls Tryz.prog 51 #[.slice (some ⟨b, o, none⟩) n cap, .int .i64 off, .int .i64 k, .int .u32 s, .int .i64 add, .int .u32 p] w (ApR q n off 4 (byteN R) w) := by
  have h2 := is32_calls add
  rw [show (decide (-2147483648 ≤ add) && decide (add ≤ 2147483647)) = true by simp [ha0, ha1]] at h2
  have hW := width_calls k
  rw [hw] at hW
  obtain ⟨i0, hi, hz0, hz1, hz2⟩ := info_parts info5
  have hown0 : (w.alloc (.cells #[] 5)).ownsRow w.heap.size 5 1 (.slice (some ⟨w.heap.size, 0, none⟩) 0 0) 0 [] := World.ownsRow_made w #[] 0 (Nat.le_refl _) (Nat.zero_le _) rfl
  have hbl0 : Below w.heap.size w (w.alloc (.cells #[] 5)) := (Below.refl _ _).alloc (Nat.le_refl _) _
  have hv1 : ∀ j u, (byV q n)[j]? = some u → (w.alloc (.cells #[] 5)).cell? ((⟨b, o, none⟩ : Addr).add j) = some u := fun j u hj => by
    obtain ⟨hj', rfl⟩ := byV_get hj
    rw [cell_add]
    exact (hbl0.cell (low_of_cell (hc j hj'))).trans (hc j hj')
  clear hc
  have hl := byV_len q n
  have hb1 := byV_one q n
  have hz := hbl0.size
  go_enter Tryz.func51, Tryz.ntmps51
  go_wp2_with fail
  refine (h2 _).mono ?_
  rintro e w2 ⟨rfl, rfl⟩
  go_wp2_with fail
  refine (hW _).mono ?_
  rintro e w3 ⟨rfl, rfl⟩
  go_wp2_with fail
  refine (h5 _).mono ?_
  rintro e w4 ⟨rfl, rfl⟩
  clear h2 h5
  go_wp2_with (at_builtin; refine wpList_append_own _ rfl _ _ 34 rfl w4.heap.size 5 i0 (.int .u8 0) 1 1 Tryz.underlying34 hi hz0 hz1 hz2 rfl (by decide) _ _ _ rfl hown0 ⟨b, o, none⟩ n cap (byV q n) rfl (by omega) hv1 hb1 (by unfold maxLen; omega) (by omega) hz ?_)
  intro v1 w1 hown1 hg1 hnn
  have hbl1 : Below w4.heap.size w4 w1 := hbl0.grown hg1 hz (fun k hk => by simp [Value.ownBlock] at hk; omega)
  clear hbl0 hown0 hv1 hg1
  have hv : v1 ≠ .slice none 0 0 := hnn
  obtain ⟨g, cap', rfl, hg, hO⟩ := ownB_of_row (n := n) (q := q) (by simpa using hown1) hv
  have hcn : n ≤ cap' := hO.cap.1
  have hcm : cap' ≤ maxLen := hO.cap.2
  unfold maxLen at hcm
  have hc0 := hO.cell (j := off) (by omega)
  have hf0 := hO.frozen off
  rw [← putB_add q off (byteN R)] at hO
  obtain ⟨h1, hb2⟩ := hO.put (u := R % 256) rfl
  have hbo1 := hbl1.trans (hb2.mono hg)
  simp only [Nat.add_zero] at h1 hbo1
  clear hown1 hnn hv hbl1 hb2 hO hi hz0 hz1 hz2 hz hl hb1
  go_wp2_with fail
  refine wp_loop_rounds 5 ?_
  rw [rounds_succ]
  go_wp2_with fail
  refine (hW _).mono ?_
  rintro e w50 ⟨rfl, rfl⟩
  go_wp2_with fail
  generalize w50.setCell ⟨g, off, none⟩ (.int .u8 (R % 256)) = v1 at *
  have hc1 := h1.cell (j := off + 1) (by omega)
  have hf1 := h1.frozen (off + 1)
  clear hc0 hf0
  obtain ⟨h2, hz2⟩ := h1.put (m := 1) (u := R / 256 % 256) (by show _ / _ % _ = _; omega)
  have hbo2 := hbo1.trans (hz2.mono hg)
  clear hz2 hbo1 h1
  rw [rounds_succ]
  go_wp2_with fail
  refine (hW _).mono ?_
  rintro e w51 ⟨rfl, rfl⟩
  go_wp2_with fail
  generalize w51.setCell ⟨g, off + 1, none⟩ (.int .u8 (R / 256 % 256)) = v2 at *
  have hc2 := h2.cell (j := off + 2) (by omega)
  have hf2 := h2.frozen (off + 2)
  clear hc1 hf1
  obtain ⟨h3, hz3⟩ := h2.put (m := 2) (u := R / 256 / 256 % 256) (by show _ / _ % _ = _; omega)
  have hbo3 := hbo2.trans (hz3.mono hg)
  clear hz3 hbo2 h2
  rw [rounds_succ]
  go_wp2_with fail
  refine (hW _).mono ?_
  rintro e w52 ⟨rfl, rfl⟩
  go_wp2_with fail
  generalize w52.setCell ⟨g, off + 2, none⟩ (.int .u8 (R / 256 / 256 % 256)) = v3 at *
  have hc3 := h3.cell (j := off + 3) (by omega)
  have hf3 := h3.frozen (off + 3)
  clear hc2 hf2
  obtain ⟨h4, hz4⟩ := h3.put (m := 3) (u := R / 256 / 256 / 256) (by show _ / _ % _ = _; omega)
  have hbo4 := hbo3.trans (hz4.mono hg)
  clear hz4 hbo3 h3
  rw [rounds_succ]
  go_wp2_with fail
  refine (hW _).mono ?_
  rintro e w53 ⟨rfl, rfl⟩
  go_wp2_with fail
  rw [rounds_succ]
  go_wp2_with fail
  refine (hW _).mono ?_
  rintro e w59 ⟨rfl, rfl⟩
  go_wp2_with fail
  go_ret2
  exact ⟨g, cap', rfl, hg, h4, hbo4⟩
end Go.Ev
