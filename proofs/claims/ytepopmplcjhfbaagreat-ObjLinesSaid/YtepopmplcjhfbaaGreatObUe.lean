import Derived.Test.YtepopmplcjhfbaaGreatObRe4
import Derived.Test.YtepopmplcjhfbaaGreatObUd
import Derived.Test.YtepopmplcjhfbaaGreatObGvw
set_option linter.unusedSectionVars false
set_option linter.unusedVariables false
set_option linter.unusedSimpArgs false
set_option linter.unnecessarySimpa false
/-
  Stage 3: ObjLines' law.
-/
namespace Go.Ev
open Go.RowKit Go.Proofs Go.Rw
set_option maxRecDepth 100000 in
set_option maxHeartbeats 1000000 in
theorem runpack_none {w : World} {a : Option Addr} {c : Nat} : Calls Tryz.prog 31 #[.slice a 0 c] w (UpR [] w) := by
  obtain ⟨W2, hW2⟩ : ∃ W2 : World, W2 = (w.alloc (.cells #[.slice a 0 c, .int .i64 0, .int .i64 (-1)] 129)).alloc (.cells #[.int .i64 0, .int .i64 0, .int .i64 0, .int .i64 0] 48) := ⟨_, rfl⟩
  have hR : RdB W2 w.heap.size a 0 c 0 (-1) := by rw [hW2]; exact (heap_alloc_old _ _ (by simp)).trans (heap_alloc_new w _)
  have hb : Below w.heap.size w W2 := by rw [hW2]; exact ((Below.refl _ w).alloc (Nat.le_refl _) _).alloc (by simp) _
  obtain ⟨r0, r1, r2⟩ := hR.cells
  have hT := table_x (w := W2) (s := .slice none 0 0) (l := []) ⟨none, 0, rfl, .inl rfl⟩ (by simp) (by simp)
  rw [dec_yes tab_nil] at hT
  go_enter Tryz.func31, Tryz.ntmps31
  go_wp2_with fail
  rw [← hW2]
  clear hW2 hR
  refine wp_loop_rounds 1 ?_
  rw [rounds_succ]
  go_wp2_with (go_at_call 44; refine hT.mono ?_; rintro e w3 ⟨rfl, hb3⟩)
  go_ret2
  exact ⟨bel_then hb (Nat.le_refl _) hb3, .inr ⟨[], _, rfl, rfl, ⟨none, 0, rfl, .inl rfl⟩⟩⟩
theorem unpack_both {w : World} {a : Option Addr} {n c : Nat} {q : Nat → Int} (hb : BytesAt w a n q) (hi : ∀ j, InB (q j)) (hnc : n ≤ c) (hc : c ≤ 140737488351232) :
    ∃ all : List Nat, (∀ x ∈ all, x < 256) ∧ (∀ w', Below w.heap.size w w' → Calls Tryz.prog 30 #[.slice a n c] w' (UpR all w')) ∧ (∀ w', Below w.heap.size w w' → Calls Tryz.prog 31 #[.slice a n c] w' (UpR all w')) := by
  by_cases hn : n = 0
  · subst hn
    exact ⟨[], by simp, fun w' _ => unpack_none, fun w' _ => runpack_none⟩
  · rcases hb with ⟨_, h⟩ | ⟨b, o, rfl, h⟩
    · exact absurd h hn
    · have hall : ∀ w', Below w.heap.size w w' → AllAt w' b o n ((List.range n).map fun j => (q j).toNat) := fun w' hw' => by
        refine ⟨by simp, fun x hx => ?_, fun j hj => ?_⟩
        · obtain ⟨j, _, rfl⟩ := List.mem_map.1 hx
          have := hi j
          unfold InB at this
          omega
        · have h2 := (hw'.cell (low_of_cell (h j hj))).trans (h j hj)
          rw [h2]
          have h3 := hi j
          unfold InB at h3
          have e : (((List.range n).map fun j => (q j).toNat).getD j 0 : Nat) = (q j).toNat := by simp [List.getD, hj]
          rw [e, Int.toNat_of_nonneg h3.1]
      have hlow : ∀ w', Below w.heap.size w w' → b < w'.heap.size := fun w' hw' => Nat.lt_of_lt_of_le (low_of_cell (h 0 (by omega))) hw'.size
      exact ⟨_, (hall w (Below.refl _ _)).2.1, fun w' hw' => unpack_some (hall w' hw') (hlow w' hw') (by omega) hnc (by omega), fun w' hw' => runpack_c (hall w' hw') (hlow w' hw') hnc (by omega)⟩
theorem bytes_of_row {W : World} {base : Nat} {v : Value} {xs : List Int} (h : W.ownsRow base 5 1 v xs.length (byL xs)) : ∃ a c, v = .slice a xs.length c ∧ BytesAt W a xs.length (fun j => xs.getD j 0) := by
  have h' := h
  rcases h'.2 with ⟨rfl, h0⟩ | ⟨g, cap, cur, rfl, _, hg, _⟩
  · exact ⟨none, 0, by rw [h0], .inl ⟨rfl, h0⟩⟩
  · refine ⟨_, cap, rfl, .inr ⟨g, 0, rfl, fun j hj => ?_⟩⟩
    have := h.cells (g := g) rfl j (.int .u8 (xs.getD j 0)) (by simp [byL, List.getD, hj])
    rwa [cell_add] at this
set_option maxRecDepth 100000 in
set_option maxHeartbeats 4000000 in
theorem lines_calls {w : World} {s : Value} {l : List LineT} (h : RowsAt w s LineT.cells 4 l) (hr : ∀ x ∈ l, x.R) (hl : l.length ≤ 140737488351232) {ba : Option Addr} {n c : Nat} {q : Nat → Int} (hb : BytesAt w ba n q) (hi : ∀ j, InB (q j)) (hnc : n ≤ c) (hc : c ≤ 140737488351232) :
    Calls Tryz.prog 5 #[s, .slice ba n c] w (TrueS w) := by
  obtain ⟨a, c1, rfl⟩ := rows_slice h
  obtain ⟨all, ha, hU, hV⟩ := unpack_both hb hi hnc hc
  have hT4 : ∀ tab, unpackF all = some tab → tab.length ≤ 4000 := fun tab e => (unpack_short e ha).1.1
  go_enter Tryz.func5, Tryz.ntmps5
  go_wp2_with fail
  refine (sane_calls _).mono ?_
  rintro e w1 ⟨rfl, hb1⟩
  by_cases z1 : (5000 : Int) < (l.length : Int)
  · go_wp2
    go_ret
    exact ⟨rfl, hb1⟩
  by_cases z2 : (20000 : Int) < (n : Int)
  · go_wp2
    go_ret
    exact ⟨rfl, hb1⟩
  go_wp2_with fail
  refine (pack_c (h.below hb1) hl).mono ?_
  rintro e w2 ⟨hb2, hp⟩
  have hB2 := bel_then hb1 (Nat.le_refl _) hb2
  have hQ := rpack_c (h.below hB2) hr hl
  have hE0 := fun W => bequal (w := W) (a := none) (b := none) (n := 0) (c1 := 0) (c2 := 0) (q := fun _ => 0) (.inl ⟨rfl, rfl⟩) (.inl ⟨rfl, rfl⟩)
  have hL0 := fun W => equal_lines (w := W) (s1 := .slice none 0 0) (s2 := .slice none 0 0) (l := []) (by simp) ⟨none, 0, rfl, .inl rfl⟩ ⟨none, 0, rfl, .inl rfl⟩
  rcases hp with ⟨ht, rfl⟩ | ⟨ht, v, rfl, hown⟩
  · clear hb2 hb1
    go_wp2_with fail
    refine hQ.mono ?_
    rintro e w3 ⟨hb3, (⟨-, rfl⟩ | ⟨ht2, -⟩)⟩
    · have hB3 := bel_then hB2 (Nat.le_refl _) hb3
      clear hb3 hB2 hQ
      go_wp2_with fail
      refine (hU _ hB3).mono ?_
      rintro e w4 ⟨hb4, hu4⟩
      have hB4 := bel_then hB3 (Nat.le_refl _) hb4
      rcases hu4 with ⟨hu, rfl⟩ | ⟨tab, tv, hu, rfl, hrow⟩
      · go_wp2_with fail
        refine (hV _ hB4).mono ?_
        rintro e w5 ⟨hb5, (⟨-, rfl⟩ | ⟨tab2, tv2, hu2, -, -⟩)⟩
        · have hB5 := bel_then hB4 (Nat.le_refl _) hb5
          clear hU hV hB3 hB4 hb4 hb5
          go_wp2_with (first | (go_at_call 23; refine (hE0 _).mono ?_; rintro e w6 ⟨rfl, rfl⟩) | (go_at_call 32; refine (hL0 _).mono ?_; rintro e w7 ⟨rfl, hb7⟩))
          go_ret
          exact ⟨rfl, bel_then hB5 (Nat.le_refl _) hb7⟩
        · rw [hu] at hu2; cases hu2
      · obtain ⟨xa, xc, rfl⟩ := rows_slice hrow
        go_wp2_with fail
        refine (hV _ hB4).mono ?_
        rintro e w5 ⟨hb5, (⟨hu2, -⟩ | ⟨tab2, tv2, hu2, rfl, hrow2⟩)⟩
        · rw [hu] at hu2; cases hu2
        · rw [hu] at hu2
          cases hu2
          have hB5 := bel_then hB4 (Nat.le_refl _) hb5
          have hL := equal_lines (by have := hT4 _ hu; omega) (hrow.below hb5) hrow2
          obtain ⟨xa2, xc2, rfl⟩ := rows_slice hrow2
          clear hU hV hB3 hB4 hb4 hb5 hrow hrow2 hu
          go_wp2_with (first | (go_at_call 23; refine (hE0 _).mono ?_; rintro e w6 ⟨rfl, rfl⟩) | (go_at_call 32; refine hL.mono ?_; rintro e w7 ⟨rfl, hb7⟩))
          go_ret
          exact ⟨rfl, bel_then hB5 (Nat.le_refl _) hb7⟩
    · exact absurd ht2 ht
  · obtain ⟨va, vc, rfl, hva⟩ := bytes_of_row hown
    have ht2 := Lib.hid ht
    clear hb2 hb1 hown ht
    go_wp2_with fail
    refine hQ.mono ?_
    rintro e w3 ⟨hb3, (⟨ht3, -⟩ | ⟨-, v2, rfl, hown2⟩)⟩
    · exact absurd ht2.out ht3
    · have hB3 := bel_then hB2 (Nat.le_refl _) hb3
      obtain ⟨va2, vc2, rfl, hva2⟩ := bytes_of_row hown2
      have hva3 := hva.below hb3
      clear hb3 hB2 hQ hown2 hva
      go_wp2_with fail
      refine (hU _ hB3).mono ?_
      rintro e w4 ⟨hb4, hu4⟩
      have hB4 := bel_then hB3 (Nat.le_refl _) hb4
      have hva4 := hva3.below hb4
      have hva5 := hva2.below hb4
      clear hva3 hva2
      rcases hu4 with ⟨hu, rfl⟩ | ⟨tab, tv, hu, rfl, hrow⟩
      · go_wp2_with fail
        refine (hV _ hB4).mono ?_
        rintro e w5 ⟨hb5, (⟨-, rfl⟩ | ⟨tab2, tv2, hu2, -, -⟩)⟩
        · have hB5 := bel_then hB4 (Nat.le_refl _) hb5
          have hE := bequal (c1 := vc) (c2 := vc2) (hva4.below hb5) (hva5.below hb5)
          clear hU hV hB3 hB4 hb4 hb5 hva4 hva5
          go_wp2_with (first | (go_at_call 23; refine hE.mono ?_; rintro e w6 ⟨rfl, rfl⟩) | (go_at_call 32; refine (hL0 _).mono ?_; rintro e w7 ⟨rfl, hb7⟩))
          go_ret
          exact ⟨rfl, bel_then hB5 (Nat.le_refl _) hb7⟩
        · rw [hu] at hu2; cases hu2
      · obtain ⟨xa, xc, rfl⟩ := rows_slice hrow
        go_wp2_with fail
        refine (hV _ hB4).mono ?_
        rintro e w5 ⟨hb5, (⟨hu2, -⟩ | ⟨tab2, tv2, hu2, rfl, hrow2⟩)⟩
        · rw [hu] at hu2; cases hu2
        · rw [hu] at hu2
          cases hu2
          have hB5 := bel_then hB4 (Nat.le_refl _) hb5
          have hE := bequal (c1 := vc) (c2 := vc2) (hva4.below hb5) (hva5.below hb5)
          have hL := equal_lines (by have := hT4 _ hu; omega) (hrow.below hb5) hrow2
          obtain ⟨xa2, xc2, rfl⟩ := rows_slice hrow2
          clear hU hV hB3 hB4 hb4 hb5 hrow hrow2 hva4 hva5 hu
          go_wp2_with (first | (go_at_call 23; refine hE.mono ?_; rintro e w6 ⟨rfl, rfl⟩) | (go_at_call 32; refine hL.mono ?_; rintro e w7 ⟨rfl, hb7⟩))
          go_ret
          exact ⟨rfl, bel_then hB5 (Nat.le_refl _) hb7⟩
end Go.Ev
