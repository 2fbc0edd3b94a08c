import Derived.Test.YtepopmplcjhfbaaGreatObInt
set_option linter.unusedSectionVars false
set_option linter.unusedVariables false
set_option linter.unusedSimpArgs false
/-
  Stage 3: what the program's Apply answers.
-/
namespace Go.Ev
open Go.RowKit Go.Proofs
def kdB (k : Int) : Bool := decide (1 ≤ k) && decide (k ≤ 5)
def adB (add : Int) : Bool := decide (-2147483648 ≤ add) && decide (add ≤ 2147483647)
def fdB (n : Nat) (off k : Int) : Bool := decide (0 ≤ off) && decide (off + wd k ≤ n)
def okA (n : Nat) (off k add : Int) : Bool := kdB k && adB add && fdB n off k
def val (k v p : Int) : Int := if k = 4 then v - p else if k = 5 then v % 4294967296 / 256 else v
theorem OwnB.cap {w : World} {g n cap : Nat} {q : Nat → Int} (h : OwnB w g n cap q) : n ≤ cap ∧ cap ≤ maxLen := by
  obtain ⟨_, _, h1, h2, _⟩ := h
  exact ⟨h1, h2⟩
set_option maxRecDepth 100000 in
set_option maxHeartbeats 1000000 in
theorem apply_no {a : Option Addr} {n cap : Nat} {off k s add p : Int} (hn : n ≤ 20000) (h : okA n off k add = false) (w : World) :
    Calls Tryz.prog 50 #[.slice a n cap, .int .i64 off, .int .i64 k, .int .u32 s, .int .i64 add, .int .u32 p] w fun e w' => e = .returned (.tuple #[.slice none 0 0, .int .i64 1]) ∧ w' = w := by
  have h1 := kind_calls k
  have h2 := addend_calls add
  have h3 := field_calls a n cap off k hn
  change ∀ w, Calls _ _ _ _ fun e w' => e = .returned (.bool (kdB k)) ∧ _ at h1
  change ∀ w, Calls _ _ _ _ fun e w' => e = .returned (.bool (adB add)) ∧ _ at h2
  change ∀ w, Calls _ _ _ _ fun e w' => e = .returned (.bool (fdB n off k)) ∧ _ at h3
  unfold okA at h
  generalize kdB k = x1 at *
  generalize adB add = x2 at *
  generalize fdB n off k = x3 at *
  go_enter Tryz.func50, Tryz.ntmps50
  go_wp2_with fail
  refine (h1 _).mono ?_
  rintro e w' ⟨rfl, rfl⟩
  cases x1
  · go_wp2
    go_ret2
    exact ⟨rfl, rfl⟩
  go_wp2_with fail
  refine (h2 _).mono ?_
  rintro e w' ⟨rfl, rfl⟩
  cases x2
  · go_wp2
    go_ret2
    exact ⟨rfl, rfl⟩
  go_wp2_with fail
  refine (h3 _).mono ?_
  rintro e w' ⟨rfl, rfl⟩
  cases x3
  · go_wp2
    go_ret2
    exact ⟨rfl, rfl⟩
  simp at h
set_option maxRecDepth 100000 in
set_option maxHeartbeats 1000000 in
theorem apply_rng {a : Option Addr} {n cap : Nat} {off k s add p : Int} (hn : n ≤ 20000) (h : okA n off k add = true) (h4 : okR (s + add) k = false) (hs0 : 0 ≤ s) (hs1 : s ≤ 4294967295) (w : World) :
    Calls Tryz.prog 50 #[.slice a n cap, .int .i64 off, .int .i64 k, .int .u32 s, .int .i64 add, .int .u32 p] w fun e w' => e = .returned (.tuple #[.slice none 0 0, .int .i64 32]) ∧ w' = w := by
  have h1 := kind_calls k
  have h2 := addend_calls add
  have h3 := field_calls a n cap off k hn
  have h5 := inField_calls (s + add) k
  change ∀ w, Calls _ _ _ _ fun e w' => e = .returned (.bool (kdB k)) ∧ _ at h1
  change ∀ w, Calls _ _ _ _ fun e w' => e = .returned (.bool (adB add)) ∧ _ at h2
  change ∀ w, Calls _ _ _ _ fun e w' => e = .returned (.bool (fdB n off k)) ∧ _ at h3
  rw [h4] at h5
  simp only [okA, Bool.and_eq_true] at h
  have ha : -2147483648 ≤ add ∧ add ≤ 2147483647 := by simpa [adB] using h.1.2
  rw [h.1.1] at h1
  rw [h.1.2] at h2
  rw [h.2] at h3
  clear h h4
  obtain ⟨ha0, ha1⟩ := ha
  go_enter Tryz.func50, Tryz.ntmps50
  go_wp2_with fail
  refine (h1 _).mono ?_
  rintro e w' ⟨rfl, rfl⟩
  go_wp2_with fail
  refine (h2 _).mono ?_
  rintro e w' ⟨rfl, rfl⟩
  go_wp2_with fail
  refine (h3 _).mono ?_
  rintro e w' ⟨rfl, rfl⟩
  go_wp2_with fail
  refine (h5 _).mono ?_
  rintro e w' ⟨rfl, rfl⟩
  go_wp2
  go_ret2
  exact ⟨rfl, rfl⟩
/-- What Apply answers where the field is there and the value fits it. -/
def ApR (q : Nat → Int) (n : Nat) (off : Nat) (m : Nat) (F : Nat → Int) (w : World) (e : Ending) (w' : World) : Prop :=
  ∃ g cap, e = .returned (.tuple #[.slice (some ⟨g, 0, none⟩) n cap, .int .i64 0]) ∧ w.heap.size ≤ g ∧ OwnB w' g n cap (putB q off m F) ∧ Below w.heap.size w w'
set_option maxRecDepth 100000 in
set_option maxHeartbeats 1000000 in
theorem apply_k1 {b o n cap off : Nat} {q : Nat → Int} {s add p : Int} {w : World} (hn : n ≤ 20000) (ha0 : -2147483648 ≤ add) (ha1 : add ≤ 2147483647) (hf : off + 4 ≤ n) (h4 : okR (s + add) 1 = true) (hs0 : 0 ≤ s) (hs1 : s ≤ 4294967295) (hp0 : 0 ≤ p) (hp1 : p ≤ 4294967295)
    (hc : ∀ j, j < n → w.cell? ⟨b, o + j, none⟩ = some (.int .u8 (q j))) :
    Calls Tryz.prog 50 #[.slice (some ⟨b, o, none⟩) n cap, .int .i64 off, .int .i64 1, .int .u32 s, .int .i64 add, .int .u32 p] w (ApR q n off 4 (byteN (s + add)) w) := by
  have h1 : ∀ w, Calls Tryz.prog 140 #[.int .i64 1] w fun e w' => e = .returned (.bool true) ∧ w' = w := kind_calls 1
  have h2 := addend_calls add
  rw [show (decide (-2147483648 ≤ add) && decide (add ≤ 2147483647)) = true by simp [ha0, ha1]] at h2
  have h3 := field_calls (some ⟨b, o, none⟩) n cap off 1 hn
  rw [show (decide (0 ≤ (off : Int)) && decide ((off : Int) + (wd 1 : Nat) ≤ (n : Int))) = true by simp [wd]; omega] at h3
  have h5 := inField_calls (s + add) 1
  have h6 := bclone_some (cap := cap) (n := n) (by omega) hc
  have h7 : ∀ w, Calls Tryz.prog 145 #[.int .i64 1] w fun e w' => e = .returned (.int .i64 4) ∧ w' = w := size_calls 1
  rw [h4] at h5
  clear h4 hc
  go_enter Tryz.func50, Tryz.ntmps50
  go_wp2_with fail
  refine (h1 _).mono ?_
  rintro e w' ⟨rfl, rfl⟩
  go_wp2_with fail
  refine (h2 _).mono ?_
  rintro e w' ⟨rfl, rfl⟩
  go_wp2_with fail
  refine (h3 _).mono ?_
  rintro e w' ⟨rfl, rfl⟩
  go_wp2_with fail
  refine (h5 _).mono ?_
  rintro e w' ⟨rfl, rfl⟩
  clear h1 h2 h3 h5
  go_wp2_with fail
  refine h6.mono ?_
  rintro e w1 ⟨g, cap', rfl, hg, hO, hb⟩
  clear h6
  go_wp2_with fail
  refine (h7 _).mono ?_
  rintro e w5 ⟨rfl, rfl⟩
  clear h7
  have hcn : n ≤ cap' := hO.cap.1
  have hcm : cap' ≤ maxLen := hO.cap.2
  unfold maxLen at hcm
  go_wp2_with fail
  refine (put4 hO (by omega)).mono ?_
  rintro e w2 ⟨⟨r, rfl⟩, hO2, hb2⟩
  have hb3 : Below w'.heap.size w' w2 := hb.trans (hb2.mono hg)
  clear hO hb hb2
  go_wp2
  go_ret2
  exact ⟨g, cap', rfl, hg, hO2, hb3⟩
set_option maxRecDepth 100000 in
set_option maxHeartbeats 1000000 in
theorem apply_k2 {b o n cap off : Nat} {q : Nat → Int} {s add p : Int} {w : World} (hn : n ≤ 20000) (ha0 : -2147483648 ≤ add) (ha1 : add ≤ 2147483647) (hf : off + 2 ≤ n) (h4 : okR (s + add) 2 = true) (hs0 : 0 ≤ s) (hs1 : s ≤ 4294967295) (hp0 : 0 ≤ p) (hp1 : p ≤ 4294967295)
    (hc : ∀ j, j < n → w.cell? ⟨b, o + j, none⟩ = some (.int .u8 (q j))) :
    Calls Tryz.prog 50 #[.slice (some ⟨b, o, none⟩) n cap, .int .i64 off, .int .i64 2, .int .u32 s, .int .i64 add, .int .u32 p] w (ApR q n off 2 (byteN (s + add)) w) := by
  have h1 : ∀ w, Calls Tryz.prog 140 #[.int .i64 2] w fun e w' => e = .returned (.bool true) ∧ w' = w := kind_calls 2
  have h2 := addend_calls add
  rw [show (decide (-2147483648 ≤ add) && decide (add ≤ 2147483647)) = true by simp [ha0, ha1]] at h2
  have h3 := field_calls (some ⟨b, o, none⟩) n cap off 2 hn
  rw [show (decide (0 ≤ (off : Int)) && decide ((off : Int) + (wd 2 : Nat) ≤ (n : Int))) = true by simp [wd]; omega] at h3
  have h5 := inField_calls (s + add) 2
  have h6 := bclone_some (cap := cap) (n := n) (by omega) hc
  have h7 : ∀ w, Calls Tryz.prog 145 #[.int .i64 2] w fun e w' => e = .returned (.int .i64 2) ∧ w' = w := size_calls 2
  rw [h4] at h5
  clear h4 hc
  go_enter Tryz.func50, Tryz.ntmps50
  go_wp2_with fail
  refine (h1 _).mono ?_
  rintro e w' ⟨rfl, rfl⟩
  go_wp2_with fail
  refine (h2 _).mono ?_
  rintro e w' ⟨rfl, rfl⟩
  go_wp2_with fail
  refine (h3 _).mono ?_
  rintro e w' ⟨rfl, rfl⟩
  go_wp2_with fail
  refine (h5 _).mono ?_
  rintro e w' ⟨rfl, rfl⟩
  clear h1 h2 h3 h5
  go_wp2_with fail
  refine h6.mono ?_
  rintro e w1 ⟨g, cap', rfl, hg, hO, hb⟩
  clear h6
  go_wp2_with fail
  refine (h7 _).mono ?_
  rintro e w5 ⟨rfl, rfl⟩
  clear h7
  have hcn : n ≤ cap' := hO.cap.1
  have hcm : cap' ≤ maxLen := hO.cap.2
  unfold maxLen at hcm
  go_wp2_with fail
  refine (put2 hO (by omega)).mono ?_
  rintro e w2 ⟨⟨r, rfl⟩, hO2, hb2⟩
  have hb3 : Below w'.heap.size w' w2 := hb.trans (hb2.mono hg)
  clear hO hb hb2
  go_wp2
  go_ret2
  exact ⟨g, cap', rfl, hg, hO2, hb3⟩
set_option maxRecDepth 100000 in
set_option maxHeartbeats 1000000 in
theorem apply_k3 {b o n cap off : Nat} {q : Nat → Int} {s add p : Int} {w : World} (hn : n ≤ 20000) (ha0 : -2147483648 ≤ add) (ha1 : add ≤ 2147483647) (hf : off + 1 ≤ n) (h4 : okR (s + add) 3 = true) (hs0 : 0 ≤ s) (hs1 : s ≤ 4294967295) (hp0 : 0 ≤ p) (hp1 : p ≤ 4294967295)
    (hc : ∀ j, j < n → w.cell? ⟨b, o + j, none⟩ = some (.int .u8 (q j))) :
    Calls Tryz.prog 50 #[.slice (some ⟨b, o, none⟩) n cap, .int .i64 off, .int .i64 3, .int .u32 s, .int .i64 add, .int .u32 p] w (ApR q n off 1 (byteN (s + add)) w) := by
  have h1 : ∀ w, Calls Tryz.prog 140 #[.int .i64 3] w fun e w' => e = .returned (.bool true) ∧ w' = w := kind_calls 3
  have h2 := addend_calls add
  rw [show (decide (-2147483648 ≤ add) && decide (add ≤ 2147483647)) = true by simp [ha0, ha1]] at h2
  have h3 := field_calls (some ⟨b, o, none⟩) n cap off 3 hn
  rw [show (decide (0 ≤ (off : Int)) && decide ((off : Int) + (wd 3 : Nat) ≤ (n : Int))) = true by simp [wd]; omega] at h3
  have h5 := inField_calls (s + add) 3
  have h6 := bclone_some (cap := cap) (n := n) (by omega) hc
  have h7 : ∀ w, Calls Tryz.prog 145 #[.int .i64 3] w fun e w' => e = .returned (.int .i64 1) ∧ w' = w := size_calls 3
  rw [h4] at h5
  clear h4 hc
  go_enter Tryz.func50, Tryz.ntmps50
  go_wp2_with fail
  refine (h1 _).mono ?_
  rintro e w' ⟨rfl, rfl⟩
  go_wp2_with fail
  refine (h2 _).mono ?_
  rintro e w' ⟨rfl, rfl⟩
  go_wp2_with fail
  refine (h3 _).mono ?_
  rintro e w' ⟨rfl, rfl⟩
  go_wp2_with fail
  refine (h5 _).mono ?_
  rintro e w' ⟨rfl, rfl⟩
  clear h1 h2 h3 h5
  go_wp2_with fail
  refine h6.mono ?_
  rintro e w1 ⟨g, cap', rfl, hg, hO, hb⟩
  clear h6
  go_wp2_with fail
  refine (h7 _).mono ?_
  rintro e w5 ⟨rfl, rfl⟩
  clear h7
  have hcn : n ≤ cap' := hO.cap.1
  have hcm : cap' ≤ maxLen := hO.cap.2
  unfold maxLen at hcm
  go_wp2_with fail
  refine (put1 hO (by omega)).mono ?_
  rintro e w2 ⟨⟨r, rfl⟩, hO2, hb2⟩
  have hb3 : Below w'.heap.size w' w2 := hb.trans (hb2.mono hg)
  clear hO hb hb2
  go_wp2
  go_ret2
  exact ⟨g, cap', rfl, hg, hO2, hb3⟩
set_option maxRecDepth 100000 in
set_option maxHeartbeats 1000000 in
theorem apply_k4 {b o n cap off : Nat} {q : Nat → Int} {s add p : Int} {w : World} (hn : n ≤ 20000) (ha0 : -2147483648 ≤ add) (ha1 : add ≤ 2147483647) (hf : off + 4 ≤ n) (h4 : okR (s + add) 4 = true) (hs0 : 0 ≤ s) (hs1 : s ≤ 4294967295) (hp0 : 0 ≤ p) (hp1 : p ≤ 4294967295)
    (hc : ∀ j, j < n → w.cell? ⟨b, o + j, none⟩ = some (.int .u8 (q j))) :
    Calls Tryz.prog 50 #[.slice (some ⟨b, o, none⟩) n cap, .int .i64 off, .int .i64 4, .int .u32 s, .int .i64 add, .int .u32 p] w (ApR q n off 4 (byteN (s + add - p)) w) := by
  have h1 : ∀ w, Calls Tryz.prog 140 #[.int .i64 4] w fun e w' => e = .returned (.bool true) ∧ w' = w := kind_calls 4
  have h2 := addend_calls add
  rw [show (decide (-2147483648 ≤ add) && decide (add ≤ 2147483647)) = true by simp [ha0, ha1]] at h2
  have h3 := field_calls (some ⟨b, o, none⟩) n cap off 4 hn
  rw [show (decide (0 ≤ (off : Int)) && decide ((off : Int) + (wd 4 : Nat) ≤ (n : Int))) = true by simp [wd]; omega] at h3
  have h5 := inField_calls (s + add) 4
  have h6 := bclone_some (cap := cap) (n := n) (by omega) hc
  have h7 : ∀ w, Calls Tryz.prog 145 #[.int .i64 4] w fun e w' => e = .returned (.int .i64 4) ∧ w' = w := size_calls 4
  rw [h4] at h5
  clear h4 hc
  go_enter Tryz.func50, Tryz.ntmps50
  go_wp2_with fail
  refine (h1 _).mono ?_
  rintro e w' ⟨rfl, rfl⟩
  go_wp2_with fail
  refine (h2 _).mono ?_
  rintro e w' ⟨rfl, rfl⟩
  go_wp2_with fail
  refine (h3 _).mono ?_
  rintro e w' ⟨rfl, rfl⟩
  go_wp2_with fail
  refine (h5 _).mono ?_
  rintro e w' ⟨rfl, rfl⟩
  clear h1 h2 h3 h5
  go_wp2_with fail
  refine h6.mono ?_
  rintro e w1 ⟨g, cap', rfl, hg, hO, hb⟩
  clear h6
  go_wp2_with fail
  refine (h7 _).mono ?_
  rintro e w5 ⟨rfl, rfl⟩
  clear h7
  have hcn : n ≤ cap' := hO.cap.1
  have hcm : cap' ≤ maxLen := hO.cap.2
  unfold maxLen at hcm
  go_wp2_with fail
  refine (put4 hO (by omega)).mono ?_
  rintro e w2 ⟨⟨r, rfl⟩, hO2, hb2⟩
  have hb3 : Below w'.heap.size w' w2 := hb.trans (hb2.mono hg)
  clear hO hb hb2
  go_wp2
  go_ret2
  exact ⟨g, cap', rfl, hg, hO2, hb3⟩
set_option maxRecDepth 100000 in
set_option maxHeartbeats 1000000 in
theorem apply_k5 {b o n cap off : Nat} {q : Nat → Int} {s add p : Int} {w : World} (hn : n ≤ 20000) (ha0 : -2147483648 ≤ add) (ha1 : add ≤ 2147483647) (hf : off + 4 ≤ n) (h4 : okR (s + add) 5 = true) (hs0 : 0 ≤ s) (hs1 : s ≤ 4294967295) (hp0 : 0 ≤ p) (hp1 : p ≤ 4294967295)
    (hc : ∀ j, j < n → w.cell? ⟨b, o + j, none⟩ = some (.int .u8 (q j))) :
    Calls Tryz.prog 50 #[.slice (some ⟨b, o, none⟩) n cap, .int .i64 off, .int .i64 5, .int .u32 s, .int .i64 add, .int .u32 p] w (ApR q n off 4 (byteN ((s + add) % 4294967296 / 256)) w) := by
  have h1 : ∀ w, Calls Tryz.prog 140 #[.int .i64 5] w fun e w' => e = .returned (.bool true) ∧ w' = w := kind_calls 5
  have h2 := addend_calls add
  rw [show (decide (-2147483648 ≤ add) && decide (add ≤ 2147483647)) = true by simp [ha0, ha1]] at h2
  have h3 := field_calls (some ⟨b, o, none⟩) n cap off 5 hn
  rw [show (decide (0 ≤ (off : Int)) && decide ((off : Int) + (wd 5 : Nat) ≤ (n : Int))) = true by simp [wd]; omega] at h3
  have h5 := inField_calls (s + add) 5
  have h6 := bclone_some (cap := cap) (n := n) (by omega) hc
  have h7 : ∀ w, Calls Tryz.prog 145 #[.int .i64 5] w fun e w' => e = .returned (.int .i64 4) ∧ w' = w := size_calls 5
  rw [h4] at h5
  clear h4 hc
  go_enter Tryz.func50, Tryz.ntmps50
  go_wp2_with fail
  refine (h1 _).mono ?_
  rintro e w' ⟨rfl, rfl⟩
  go_wp2_with fail
  refine (h2 _).mono ?_
  rintro e w' ⟨rfl, rfl⟩
  go_wp2_with fail
  refine (h3 _).mono ?_
  rintro e w' ⟨rfl, rfl⟩
  go_wp2_with fail
  refine (h5 _).mono ?_
  rintro e w' ⟨rfl, rfl⟩
  clear h1 h2 h3 h5
  go_wp2_with fail
  refine h6.mono ?_
  rintro e w1 ⟨g, cap', rfl, hg, hO, hb⟩
  clear h6
  go_wp2_with fail
  refine (h7 _).mono ?_
  rintro e w5 ⟨rfl, rfl⟩
  clear h7
  have hcn : n ≤ cap' := hO.cap.1
  have hcm : cap' ≤ maxLen := hO.cap.2
  unfold maxLen at hcm
  go_wp2_with fail
  refine (put4 hO (by omega)).mono ?_
  rintro e w2 ⟨⟨r, rfl⟩, hO2, hb2⟩
  have hb3 : Below w'.heap.size w' w2 := hb.trans (hb2.mono hg)
  clear hO hb hb2
  go_wp2
  go_ret2
  exact ⟨g, cap', rfl, hg, hO2, hb3⟩
end Go.Ev
