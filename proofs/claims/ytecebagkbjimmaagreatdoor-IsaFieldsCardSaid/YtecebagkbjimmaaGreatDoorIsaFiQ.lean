import Derived.Test.YtecebagkbjimmaaGreatDoorIsaFiP
set_option linter.unusedSectionVars false
set_option linter.unusedVariables false
set_option linter.unusedSimpArgs false
namespace Go.Ev
open Go.RowKit Go.Proofs

theorem fAt_run {m : Int} {op q t : Nat} (h : fAt m op = true) (ho : isOpN op = true) (hq : q < 6) (ht : t < 4) (hn : fNo op q t = false) : fRun m op q t = true := by
  unfold fAt at h
  rw [ho] at h
  have := @uptoB_true (Unk.mk (nthI [])) _ _ (@uptoB_true (Unk.mk (nthI [])) _ _ h q hq) t ht
  rw [hn] at this
  exact this
theorem tR_one : tR 1 = 0 := rfl
theorem tR_other {t : Nat} (h : t ≠ 1) : tR t = 6 := by
  unfold tR
  split
  · exact absurd rfl h
  · rfl
section
variable {m : Int} {w : World} {o a b c d k i to : Int}
theorem set0 (hG : GlobU m w) (h0 : inI64 o) (h1 : inI64 a) (h2 : inI64 b) (h3 : inI64 c) (h4 : inI64 d) (h5 : inI64 k) (h6 : inU32 i) (hv : validB o a b c d k i = true) (ht : inI64 to) :
    Calls Tryz.prog 12 #[insnV o a b c d k i, .int .i64 ((0 : Nat) : Int), .int .i64 to] w fun e w' => e = .returned (.bool true) ∧ Below w.heap.size w w' := by
  have hop : isOpB o = true := by
    unfold validB at hv
    simp only [Bool.and_eq_true] at hv
    exact hv.1
  obtain ⟨hon, hlt, hoz⟩ := isOpN_of hop
  obtain ⟨a4, b0, b1, b2, b3, b4, b5, hr, k1, k2, g0, g1, g2, g3, g4, g5⟩ := spans_of hlt
  have hv' := (valid_iff hop hr).1 hv
  have hw' := valid_iff (op := o) (a := to) (b := b) (c := c) (d := d) (k := k) (i := i) hop hr
  have hsp : spanAt o.toNat 0 = (0, b0) := by unfold spanAt; rw [hr]; rfl
  have hF := fields_ev m hlt
  have htb := ht
  unfold inI64 at htb
  obtain ⟨t, htt, htr, hval⟩ : ∃ t, t < 3 ∧ ((tB o.toNat 0 t).1 ≤ to ∧ to ≤ (tB o.toNat 0 t).2) ∧ (if validB o to b c d k i = true then 0 else 6) = tR t := by
    by_cases c1 : to < 0
    · refine ⟨0, by omega, ⟨htb.1, ?_⟩, ?_⟩
      · show to ≤ (spanAt o.toNat 0).1 - 1
        rw [hsp]; show to ≤ 0 - 1; omega
      · rw [if_neg (fun h => by have := hw'.1 h; omega)]; rfl
    · by_cases c2 : to ≤ b0
      · refine ⟨1, by omega, ?_, ?_⟩
        · show (spanAt o.toNat 0).1 ≤ to ∧ to ≤ (spanAt o.toNat 0).2
          rw [hsp]; exact ⟨by show 0 ≤ to; omega, c2⟩
        · rw [if_pos (hw'.2 (by omega))]; rfl
      · refine ⟨2, by omega, ⟨?_, htb.2⟩, ?_⟩
        · show (spanAt o.toNat 0).2 + 1 ≤ to
          rw [hsp]; show b0 + 1 ≤ to; omega
        · rw [if_neg (fun h => by have := hw'.1 h; omega)]; rfl
  have hn : fNo o.toNat 0 t = false := by
    match t, htt with
    | 0, _ => rfl
    | 1, _ => rfl
    | 2, _ => rfl
  refine set_calls hG h0 h1 h2 h3 h4 h5 h6 hv hoz (by omega) htr (fAt_run hF hon (by omega) (by omega) hn) fun L hL hw _ => ?_
  subst hL
  letI : Unk := Unk.mk (nthI [a, b, c, d, k, i, to, 0])
  have hin := within_unkL hw
  exact row_chk ⟨trivial, hin, hin, hin, hin, hin, hin, trivial⟩ (vr_seven (by rw [← hoz]; exact .int _ _) (vr_lf hw _ rfl _) (vr_lf hw _ rfl _) (vr_lf hw _ rfl _) (vr_lf hw _ rfl _) (vr_lf hw _ rfl _) (vr_lf hw _ rfl _)) h0 ht h2 h3 h4 h5 h6 hval
theorem set1 (hG : GlobU m w) (h0 : inI64 o) (h1 : inI64 a) (h2 : inI64 b) (h3 : inI64 c) (h4 : inI64 d) (h5 : inI64 k) (h6 : inU32 i) (hv : validB o a b c d k i = true) (ht : inI64 to) :
    Calls Tryz.prog 12 #[insnV o a b c d k i, .int .i64 ((1 : Nat) : Int), .int .i64 to] w fun e w' => e = .returned (.bool true) ∧ Below w.heap.size w w' := by
  have hop : isOpB o = true := by
    unfold validB at hv
    simp only [Bool.and_eq_true] at hv
    exact hv.1
  obtain ⟨hon, hlt, hoz⟩ := isOpN_of hop
  obtain ⟨a4, b0, b1, b2, b3, b4, b5, hr, k1, k2, g0, g1, g2, g3, g4, g5⟩ := spans_of hlt
  have hv' := (valid_iff hop hr).1 hv
  have hw' := valid_iff (op := o) (a := a) (b := to) (c := c) (d := d) (k := k) (i := i) hop hr
  have hsp : spanAt o.toNat 1 = (0, b1) := by unfold spanAt; rw [hr]; rfl
  have hF := fields_ev m hlt
  have htb := ht
  unfold inI64 at htb
  obtain ⟨t, htt, htr, hval⟩ : ∃ t, t < 3 ∧ ((tB o.toNat 1 t).1 ≤ to ∧ to ≤ (tB o.toNat 1 t).2) ∧ (if validB o a to c d k i = true then 0 else 6) = tR t := by
    by_cases c1 : to < 0
    · refine ⟨0, by omega, ⟨htb.1, ?_⟩, ?_⟩
      · show to ≤ (spanAt o.toNat 1).1 - 1
        rw [hsp]; show to ≤ 0 - 1; omega
      · rw [if_neg (fun h => by have := hw'.1 h; omega)]; rfl
    · by_cases c2 : to ≤ b1
      · refine ⟨1, by omega, ?_, ?_⟩
        · show (spanAt o.toNat 1).1 ≤ to ∧ to ≤ (spanAt o.toNat 1).2
          rw [hsp]; exact ⟨by show 0 ≤ to; omega, c2⟩
        · rw [if_pos (hw'.2 (by omega))]; rfl
      · refine ⟨2, by omega, ⟨?_, htb.2⟩, ?_⟩
        · show (spanAt o.toNat 1).2 + 1 ≤ to
          rw [hsp]; show b1 + 1 ≤ to; omega
        · rw [if_neg (fun h => by have := hw'.1 h; omega)]; rfl
  have hn : fNo o.toNat 1 t = false := by
    match t, htt with
    | 0, _ => rfl
    | 1, _ => rfl
    | 2, _ => rfl
  refine set_calls hG h0 h1 h2 h3 h4 h5 h6 hv hoz (by omega) htr (fAt_run hF hon (by omega) (by omega) hn) fun L hL hw _ => ?_
  subst hL
  letI : Unk := Unk.mk (nthI [a, b, c, d, k, i, to, 0])
  have hin := within_unkL hw
  exact row_chk ⟨trivial, hin, hin, hin, hin, hin, hin, trivial⟩ (vr_seven (by rw [← hoz]; exact .int _ _) (vr_lf hw _ rfl _) (vr_lf hw _ rfl _) (vr_lf hw _ rfl _) (vr_lf hw _ rfl _) (vr_lf hw _ rfl _) (vr_lf hw _ rfl _)) h0 h1 ht h3 h4 h5 h6 hval
theorem set2 (hG : GlobU m w) (h0 : inI64 o) (h1 : inI64 a) (h2 : inI64 b) (h3 : inI64 c) (h4 : inI64 d) (h5 : inI64 k) (h6 : inU32 i) (hv : validB o a b c d k i = true) (ht : inI64 to) :
    Calls Tryz.prog 12 #[insnV o a b c d k i, .int .i64 ((2 : Nat) : Int), .int .i64 to] w fun e w' => e = .returned (.bool true) ∧ Below w.heap.size w w' := by
  have hop : isOpB o = true := by
    unfold validB at hv
    simp only [Bool.and_eq_true] at hv
    exact hv.1
  obtain ⟨hon, hlt, hoz⟩ := isOpN_of hop
  obtain ⟨a4, b0, b1, b2, b3, b4, b5, hr, k1, k2, g0, g1, g2, g3, g4, g5⟩ := spans_of hlt
  have hv' := (valid_iff hop hr).1 hv
  have hw' := valid_iff (op := o) (a := a) (b := b) (c := to) (d := d) (k := k) (i := i) hop hr
  have hsp : spanAt o.toNat 2 = (0, b2) := by unfold spanAt; rw [hr]; rfl
  have hF := fields_ev m hlt
  have htb := ht
  unfold inI64 at htb
  obtain ⟨t, htt, htr, hval⟩ : ∃ t, t < 3 ∧ ((tB o.toNat 2 t).1 ≤ to ∧ to ≤ (tB o.toNat 2 t).2) ∧ (if validB o a b to d k i = true then 0 else 6) = tR t := by
    by_cases c1 : to < 0
    · refine ⟨0, by omega, ⟨htb.1, ?_⟩, ?_⟩
      · show to ≤ (spanAt o.toNat 2).1 - 1
        rw [hsp]; show to ≤ 0 - 1; omega
      · rw [if_neg (fun h => by have := hw'.1 h; omega)]; rfl
    · by_cases c2 : to ≤ b2
      · refine ⟨1, by omega, ?_, ?_⟩
        · show (spanAt o.toNat 2).1 ≤ to ∧ to ≤ (spanAt o.toNat 2).2
          rw [hsp]; exact ⟨by show 0 ≤ to; omega, c2⟩
        · rw [if_pos (hw'.2 (by omega))]; rfl
      · refine ⟨2, by omega, ⟨?_, htb.2⟩, ?_⟩
        · show (spanAt o.toNat 2).2 + 1 ≤ to
          rw [hsp]; show b2 + 1 ≤ to; omega
        · rw [if_neg (fun h => by have := hw'.1 h; omega)]; rfl
  have hn : fNo o.toNat 2 t = false := by
    match t, htt with
    | 0, _ => rfl
    | 1, _ => rfl
    | 2, _ => rfl
  refine set_calls hG h0 h1 h2 h3 h4 h5 h6 hv hoz (by omega) htr (fAt_run hF hon (by omega) (by omega) hn) fun L hL hw _ => ?_
  subst hL
  letI : Unk := Unk.mk (nthI [a, b, c, d, k, i, to, 0])
  have hin := within_unkL hw
  exact row_chk ⟨trivial, hin, hin, hin, hin, hin, hin, trivial⟩ (vr_seven (by rw [← hoz]; exact .int _ _) (vr_lf hw _ rfl _) (vr_lf hw _ rfl _) (vr_lf hw _ rfl _) (vr_lf hw _ rfl _) (vr_lf hw _ rfl _) (vr_lf hw _ rfl _)) h0 h1 h2 ht h4 h5 h6 hval
theorem set3 (hG : GlobU m w) (h0 : inI64 o) (h1 : inI64 a) (h2 : inI64 b) (h3 : inI64 c) (h4 : inI64 d) (h5 : inI64 k) (h6 : inU32 i) (hv : validB o a b c d k i = true) (ht : inI64 to) :
    Calls Tryz.prog 12 #[insnV o a b c d k i, .int .i64 ((3 : Nat) : Int), .int .i64 to] w fun e w' => e = .returned (.bool true) ∧ Below w.heap.size w w' := by
  have hop : isOpB o = true := by
    unfold validB at hv
    simp only [Bool.and_eq_true] at hv
    exact hv.1
  obtain ⟨hon, hlt, hoz⟩ := isOpN_of hop
  obtain ⟨a4, b0, b1, b2, b3, b4, b5, hr, k1, k2, g0, g1, g2, g3, g4, g5⟩ := spans_of hlt
  have hv' := (valid_iff hop hr).1 hv
  have hw' := valid_iff (op := o) (a := a) (b := b) (c := c) (d := to) (k := k) (i := i) hop hr
  have hsp : spanAt o.toNat 3 = (0, b3) := by unfold spanAt; rw [hr]; rfl
  have hF := fields_ev m hlt
  have htb := ht
  unfold inI64 at htb
  obtain ⟨t, htt, htr, hval⟩ : ∃ t, t < 3 ∧ ((tB o.toNat 3 t).1 ≤ to ∧ to ≤ (tB o.toNat 3 t).2) ∧ (if validB o a b c to k i = true then 0 else 6) = tR t := by
    by_cases c1 : to < 0
    · refine ⟨0, by omega, ⟨htb.1, ?_⟩, ?_⟩
      · show to ≤ (spanAt o.toNat 3).1 - 1
        rw [hsp]; show to ≤ 0 - 1; omega
      · rw [if_neg (fun h => by have := hw'.1 h; omega)]; rfl
    · by_cases c2 : to ≤ b3
      · refine ⟨1, by omega, ?_, ?_⟩
        · show (spanAt o.toNat 3).1 ≤ to ∧ to ≤ (spanAt o.toNat 3).2
          rw [hsp]; exact ⟨by show 0 ≤ to; omega, c2⟩
        · rw [if_pos (hw'.2 (by omega))]; rfl
      · refine ⟨2, by omega, ⟨?_, htb.2⟩, ?_⟩
        · show (spanAt o.toNat 3).2 + 1 ≤ to
          rw [hsp]; show b3 + 1 ≤ to; omega
        · rw [if_neg (fun h => by have := hw'.1 h; omega)]; rfl
  have hn : fNo o.toNat 3 t = false := by
    match t, htt with
    | 0, _ => rfl
    | 1, _ => rfl
    | 2, _ => rfl
  refine set_calls hG h0 h1 h2 h3 h4 h5 h6 hv hoz (by omega) htr (fAt_run hF hon (by omega) (by omega) hn) fun L hL hw _ => ?_
  subst hL
  letI : Unk := Unk.mk (nthI [a, b, c, d, k, i, to, 0])
  have hin := within_unkL hw
  exact row_chk ⟨trivial, hin, hin, hin, hin, hin, hin, trivial⟩ (vr_seven (by rw [← hoz]; exact .int _ _) (vr_lf hw _ rfl _) (vr_lf hw _ rfl _) (vr_lf hw _ rfl _) (vr_lf hw _ rfl _) (vr_lf hw _ rfl _) (vr_lf hw _ rfl _)) h0 h1 h2 h3 ht h5 h6 hval
theorem set4 (hG : GlobU m w) (h0 : inI64 o) (h1 : inI64 a) (h2 : inI64 b) (h3 : inI64 c) (h4 : inI64 d) (h5 : inI64 k) (h6 : inU32 i) (hv : validB o a b c d k i = true) (ht : inI64 to) :
    Calls Tryz.prog 12 #[insnV o a b c d k i, .int .i64 ((4 : Nat) : Int), .int .i64 to] w fun e w' => e = .returned (.bool true) ∧ Below w.heap.size w w' := by
  have hop : isOpB o = true := by
    unfold validB at hv
    simp only [Bool.and_eq_true] at hv
    exact hv.1
  obtain ⟨hon, hlt, hoz⟩ := isOpN_of hop
  obtain ⟨a4, b0, b1, b2, b3, b4, b5, hr, k1, k2, g0, g1, g2, g3, g4, g5⟩ := spans_of hlt
  have hv' := (valid_iff hop hr).1 hv
  have hw' := valid_iff (op := o) (a := a) (b := b) (c := c) (d := d) (k := to) (i := i) hop hr
  have hsp : spanAt o.toNat 4 = (a4, b4) := by unfold spanAt; rw [hr]; rfl
  have hF := fields_ev m hlt
  have htb := ht
  unfold inI64 at htb
  obtain ⟨t, htt, htr, hval⟩ : ∃ t, t < 3 ∧ ((tB o.toNat 4 t).1 ≤ to ∧ to ≤ (tB o.toNat 4 t).2) ∧ (if validB o a b c d to i = true then 0 else 6) = tR t := by
    by_cases c1 : to < a4
    · refine ⟨0, by omega, ⟨htb.1, ?_⟩, ?_⟩
      · show to ≤ (spanAt o.toNat 4).1 - 1
        rw [hsp]; show to ≤ a4 - 1; omega
      · rw [if_neg (fun h => by have := hw'.1 h; omega)]; rfl
    · by_cases c2 : to ≤ b4
      · refine ⟨1, by omega, ?_, ?_⟩
        · show (spanAt o.toNat 4).1 ≤ to ∧ to ≤ (spanAt o.toNat 4).2
          rw [hsp]; exact ⟨by show a4 ≤ to; omega, c2⟩
        · rw [if_pos (hw'.2 (by omega))]; rfl
      · refine ⟨2, by omega, ⟨?_, htb.2⟩, ?_⟩
        · show (spanAt o.toNat 4).2 + 1 ≤ to
          rw [hsp]; show b4 + 1 ≤ to; omega
        · rw [if_neg (fun h => by have := hw'.1 h; omega)]; rfl
  have hn : fNo o.toNat 4 t = false := by
    match t, htt with
    | 0, _ => rfl
    | 1, _ => rfl
    | 2, _ => rfl
  refine set_calls hG h0 h1 h2 h3 h4 h5 h6 hv hoz (by omega) htr (fAt_run hF hon (by omega) (by omega) hn) fun L hL hw _ => ?_
  subst hL
  letI : Unk := Unk.mk (nthI [a, b, c, d, k, i, to, 0])
  have hin := within_unkL hw
  exact row_chk ⟨trivial, hin, hin, hin, hin, hin, hin, trivial⟩ (vr_seven (by rw [← hoz]; exact .int _ _) (vr_lf hw _ rfl _) (vr_lf hw _ rfl _) (vr_lf hw _ rfl _) (vr_lf hw _ rfl _) (vr_lf hw _ rfl _) (vr_lf hw _ rfl _)) h0 h1 h2 h3 h4 ht h6 hval
theorem set5 (hG : GlobU m w) (h0 : inI64 o) (h1 : inI64 a) (h2 : inI64 b) (h3 : inI64 c) (h4 : inI64 d) (h5 : inI64 k) (h6 : inU32 i) (hv : validB o a b c d k i = true) (ht : inI64 to) :
    Calls Tryz.prog 12 #[insnV o a b c d k i, .int .i64 ((5 : Nat) : Int), .int .i64 to] w fun e w' => e = .returned (.bool true) ∧ Below w.heap.size w w' := by
  have hop : isOpB o = true := by
    unfold validB at hv
    simp only [Bool.and_eq_true] at hv
    exact hv.1
  obtain ⟨hon, hlt, hoz⟩ := isOpN_of hop
  obtain ⟨a4, b0, b1, b2, b3, b4, b5, hr, k1, k2, g0, g1, g2, g3, g4, g5⟩ := spans_of hlt
  have hv' := (valid_iff hop hr).1 hv
  have hw' := valid_iff (op := o) (a := a) (b := b) (c := c) (d := d) (k := k) (i := to) hop hr
  have hsp : spanAt o.toNat 5 = (0, b5) := by unfold spanAt; rw [hr]; rfl
  have hF := fields_ev m hlt
  have htb := ht
  unfold inI64 at htb
  obtain ⟨t, htt, htr, hn, hval⟩ : ∃ t, t < 4 ∧ ((tB o.toNat 5 t).1 ≤ to ∧ to ≤ (tB o.toNat 5 t).2) ∧ fNo o.toNat 5 t = false ∧ (tY 5 t = true → inU32 to ∧ (tZ o.toNat t = true → to = 0) ∧ (if validB o a b c d k to = true then 0 else 6) = tR t) := by
    by_cases c1 : to < 0
    · refine ⟨0, by omega, ⟨htb.1, ?_⟩, rfl, fun h => by cases h⟩
      show to ≤ (spanAt o.toNat 5).1 - 1
      rw [hsp]; show to ≤ 0 - 1; omega
    · by_cases c2 : to ≤ b5
      · refine ⟨1, by omega, ?_, rfl, fun _ => ⟨⟨by omega, by omega⟩, fun hz => ?_, ?_⟩⟩
        · show (spanAt o.toNat 5).1 ≤ to ∧ to ≤ (spanAt o.toNat 5).2
          rw [hsp]; exact ⟨by show 0 ≤ to; omega, c2⟩
        · have hz : ibeq (spanAt o.toNat 5).2 (.ofNat 0) = true := hz
          rw [hsp, ibeq_eq] at hz
          have hz : b5 = 0 := of_decide_eq_true hz
          omega
        · rw [if_pos (hw'.2 (by omega))]; rfl
      · by_cases c3 : to ≤ 4294967295
        · refine ⟨2, by omega, ⟨?_, c3⟩, ?_, fun _ => ⟨⟨by omega, by omega⟩, (fun hz => by cases hz), ?_⟩⟩
          · show (spanAt o.toNat 5).2 + 1 ≤ to
            rw [hsp]; show b5 + 1 ≤ to; omega
          · show ile (.ofNat 4294967295) (spanAt o.toNat 5).2 = false
            rw [hsp, ile_eq]
            exact decide_eq_false (by show ¬ (4294967295 : Int) ≤ b5; omega)
          · rw [if_neg (fun h => by have := hw'.1 h; omega)]; rfl
        · exact ⟨3, by omega, ⟨by show (4294967296 : Int) ≤ to; omega, htb.2⟩, rfl, fun h => by cases h⟩
  refine set_calls hG h0 h1 h2 h3 h4 h5 h6 hv hoz (by omega) htr (fAt_run hF hon (by omega) (by omega) hn) fun L hL hw hty => ?_
  subst hL
  obtain ⟨htu, hz, hval⟩ := hval hty
  letI : Unk := Unk.mk (nthI [a, b, c, d, k, i, to, 0])
  have hin := within_unkL hw
  refine row_chk (m := m) (l := [fOp o.toNat, lf .i64 _ 0, lf .i64 _ 1, lf .i64 _ 2, lf .i64 _ 3, lf .i64 _ 4, match tZ o.toNat t with | true => .int .u32 (.ofNat 0) | false => lf .u32 _ 6]) ⟨trivial, hin, hin, hin, hin, hin, ?_, trivial⟩ (vr_seven (by rw [← hoz]; exact .int _ _) (vr_lf hw _ rfl _) (vr_lf hw _ rfl _) (vr_lf hw _ rfl _) (vr_lf hw _ rfl _) (vr_lf hw _ rfl _) ?_) h0 h1 h2 h3 h4 h5 htu hval
  · cases tZ o.toNat t
    · exact hin
    · exact trivial
  · cases hzz : tZ o.toNat t
    · exact vr_lf hw _ rfl _
    · rw [hz hzz]; exact .int _ _
attribute [local irreducible] fOut fNone
/-- IsaFields, at whatever numbers. -/
theorem fields_calls {wh : Int} (hG : GlobU m w) (h0 : inI64 o) (h1 : inI64 a) (h2 : inI64 b) (h3 : inI64 c) (h4 : inI64 d) (h5 : inI64 k) (h6 : inU32 i) (hwh : inI64 wh) (ht : inI64 to) :
    Calls Tryz.prog 12 #[insnV o a b c d k i, .int .i64 wh, .int .i64 to] w fun e w' => e = .returned (.bool true) ∧ Below w.heap.size w w' := by
  have h0' := h0
  have hwh' := hwh
  unfold inI64 at h0' hwh'
  by_cases hop : isOpB o = true
  · obtain ⟨hon, hlt, hoz⟩ := isOpN_of hop
    have hO := @uptoB_true (Unk.mk (nthI [])) _ _ (out_ev m) o.toNat hlt
    rw [hon] at hO
    obtain ⟨e1, e2, e3⟩ : fOut m (fOp o.toNat) (.ofNat 6) i64b = true ∧ fOut m (fOp o.toNat) (.ofNat 0) (.negSucc 9223372036854775807, .negSucc 0) = true ∧ fOut m (fOp o.toNat) (.ofNat 0) (.ofNat 6, .ofNat 9223372036854775807) = true := by
      have key : ∀ x1 x2 x3 : Bool, (match x1 with | false => false | true => match x2 with | false => false | true => x3) = true → x1 = true ∧ x2 = true ∧ x3 = true := by decide
      exact key _ _ _ hO
    by_cases hv : validB o a b c d k i = true
    · by_cases c1 : wh < 0
      · exact out_calls hG h0 h1 h2 h3 h4 h5 h6 ht hoz ⟨hwh'.1, by show wh ≤ -1; omega⟩ (by rw [if_pos hv]; rfl) e2
      · by_cases c2 : 6 ≤ wh
        · exact out_calls hG h0 h1 h2 h3 h4 h5 h6 ht hoz ⟨c2, hwh'.2⟩ (by rw [if_pos hv]; rfl) e3
        · obtain ⟨q, rfl⟩ : ∃ q : Nat, (q : Int) = wh := ⟨wh.toNat, by omega⟩
          have hq : q < 6 := by omega
          rcases (show q = 0 ∨ q = 1 ∨ q = 2 ∨ q = 3 ∨ q = 4 ∨ q = 5 by omega) with rfl | rfl | rfl | rfl | rfl | rfl
          · exact set0 hG h0 h1 h2 h3 h4 h5 h6 hv ht
          · exact set1 hG h0 h1 h2 h3 h4 h5 h6 hv ht
          · exact set2 hG h0 h1 h2 h3 h4 h5 h6 hv ht
          · exact set3 hG h0 h1 h2 h3 h4 h5 h6 hv ht
          · exact set4 hG h0 h1 h2 h3 h4 h5 h6 hv ht
          · exact set5 hG h0 h1 h2 h3 h4 h5 h6 hv ht
    · exact out_calls hG h0 h1 h2 h3 h4 h5 h6 ht hoz (show i64b.1 ≤ wh ∧ wh ≤ i64b.2 from hwh) (by rw [if_neg hv]; rfl) e1
  · have hno : ¬ ((1 ≤ o ∧ o ≤ 61) ∨ (64 ≤ o ∧ o ≤ 72)) := fun hc => hop (by simp only [isOpB, Bool.or_eq_true, Bool.and_eq_true, decide_eq_true_eq]; exact hc)
    by_cases c1 : o ≤ 0
    · exact none_calls hG h1 h2 h3 h4 h5 h6 ht hwh ⟨h0'.1, c1⟩ (none_ev1 m)
    · by_cases c2 : o ≤ 63
      · exact none_calls hG h1 h2 h3 h4 h5 h6 ht hwh ⟨by show (62 : Int) ≤ o; omega, c2⟩ (none_ev2 m)
      · exact none_calls hG h1 h2 h3 h4 h5 h6 ht hwh ⟨by show (73 : Int) ≤ o; omega, h0'.2⟩ (none_ev3 m)
end
end Go.Ev
