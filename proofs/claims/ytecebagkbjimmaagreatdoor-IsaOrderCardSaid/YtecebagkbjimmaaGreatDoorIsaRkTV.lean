import Derived.Test.YtecebagkbjimmaaGreatDoorIsaRkQS
import Derived.Test.YtecebagkbjimmaaGreatDoorIsaRkP
set_option linter.unusedSectionVars false
set_option linter.unusedVariables false
set_option linter.unusedSimpArgs false
namespace Go.Ev
open Go.RowKit Go.Proofs

/-! ### Runs that are the same for all operations -/
def invB : List (Int × Int) := xb .inv
def orcN18 (f : Nat) : Option Orc := match Nat.beq f 18 with
  | true => some (.given [([xa 0 .inv invB], .int .i64 (xret .inv))])
  | false => none
def orcN56 (f : Nat) : Option Orc := match Nat.beq f 56 with
  | true => some (.given [([xa 0 .inv invB], .bool false)])
  | false => none
set_option maxRecDepth 1000000 in
theorem rank_no (m : Int) : evalA Tryz.prog (G1 m) orcN18 1000000 39 [xa 0 .inv invB] (isRetU [.int .u64 (.ofNat 0), .int .i64 (.ofNat 6)]) = true := by kernel_rfl
set_option maxRecDepth 1000000 in
theorem rrank_no (m : Int) : evalA Tryz.prog (G1 m) orcN56 1000000 40 [xa 0 .inv invB] (isRetU [.int .u64 (.ofNat 0), .int .i64 (.ofNat 6)]) = true := by kernel_rfl
def overB : List (Int × Int) := [(.ofNat 73882029336998, .ofNat 18446744073709551615)]
def zeroAV : AV := .agg [.int .i64 (.ofNat 0), .int .i64 (.ofNat 0), .int .i64 (.ofNat 0), .int .i64 (.ofNat 0), .int .i64 (.ofNat 0), .int .i64 (.ofNat 0), .int .u32 (.ofNat 0)]
set_option maxRecDepth 1000000 in
theorem unrank_over (m : Int) : evalA Tryz.prog (G1 m) orcU 1000000 41 [lf .u64 overB 0] (isRetU [zeroAV, .int .i64 (.ofNat 1)]) = true := by kernel_rfl
set_option maxRecDepth 1000000 in
theorem runrank_over (m : Int) : evalA Tryz.prog (G1 m) orcZ 1000000 42 [lf .u64 overB 0] (isRetU [zeroAV, .int .i64 (.ofNat 1)]) = true := by kernel_rfl
set_option maxRecDepth 1000000 in
theorem count_ev (m : Int) : evalA Tryz.prog (G1 m) orcU 1000000 43 [] (isRet (.int .u64 (.ofNat 73882029336998))) = true := by kernel_rfl
set_option maxRecDepth 1000000 in
theorem rcount_ev (m : Int) : evalA Tryz.prog (G1 m) orcN 1000000 44 [] (isRet (.int .u64 (.ofNat 73882029336998))) = true := by kernel_rfl

/-! ### The contracts -/
theorem vr_7 [Unk] {ρ : Rho} {x0 x1 x2 x3 x4 x5 x6 : AV} {o a b c d k i : Int} (h0 : VR ρ x0 (.int .i64 o)) (h1 : VR ρ x1 (.int .i64 a)) (h2 : VR ρ x2 (.int .i64 b)) (h3 : VR ρ x3 (.int .i64 c)) (h4 : VR ρ x4 (.int .i64 d)) (h5 : VR ρ x5 (.int .i64 k)) (h6 : VR ρ x6 (.int .u32 i)) :
    VR ρ (.agg [x0, x1, x2, x3, x4, x5, x6]) (insnV o a b c d k i) :=
  .agg _ _ (.cons _ _ _ _ h0 (.cons _ _ _ _ h1 (.cons _ _ _ _ h2 (.cons _ _ _ _ h3 (.cons _ _ _ _ h4 (.cons _ _ _ _ h5 (.cons _ _ _ _ h6 .nil)))))))
def rkN (op : Nat) (L : List Int) : Int := match ibeq (many op) (.ofNat 1) with
  | true => .ofNat (start op)
  | false => c0 op + Lin.val (nthI L) (cf op) 0
theorem den_rank (op : Nat) (L : List Int) : @DenL (Unk.mk (nthI L)) [rankAV op, .int .i64 (.ofNat 0)] [.int .u64 (rkN op L), .int .i64 0] := by
  letI : Unk := Unk.mk (nthI L)
  refine ⟨?_, rfl, trivial⟩
  unfold rankAV rkN
  cases ibeq (many op) (.ofNat 1) <;> rfl
/-- What Rank answers. -/
def rkS (o a b c d k i : Int) : Int := if validB o a b c d k i = true then rkN o.toNat [a, b, c, d, k, i] else 0
def rkE (o a b c d k i : Int) : Int := if validB o a b c d k i = true then 0 else 6
section
variable {m : Int} {w : World} {o a b c d k i : Int}
theorem ins_valid (hv : validB o a b c d k i = true) : Ins [a, b, c, d, k, i] (rt o.toNat) := by
  have hop : isOpB o = true := by
    unfold validB at hv
    simp only [Bool.and_eq_true] at hv
    exact hv.1
  obtain ⟨hon, hlt, hoz⟩ := opN_of hop
  obtain ⟨a4, b0, b1, b2, b3, b4, b5, hr, _⟩ := spans_of hlt
  have := (valid_iff hop hr).1 hv
  rw [hr]
  exact ⟨this.1, this.2.1, this.2.2.1, this.2.2.2.1, this.2.2.2.2.1, this.2.2.2.2.2, trivial⟩
theorem isop_valid (hv : validB o a b c d k i = true) : isOpB o = true := by
  unfold validB at hv
  simp only [Bool.and_eq_true] at hv
  exact hv.1
theorem vr_opArg (hv : validB o a b c d k i = true) (ρ : Rho) : @VR (Unk.mk (nthI [a, b, c, d, k, i])) ρ (opArg o.toNat (rt o.toNat)) (insnV o a b c d k i) := by
  letI : Unk := Unk.mk (nthI [a, b, c, d, k, i])
  have hw := ins_valid hv
  obtain ⟨_, _, hoz⟩ := opN_of (isop_valid hv)
  have h0 : VR ρ (.int .i64 (.ofNat o.toNat)) (.int .i64 o) := by rw [← hoz]; exact .int _ _
  exact vr_7 h0 (vr_lf hw _ rfl _) (vr_lf hw _ rfl _) (vr_lf hw _ rfl _) (vr_lf hw _ rfl _) (vr_lf hw _ rfl _) (vr_lf hw _ rfl _)
theorem good_opArg (hv : validB o a b c d k i = true) : @GoodS (Unk.mk (nthI [a, b, c, d, k, i])) [.int .i64 (.ofNat o.toNat), lf .i64 (rt o.toNat) 0, lf .i64 (rt o.toNat) 1, lf .i64 (rt o.toNat) 2, lf .i64 (rt o.toNat) 3, lf .i64 (rt o.toNat) 4, lf .u32 (rt o.toNat) 5] := by
  have h := within_unkL (ins_valid hv)
  exact ⟨trivial, h, h, h, h, h, h, trivial⟩
theorem row18_op (h : inI64 o ∧ inI64 a ∧ inI64 b ∧ inI64 c ∧ inI64 d ∧ inI64 k ∧ inU32 i) (hv : validB o a b c d k i = true) : @RowOK (Unk.mk (nthI [a, b, c, d, k, i])) Tryz.prog (G1 m) 18 [opArg o.toNat (rt o.toNat)] (.int .i64 (.ofNat 0)) := by
  letI : Unk := Unk.mk (nthI [a, b, c, d, k, i])
  intro W vs hG hd
  obtain rfl := denL_one (den_of_vr (good_opArg hv) (vr_opArg hv (fun _ => none))) hd
  obtain ⟨h0, h1, h2, h3, h4, h5, h6⟩ := h
  refine Calls.mono (check_calls (globU_of hG) h0 h1 h2 h3 h4 h5 h6) fun e w' he => ?_
  obtain ⟨rfl, hb⟩ := he
  rw [if_pos hv]
  exact ⟨_, rfl, fun ρ => .int _ _, hb⟩
theorem row56_op (h : inI64 o ∧ inI64 a ∧ inI64 b ∧ inI64 c ∧ inI64 d ∧ inI64 k ∧ inU32 i) (hv : validB o a b c d k i = true) : @RowOK (Unk.mk (nthI [a, b, c, d, k, i])) Tryz.prog (G1 m) 56 [opArg o.toNat (rt o.toNat)] (.bool true) := by
  letI : Unk := Unk.mk (nthI [a, b, c, d, k, i])
  intro W vs hG hd
  obtain rfl := denL_one (den_of_vr (good_opArg hv) (vr_opArg hv (fun _ => none))) hd
  obtain ⟨h0, h1, h2, h3, h4, h5, h6⟩ := h
  refine Calls.mono (is_calls (globU_of hG) h0 h1 h2 h3 h4 h5 h6) fun e w' he => ?_
  obtain ⟨rfl, hb⟩ := he
  rw [hv]
  exact ⟨_, rfl, fun ρ => .bool _, hb⟩
/-- isa.Rank. -/
theorem rank_calls (hG : GlobU m w) (h : inI64 o ∧ inI64 a ∧ inI64 b ∧ inI64 c ∧ inI64 d ∧ inI64 k ∧ inU32 i) :
    Calls Tryz.prog 39 #[insnV o a b c d k i] w fun e w' => e = .returned (.tuple #[.int .u64 (rkS o a b c d k i), .int .i64 (rkE o a b c d k i)]) ∧ Below w.heap.size w w' := by
  unfold rkS rkE
  by_cases hv : validB o a b c d k i = true
  · rw [if_pos hv, if_pos hv]
    obtain ⟨hon, hlt, hoz⟩ := opN_of (isop_valid hv)
    have hev := rank_all m hlt
    unfold rkRun at hev
    rw [hon] at hev
    have r18 := row18_op (m := m) h hv
    letI : Unk := Unk.mk (nthI [a, b, c, d, k, i])
    have hO : OrcSound Tryz.prog (G1 m) (orcR o.toNat) := orcSound_given fun f oc hf => by
      unfold orcR at hf
      split at hf
      · rename_i h'
        have h' := beqF h'
        subst h'
        cases hf
        refine ⟨_, rfl, hb18, fun pat v hm => ?_⟩
        simp only [List.mem_cons, List.not_mem_nil, or_false, Prod.mk.injEq] at hm
        obtain ⟨rfl, rfl⟩ := hm
        exact r18
      · split at hf
        · rename_i h'
          have h' := beqF h'
          subst h'
          cases hf
          refine ⟨_, rfl, hb58, fun pat v hm => ?_⟩
          obtain ⟨j, h1, h2, rfl, rfl⟩ := tabRows_mem hm
          exact row_rng (by omega)
        · cases hf
    exact pair_of_eval hO hev (.cons _ _ _ _ (vr_opArg hv _) .nil) (den_rank _ _) (hG _)
  · rw [if_neg hv, if_neg hv]
    have hx : IsX .inv o a b c d k i := ⟨h, by simpa using hv⟩
    have hw := ins_xl hx
    have rc := row_check (m := m) (o := 0) hw hx (fun j _ => by rw [Nat.zero_add])
    have vx := vr_xa (o := 0) hw hx (fun j _ => by rw [Nat.zero_add]) (fun _ => none)
    letI : Unk := Unk.mk (nthI (xl .inv o a b c d k i))
    have hO : OrcSound Tryz.prog (G1 m) orcN18 := orcSound_given fun f oc hf => by
      unfold orcN18 at hf
      split at hf
      · rename_i h'
        have h' := beqF h'
        subst h'
        cases hf
        refine ⟨_, rfl, hb18, fun pat v hm => ?_⟩
        simp only [List.mem_cons, List.not_mem_nil, or_false, Prod.mk.injEq] at hm
        obtain ⟨rfl, rfl⟩ := hm
        exact rc
      · cases hf
    exact pair_of_eval hO (rank_no m) (us := [.int .u64 0, .int .i64 6]) (.cons _ _ _ _ vx .nil) ⟨rfl, rfl, trivial⟩ (hG _)
/-- The specification's Rank. -/
theorem rrank_calls (hG : GlobU m w) (h : inI64 o ∧ inI64 a ∧ inI64 b ∧ inI64 c ∧ inI64 d ∧ inI64 k ∧ inU32 i) :
    Calls Tryz.prog 40 #[insnV o a b c d k i] w fun e w' => e = .returned (.tuple #[.int .u64 (rkS o a b c d k i), .int .i64 (rkE o a b c d k i)]) ∧ Below w.heap.size w w' := by
  unfold rkS rkE
  by_cases hv : validB o a b c d k i = true
  · rw [if_pos hv, if_pos hv]
    obtain ⟨hon, hlt, hoz⟩ := opN_of (isop_valid hv)
    have hev := rrank_all m hlt
    unfold rqRun at hev
    rw [hon] at hev
    have r56 := row56_op (m := m) h hv
    letI : Unk := Unk.mk (nthI [a, b, c, d, k, i])
    have hO : OrcSound Tryz.prog (G1 m) (orcQ o.toNat) := orcSound_given fun f oc hf => by
      unfold orcQ at hf
      split at hf
      · rename_i h'
        have h' := beqF h'
        subst h'
        cases hf
        refine ⟨_, rfl, hb56, fun pat v hm => ?_⟩
        simp only [List.mem_cons, List.not_mem_nil, or_false, Prod.mk.injEq] at hm
        obtain ⟨rfl, rfl⟩ := hm
        exact r56
      · exact given_Z hf
    exact pair_of_eval hO hev (.cons _ _ _ _ (vr_opArg hv _) .nil) (den_rank _ _) (hG _)
  · rw [if_neg hv, if_neg hv]
    have hx : IsX .inv o a b c d k i := ⟨h, by simpa using hv⟩
    have hw := ins_xl hx
    have vx := vr_xa (o := 0) hw hx (fun j _ => by rw [Nat.zero_add])
    have gx := goodS_xa hw 0 .inv
    letI : Unk := Unk.mk (nthI (xl .inv o a b c d k i))
    have hO : OrcSound Tryz.prog (G1 m) orcN56 := orcSound_given fun f oc hf => by
      unfold orcN56 at hf
      split at hf
      · rename_i h'
        have h' := beqF h'
        subst h'
        cases hf
        refine ⟨_, rfl, hb56, fun pat v hm => ?_⟩
        simp only [List.mem_cons, List.not_mem_nil, or_false, Prod.mk.injEq] at hm
        obtain ⟨rfl, rfl⟩ := hm
        intro W vs hG' hd
        have hden : Den (xa 0 .inv invB) (insnV o a b c d k i) := den_of_vr gx (vx (fun _ => none))
        obtain rfl := denL_one hden hd
        obtain ⟨h0, h1, h2, h3, h4, h5, h6⟩ := h
        refine Calls.mono (is_calls (globU_of hG') h0 h1 h2 h3 h4 h5 h6) fun e w' he => ?_
        obtain ⟨rfl, hb⟩ := he
        rw [show validB o a b c d k i = false by simpa using hv]
        exact ⟨_, rfl, fun ρ => .bool _, hb⟩
      · cases hf
    exact pair_of_eval hO (rrank_no m) (us := [.int .u64 0, .int .i64 6]) (.cons _ _ _ _ (vx _) .nil) ⟨rfl, rfl, trivial⟩ (hG _)
end
end Go.Ev

namespace Go.Ev
open Go.RowKit Go.Proofs

/-! ### Unrank -/
theorem fld_den {L : List Int} {bs : List (Int × Int)} {kd : IntKind} {a b : Int} {i : Nat} (h : 0 ≤ nthI L i ∧ nthI L i ≤ b - a) : @Den1 (Unk.mk (nthI L)) (fld kd (a, b) i bs) (.int kd (a + nthI L i)) := by
  letI : Unk := Unk.mk (nthI L)
  unfold fld
  simp only
  split
  · rename_i e
    rw [ibeq_eq] at e
    have e : a = b := of_decide_eq_true e
    have : nthI L i = 0 := by omega
    rw [this, Int.add_zero]
    rfl
  · show Value.int kd (a + nthI L i) = .int kd (a + Lin.val (nthI L) (e1 i 1) 0)
    rw [val_u, Int.one_mul]
theorem good_fld {L : List Int} {bs : List (Int × Int)} (hw : Ins L bs) (kd : IntKind) (p : Int × Int) (i : Nat) : @Good1 (Unk.mk (nthI L)) (fld kd p i bs) := by
  have := within_unkL hw
  unfold fld
  split
  split
  · trivial
  · exact this
section
variable {m : Int}
/-- What Unrank answers of a number: that of the program, and that of the specification. -/
theorem unranks (n : Int) (hn : 0 ≤ n ∧ n ≤ 18446744073709551615) : ∃ o a b c d k i er, (inI64 o ∧ inI64 a ∧ inI64 b ∧ inI64 c ∧ inI64 d ∧ inI64 k ∧ inU32 i) ∧ (er = if n < 73882029336998 then 0 else 1) ∧
    ∀ (m : Int) (w : World), GlobU m w → (Calls Tryz.prog 41 #[.int .u64 n] w fun e w' => e = .returned (.tuple #[insnV o a b c d k i, .int .i64 er]) ∧ Below w.heap.size w w') ∧
      (Calls Tryz.prog 42 #[.int .u64 n] w fun e w' => e = .returned (.tuple #[insnV o a b c d k i, .int .i64 er]) ∧ Below w.heap.size w w') := by
  by_cases hlt : n < 73882029336998
  · obtain ⟨op, h1, h2, h3, h4⟩ := find_op (n := n.toNat) (by omega)
    have hz : (n.toNat : Int) = n := by omega
    rw [hz] at h4
    obtain ⟨a4, b0, b1, b2, b3, b4, b5, hr, k1, k2, g0, g1, g2, g3, g4, g5⟩ := spans_of h1
    have hle := spans_le h1
    have hd0 : 0 ≤ n - start op := by omega
    have hins := digits_ins hle hd0 h4
    have hdot := digits_dot (sizes_pos hle) hd0 h4
    obtain ⟨d0, d1, d2, d3, d4, d5, hD⟩ : ∃ d0 d1 d2 d3 d4 d5, digits (sizes (rt op)) (n - start op) = [d0, d1, d2, d3, d4, d5] := by rw [hr]; exact ⟨_, _, _, _, _, _, rfl⟩
    rw [hD] at hins hdot
    have hins' := hins
    rw [hr] at hins'
    obtain ⟨i0, i1, i2, i3, i4, i5, _⟩ := hins'
    have i0 : 0 ≤ d0 ∧ d0 ≤ b0 - 0 := i0
    have i1 : 0 ≤ d1 ∧ d1 ≤ b1 - 0 := i1
    have i2 : 0 ≤ d2 ∧ d2 ≤ b2 - 0 := i2
    have i3 : 0 ≤ d3 ∧ d3 ≤ b3 - 0 := i3
    have i4 : 0 ≤ d4 ∧ d4 ≤ b4 - a4 := i4
    have i5 : 0 ≤ d5 ∧ d5 ≤ b5 - 0 := i5
    refine ⟨op, 0 + d0, 0 + d1, 0 + d2, 0 + d3, a4 + d4, 0 + d5, 0, ?_, by rw [if_pos hlt], fun m w hG => ?_⟩
    · unfold inI64 inU32; omega
    · letI : Unk := Unk.mk (nthI [d0, d1, d2, d3, d4, d5])
      have vn : VR (fun _ => none) (nForm op) (.int .u64 n) := .lin _ _ _ _ _ (by
        show n = (start op : Int) + Lin.val (nthI [d0, d1, d2, d3, d4, d5]) (cf op) 0
        rw [val_dot]
        have : dot (cf op) [d0, d1, d2, d3, d4, d5] = n - start op := hdot
        omega) (within_unkL hins)
      have hden : DenL [outAV op, .int .i64 (.ofNat 0)] [insnV op (0 + d0) (0 + d1) (0 + d2) (0 + d3) (a4 + d4) (0 + d5), .int .i64 0] := by
        refine ⟨⟨_, rfl, rfl, ?_, ?_, ?_, ?_, ?_, ?_, trivial⟩, rfl, trivial⟩
        · show Den1 (fldAt .i64 op 0) _
          unfold fldAt; rw [hr]; exact fld_den (L := [d0, d1, d2, d3, d4, d5]) (i := 0) i0
        · show Den1 (fldAt .i64 op 1) _
          unfold fldAt; rw [hr]; exact fld_den (L := [d0, d1, d2, d3, d4, d5]) (i := 1) i1
        · show Den1 (fldAt .i64 op 2) _
          unfold fldAt; rw [hr]; exact fld_den (L := [d0, d1, d2, d3, d4, d5]) (i := 2) i2
        · show Den1 (fldAt .i64 op 3) _
          unfold fldAt; rw [hr]; exact fld_den (L := [d0, d1, d2, d3, d4, d5]) (i := 3) i3
        · show Den1 (fldAt .i64 op 4) _
          unfold fldAt; rw [hr]; exact fld_den (L := [d0, d1, d2, d3, d4, d5]) (i := 4) i4
        · show Den1 (fldAt .u32 op 5) _
          unfold fldAt; rw [hr]; exact fld_den (L := [d0, d1, d2, d3, d4, d5]) (i := 5) i5
      have e1 := unrank_all m h1
      have e2 := runrank_all m h1
      unfold unRun at e1
      unfold uqRun at e2
      rw [h2] at e1 e2
      exact ⟨pair_of_eval orcU_snd e1 (.cons _ _ _ _ vn .nil) hden (hG _), pair_of_eval (orcSound_given fun f oc hf => given_Z hf) e2 (.cons _ _ _ _ vn .nil) hden (hG _)⟩
  · refine ⟨0, 0, 0, 0, 0, 0, 0, 1, ?_, by rw [if_neg hlt], fun m w hG => ?_⟩
    · unfold inI64 inU32; omega
    · have hw : Ins [n] overB := ⟨⟨by show (73882029336998 : Int) ≤ n; omega, hn.2⟩, trivial⟩
      letI : Unk := Unk.mk (nthI [n])
      have hden : DenL [zeroAV, .int .i64 (.ofNat 1)] [insnV 0 0 0 0 0 0 0, .int .i64 1] := ⟨⟨_, rfl, rfl, rfl, rfl, rfl, rfl, rfl, rfl, trivial⟩, rfl, trivial⟩
      exact ⟨pair_of_eval orcU_snd (unrank_over m) (.cons _ _ _ _ (vr_lf hw _ rfl _) .nil) hden (hG _), pair_of_eval (orcSound_given fun f oc hf => given_Z hf) (runrank_over m) (.cons _ _ _ _ (vr_lf hw _ rfl _) .nil) hden (hG _)⟩
end
/-! ### A rank lies below the number of all instructions -/
def rankIn (op : Nat) : Bool := match Lin.span (cf op) (rt op) with
  | some (a, b) => (decide (0 ≤ c0 op + a) && decide (c0 op + b < 73882029336998)) && decide (start op < 73882029336998)
  | none => false
theorem rank_in : uptoB (fun op => match opN op with | false => true | true => rankIn op) 73 = true := by kernel_rfl
theorem rkS_in {o a b c d k i : Int} : 0 ≤ rkS o a b c d k i ∧ rkS o a b c d k i < 73882029336998 := by
  unfold rkS
  split
  · rename_i hv
    obtain ⟨hon, hlt, hoz⟩ := opN_of (isop_valid hv)
    have hi := @uptoB_true (Unk.mk (nthI [])) _ _ rank_in o.toNat hlt
    rw [hon] at hi
    have hi : rankIn o.toNat = true := hi
    unfold rankIn at hi
    split at hi
    · rename_i x y hs
      simp only [Bool.and_eq_true, decide_eq_true_eq] at hi
      have := Lin.span_true hs (within_unkL (ins_valid hv))
      unfold rkN
      split
      · show 0 ≤ (start o.toNat : Int) ∧ (start o.toNat : Int) < 73882029336998
        omega
      · omega
    · cases hi
  · omega
end Go.Ev

/-
  The law IsaRanks returns true.
-/
namespace Go.Ev
open Go.RowKit Go.Proofs

/-- Unknowns: x's seven numbers, its rank, n, and the seven numbers of what Unrank answers. -/
def u64b : Int × Int := (.ofNat 0, .ofNat 18446744073709551615)
def u32c : Int × Int := (.ofNat 0, .ofNat 4294967295)
def rvB : List (Int × Int) := [i64b, i64b, i64b, i64b, i64b, i64b, u32c, u64b, u64b, i64b, i64b, i64b, i64b, i64b, i64b, u32c]
def rvX : AV := .agg [lf .i64 rvB 0, lf .i64 rvB 1, lf .i64 rvB 2, lf .i64 rvB 3, lf .i64 rvB 4, lf .i64 rvB 5, lf .u32 rvB 6]
def rvY : AV := .agg [lf .i64 rvB 9, lf .i64 rvB 10, lf .i64 rvB 11, lf .i64 rvB 12, lf .i64 rvB 13, lf .i64 rvB 14, lf .u32 rvB 15]
def rvN : AV := lf .u64 rvB 8
def orcV (e1 e2 : Int) (f : Nat) : Option Orc := match f with
  | 15 => some (.given [([], .bool true)])
  | 39 => some (.given [([rvX], .tup [lf .u64 rvB 7, .int .i64 e1])])
  | 40 => some (.given [([rvX], .tup [lf .u64 rvB 7, .int .i64 e1])])
  | 41 => some (.given [([rvN], .tup [rvY, .int .i64 e2])])
  | 42 => some (.given [([rvN], .tup [rvY, .int .i64 e2])])
  | 43 => some (.given [([], .int .u64 (.ofNat 73882029336998))])
  | 44 => some (.given [([], .int .u64 (.ofNat 73882029336998))])
  | _ => none
noncomputable def rvRun (m : Int) (e1 e2 : Int) : Bool := evalA Tryz.prog (G1 m) (orcV e1 e2) 100000 7 [rvX, rvN] isTrue
set_option maxRecDepth 1000000 in
theorem rv_ev (m : Int) : (match rvRun m (.ofNat 0) (.ofNat 0) with | false => false | true => match rvRun m (.ofNat 0) (.ofNat 1) with | false => false | true => match rvRun m (.ofNat 6) (.ofNat 0) with | false => false | true => rvRun m (.ofNat 6) (.ofNat 1)) = true := by kernel_rfl
attribute [local irreducible] rvRun in
theorem rv_all (m : Int) {e1 e2 : Int} (h1 : e1 = 0 ∨ e1 = 6) (h2 : e2 = 0 ∨ e2 = 1) : rvRun m e1 e2 = true := by
  have key : ∀ x1 x2 x3 x4 : Bool, (match x1 with | false => false | true => match x2 with | false => false | true => match x3 with | false => false | true => x4) = true → x1 = true ∧ x2 = true ∧ x3 = true ∧ x4 = true := by decide
  obtain ⟨k1, k2, k3, k4⟩ := key _ _ _ _ (rv_ev m)
  rcases h1 with rfl | rfl <;> rcases h2 with rfl | rfl <;> assumption
theorem hb39 : HasBody Tryz.prog 39 := ⟨_, _, Tryz.func39, by kernel_rfl, rfl⟩
theorem hb40 : HasBody Tryz.prog 40 := ⟨_, _, Tryz.func40, by kernel_rfl, rfl⟩
theorem hb41 : HasBody Tryz.prog 41 := ⟨_, _, Tryz.func41, by kernel_rfl, rfl⟩
theorem hb42 : HasBody Tryz.prog 42 := ⟨_, _, Tryz.func42, by kernel_rfl, rfl⟩
theorem hb43 : HasBody Tryz.prog 43 := ⟨_, _, Tryz.func43, by kernel_rfl, rfl⟩
theorem hb44 : HasBody Tryz.prog 44 := ⟨_, _, Tryz.func44, by kernel_rfl, rfl⟩
theorem one_row [Unk] {m : Int} {f : Nat} {p : List AV} {v : AV} (hb : HasBody Tryz.prog f) (h : RowOK Tryz.prog (G1 m) f p v) : ∃ rows, Orc.given [(p, v)] = .given rows ∧ HasBody Tryz.prog f ∧ ∀ pat v, (pat, v) ∈ rows → RowOK Tryz.prog (G1 m) f pat v := by
  refine ⟨_, rfl, hb, fun pat v hm => ?_⟩
  simp only [List.mem_cons, List.not_mem_nil, or_false, Prod.mk.injEq] at hm
  obtain ⟨rfl, rfl⟩ := hm
  exact h
theorem row_num [Unk] {m : Int} {f : Nat} {orc : Nat → Option Orc} (hO : OrcSound Tryz.prog (G1 m) orc) {n : Int} (hev : evalA Tryz.prog (G1 m) orc 1000000 f [] (isRet (.int .u64 n)) = true) : RowOK Tryz.prog (G1 m) f [] (.int .u64 n) := by
  intro w vs hG hd
  match vs, hd with
  | [], _ =>
    refine Calls.mono (rowOK_of_eval hO noNG1 mix1 hev .nil (show Good (.int _ _) from trivial) hG) fun e w' he => ?_
    obtain ⟨u, rfl, _, hv, hb⟩ := he
    exact ⟨u, rfl, hv, hb⟩
theorem ranks_calls {m : Int} {w : World} (hG : GlobU m w) {o a b c d k i n : Int} (h : inI64 o ∧ inI64 a ∧ inI64 b ∧ inI64 c ∧ inI64 d ∧ inI64 k ∧ inU32 i) (hn : 0 ≤ n ∧ n ≤ 18446744073709551615) :
    Calls Tryz.prog 7 #[insnV o a b c d k i, .int .u64 n] w fun e w' => e = .returned (.bool true) ∧ Below w.heap.size w w' := by
  obtain ⟨o', a', b', c', d', k', i', er, h', her, hun⟩ := unranks n hn
  have hr := rkS_in (o := o) (a := a) (b := b) (c := c) (d := d) (k := k) (i := i)
  have hc : ∀ (m : Int) (w : World), GlobU m w → _ := fun m w hG => And.intro (rank_calls (m := m) (w := w) hG h) (rrank_calls (m := m) (w := w) hG h)
  have he1 : rkE o a b c d k i = 0 ∨ rkE o a b c d k i = 6 := by
    unfold rkE
    by_cases hv : validB o a b c d k i = true
    · exact .inl (if_pos hv)
    · exact .inr (if_neg hv)
  have he2 : er = 0 ∨ er = 1 := by
    rw [her]
    by_cases hl : n < 73882029336998
    · exact .inl (if_pos hl)
    · exact .inr (if_neg hl)
  have hev := rv_all m he1 he2
  generalize hR : rkS o a b c d k i = R at hr hc
  generalize hE : rkE o a b c d k i = E at he1 hc hev
  generalize hLL : [o, a, b, c, d, k, i, R, n, o', a', b', c', d', k', i'] = L
  obtain ⟨h0, h1, h2, h3, h4, h5, h6⟩ := h
  obtain ⟨g0, g1, g2, g3, g4, g5, g6⟩ := h'
  have hw : Ins L rvB := by
    subst hLL
    exact ⟨h0, h1, h2, h3, h4, h5, h6, ⟨hr.1, by show R ≤ (18446744073709551615 : Int); omega⟩, hn, g0, g1, g2, g3, g4, g5, g6, trivial⟩
  have q : ∀ (kd : IntKind) (j : Nat) (z : Int), nthI L j = z → ∀ ρ, @VR (Unk.mk (nthI L)) ρ (lf kd rvB j) (.int kd z) := fun kd j z hz ρ => vr_lf hw kd hz ρ
  have q0 := q .i64 0 o (by subst hLL; rfl)
  have q1 := q .i64 1 a (by subst hLL; rfl)
  have q2 := q .i64 2 b (by subst hLL; rfl)
  have q3 := q .i64 3 c (by subst hLL; rfl)
  have q4 := q .i64 4 d (by subst hLL; rfl)
  have q5 := q .i64 5 k (by subst hLL; rfl)
  have q6 := q .u32 6 i (by subst hLL; rfl)
  have q7 := q .u64 7 R (by subst hLL; rfl)
  have q8 := q .u64 8 n (by subst hLL; rfl)
  have q9 := q .i64 9 o' (by subst hLL; rfl)
  have q10 := q .i64 10 a' (by subst hLL; rfl)
  have q11 := q .i64 11 b' (by subst hLL; rfl)
  have q12 := q .i64 12 c' (by subst hLL; rfl)
  have q13 := q .i64 13 d' (by subst hLL; rfl)
  have q14 := q .i64 14 k' (by subst hLL; rfl)
  have q15 := q .u32 15 i' (by subst hLL; rfl)
  clear hLL
  letI : Unk := Unk.mk (nthI L)
  have hin := within_unkL hw
  have vx : ∀ ρ, VR ρ rvX (insnV o a b c d k i) := fun ρ => vr_7 (q0 ρ) (q1 ρ) (q2 ρ) (q3 ρ) (q4 ρ) (q5 ρ) (q6 ρ)
  have vy : ∀ ρ, VR ρ rvY (insnV o' a' b' c' d' k' i') := fun ρ => vr_7 (q9 ρ) (q10 ρ) (q11 ρ) (q12 ρ) (q13 ρ) (q14 ρ) (q15 ρ)
  have dx : Den rvX (insnV o a b c d k i) := den_of_vr ⟨hin, hin, hin, hin, hin, hin, hin, trivial⟩ (vx (fun _ => none))
  have dn : Den rvN (.int .u64 n) := den1_of_vr (show Good1 (lf .u64 rvB 8) from hin) (q8 (fun _ => none))
  have rx : ∀ f, (∀ (m : Int) (w : World), GlobU m w → Calls Tryz.prog f #[insnV o a b c d k i] w fun e w' => e = .returned (.tuple #[.int .u64 R, .int .i64 E]) ∧ Below w.heap.size w w') → RowOK Tryz.prog (G1 m) f [rvX] (.tup [lf .u64 rvB 7, .int .i64 E]) := fun f hf w vs hG' hd => by
    obtain rfl := denL_one dx hd
    refine Calls.mono (hf m w (globU_of hG')) fun e w' he => ?_
    obtain ⟨rfl, hb⟩ := he
    exact ⟨_, rfl, fun ρ => .tup _ _ (.cons _ _ _ _ (q7 ρ) (.cons _ _ _ _ (.int _ _) .nil)), hb⟩
  have rn : ∀ f, (∀ (m : Int) (w : World), GlobU m w → Calls Tryz.prog f #[.int .u64 n] w fun e w' => e = .returned (.tuple #[insnV o' a' b' c' d' k' i', .int .i64 er]) ∧ Below w.heap.size w w') → RowOK Tryz.prog (G1 m) f [rvN] (.tup [rvY, .int .i64 er]) := fun f hf w vs hG' hd => by
    obtain rfl := denL_one dn hd
    refine Calls.mono (hf m w (globU_of hG')) fun e w' he => ?_
    obtain ⟨rfl, hb⟩ := he
    exact ⟨_, rfl, fun ρ => .tup _ _ (.cons _ _ _ _ (vy ρ) (.cons _ _ _ _ (.int _ _) .nil)), hb⟩
  have hO : OrcSound Tryz.prog (G1 m) (orcV E er) := orcSound_given fun f oc hf => by
    unfold orcV at hf
    split at hf <;> cases hf
    · exact one_row hb15 (row_sane m)
    · exact one_row hb39 (rx 39 fun m w hG => (hc m w hG).1)
    · exact one_row hb40 (rx 40 fun m w hG => (hc m w hG).2)
    · exact one_row hb41 (rn 41 fun m w hG => (hun m w hG).1)
    · exact one_row hb42 (rn 42 fun m w hG => (hun m w hG).2)
    · exact one_row hb43 (row_num orcU_snd (count_ev m))
    · exact one_row hb44 (row_num (orcN_snd _) (rcount_ev m))
  exact true_of_eval hO hev (.cons _ _ _ _ (vx _) (.cons _ _ _ _ (q8 _) .nil)) (hG _)
end Go.Ev

