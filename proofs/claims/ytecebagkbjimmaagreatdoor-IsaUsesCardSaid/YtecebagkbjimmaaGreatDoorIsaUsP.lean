import Derived.Test.YtecebagkbjimmaaGreatDoorIsaUsAH
import Derived.Test.YtecebagkbjimmaaGreatDoorIsaUsAH
import Derived.Test.YtecebagkbjimmaaGreatDoorIsaUsAH
import Derived.Test.YtecebagkbjimmaaGreatDoorIsaUsAH
import Derived.Test.YtecebagkbjimmaaGreatDoorIsaUsAH
import Derived.Test.YtecebagkbjimmaaGreatDoorIsaUsAH
import Derived.Test.YtecebagkbjimmaaGreatDoorIsaUsAH
import Derived.Test.YtecebagkbjimmaaGreatDoorIsaUsAH
import Derived.Test.YtecebagkbjimmaaGreatDoorIsaRkQS
set_option linter.unusedSectionVars false
set_option linter.unusedVariables false
set_option linter.unusedSimpArgs false
/-
  The law IsaUses returns true.
-/
namespace Go.Ev
open Go.RowKit Go.Proofs
theorem us_all (m : Int) {i : Nat} (hi : i < 73) : usRun m i = true := by
  have at_ : ∀ {a n : Nat}, uptoB (fun i => usRun m (a + i)) n = true → a ≤ i → i < a + n → usRun m i = true := fun {a n} h h1 h2 => by
    have := @uptoB_true (Unk.mk (nthI [])) _ _ h (i - a) (by omega)
    rwa [show a + (i - a) = i by omega] at this
  by_cases h1 : i < 10
  · exact at_ (us_0 m) (by omega) (by omega)
  by_cases h2 : i < 20
  · exact at_ (us_10 m) (by omega) (by omega)
  by_cases h3 : i < 29
  · exact at_ (us_20 m) (by omega) (by omega)
  by_cases h4 : i < 38
  · exact at_ (us_29 m) (by omega) (by omega)
  by_cases h5 : i < 47
  · exact at_ (us_38 m) (by omega) (by omega)
  by_cases h6 : i < 56
  · exact at_ (us_47 m) (by omega) (by omega)
  by_cases h7 : i < 65
  · exact at_ (us_56 m) (by omega) (by omega)
  · exact at_ (us_65 m) (by omega) (by omega)
section
variable {m : Int} {w : World} {o a b c d k i : Int}
theorem isop_valid' (hv : validB o a b c d k i = true) : isOpB o = true := by
  unfold validB at hv
  simp only [Bool.and_eq_true] at hv
  exact hv.1
theorem ins_valid' (hv : validB o a b c d k i = true) : Ins [a, b, c, d, k, i] (rt o.toNat) := by
  have hop := isop_valid' hv
  obtain ⟨hon, hlt, hoz⟩ := opN_of hop
  obtain ⟨a4, b0, b1, b2, b3, b4, b5, hr, _⟩ := spans_of hlt
  have := (valid_iff hop hr).1 hv
  rw [hr]
  exact ⟨this.1, this.2.1, this.2.2.1, this.2.2.2.1, this.2.2.2.2.1, this.2.2.2.2.2, trivial⟩
theorem den_opArg (hv : validB o a b c d k i = true) : @Den (Unk.mk (nthI [a, b, c, d, k, i])) (opArg o.toNat (rt o.toNat)) (insnV o a b c d k i) := by
  obtain ⟨_, _, hoz⟩ := opN_of (isop_valid' hv)
  letI : Unk := Unk.mk (nthI [a, b, c, d, k, i])
  have one : ∀ (kd : IntKind) (n : Nat) (z : Int), nthI [a, b, c, d, k, i] n = z → Value.int kd z = .int kd ((0 : Int) + Lin.val (nthI [a, b, c, d, k, i]) (e1 n 1) 0) := fun kd n z h => by
    rw [val_u, h]; congr 1; omega
  exact ⟨_, rfl, by show Value.int .i64 o = .int .i64 (.ofNat o.toNat); exact congrArg (Value.int .i64) hoz.symm, one _ 0 _ rfl, one _ 1 _ rfl, one _ 2 _ rfl, one _ 3 _ rfl, one _ 4 _ rfl, one _ 5 _ rfl, trivial⟩
theorem good_opArg' (hv : validB o a b c d k i = true) : @Good (Unk.mk (nthI [a, b, c, d, k, i])) (opArg o.toNat (rt o.toNat)) := by
  have h := within_unkL (ins_valid' hv)
  exact ⟨trivial, h, h, h, h, h, h, trivial⟩
theorem row18_at [Unk] {p : AV} {r : Int} (hd : Den p (insnV o a b c d k i)) (h : inI64 o ∧ inI64 a ∧ inI64 b ∧ inI64 c ∧ inI64 d ∧ inI64 k ∧ inU32 i) (hr : r = if validB o a b c d k i = true then 0 else 6) : RowOK Tryz.prog (G1 m) 18 [p] (.int .i64 r) := by
  intro w vs hG hd'
  obtain rfl := denL_one hd hd'
  obtain ⟨h0, h1, h2, h3, h4, h5, h6⟩ := h
  refine Calls.mono (check_calls (globU_of hG) h0 h1 h2 h3 h4 h5 h6) fun e w' he => ?_
  obtain ⟨rfl, hb⟩ := he
  rw [← hr]
  exact ⟨_, rfl, fun ρ => .int _ _, hb⟩
theorem row56_at [Unk] {p : AV} {v : Bool} (hd : Den p (insnV o a b c d k i)) (h : inI64 o ∧ inI64 a ∧ inI64 b ∧ inI64 c ∧ inI64 d ∧ inI64 k ∧ inU32 i) (hr : v = validB o a b c d k i) : RowOK Tryz.prog (G1 m) 56 [p] (.bool v) := by
  intro w vs hG hd'
  obtain rfl := denL_one hd hd'
  obtain ⟨h0, h1, h2, h3, h4, h5, h6⟩ := h
  refine Calls.mono (is_calls (globU_of hG) h0 h1 h2 h3 h4 h5 h6) fun e w' he => ?_
  obtain ⟨rfl, hb⟩ := he
  rw [← hr]
  exact ⟨_, rfl, fun ρ => .bool _, hb⟩
theorem uses_calls (hG : GlobU m w) (h : inI64 o ∧ inI64 a ∧ inI64 b ∧ inI64 c ∧ inI64 d ∧ inI64 k ∧ inU32 i) :
    Calls Tryz.prog 6 #[insnV o a b c d k i] w fun e w' => e = .returned (.bool true) ∧ Below w.heap.size w w' := by
  by_cases hv : validB o a b c d k i = true
  · obtain ⟨hon, hlt, hoz⟩ := opN_of (isop_valid' hv)
    have hev := us_all m hlt
    unfold usRun at hev
    rw [hon] at hev
    have dx := den_opArg hv
    have gx := good_opArg' hv
    letI : Unk := Unk.mk (nthI [a, b, c, d, k, i])
    have hO : OrcSound Tryz.prog (G1 m) (orcUs o.toNat) := orcSound_given fun f oc hf => by
      unfold orcUs at hf
      split at hf
      · rename_i h'
        have h' := beqF h'
        subst h'
        cases hf
        refine ⟨_, rfl, hb15, fun pat v hm => ?_⟩
        simp only [List.mem_cons, List.not_mem_nil, or_false, Prod.mk.injEq] at hm
        obtain ⟨rfl, rfl⟩ := hm
        exact row_sane m
      · split at hf
        · rename_i h'
          have h' := beqF h'
          subst h'
          cases hf
          refine ⟨_, rfl, hb18, fun pat v hm => ?_⟩
          simp only [List.mem_cons, List.not_mem_nil, or_false, Prod.mk.injEq] at hm
          obtain ⟨rfl, rfl⟩ := hm
          exact row18_at dx h (by rw [if_pos hv]; rfl)
        · split at hf
          · rename_i h'
            have h' := beqF h'
            subst h'
            cases hf
            refine ⟨_, rfl, hb56, fun pat v hm => ?_⟩
            simp only [List.mem_cons, List.not_mem_nil, or_false, Prod.mk.injEq] at hm
            obtain ⟨rfl, rfl⟩ := hm
            exact row56_at dx h hv.symm
          · cases hf
    exact true_of_eval hO hev (.cons _ _ _ _ (vr_of_den gx dx) .nil) (hG _)
  · have hv' : validB o a b c d k i = false := by simpa using hv
    have hx : IsX .inv o a b c d k i := ⟨h, hv'⟩
    have hw := ins_xl hx
    have vx := vr_xa (o := 0) hw hx (fun j _ => by rw [Nat.zero_add]) (fun _ => none)
    have dx := @den_of_vr (Unk.mk (nthI (xl .inv o a b c d k i))) _ _ _ (goodS_xa hw 0 .inv) vx
    letI : Unk := Unk.mk (nthI (xl .inv o a b c d k i))
    have hO : OrcSound Tryz.prog (G1 m) orcUn := orcSound_given fun f oc hf => by
      unfold orcUn at hf
      split at hf
      · rename_i h'
        have h' := beqF h'
        subst h'
        cases hf
        refine ⟨_, rfl, hb15, fun pat v hm => ?_⟩
        simp only [List.mem_cons, List.not_mem_nil, or_false, Prod.mk.injEq] at hm
        obtain ⟨rfl, rfl⟩ := hm
        exact row_sane m
      · split at hf
        · rename_i h'
          have h' := beqF h'
          subst h'
          cases hf
          refine ⟨_, rfl, hb18, fun pat v hm => ?_⟩
          simp only [List.mem_cons, List.not_mem_nil, or_false, Prod.mk.injEq] at hm
          obtain ⟨rfl, rfl⟩ := hm
          exact row18_at dx h (by rw [hv']; rfl)
        · split at hf
          · rename_i h'
            have h' := beqF h'
            subst h'
            cases hf
            refine ⟨_, rfl, hb56, fun pat v hm => ?_⟩
            simp only [List.mem_cons, List.not_mem_nil, or_false, Prod.mk.injEq] at hm
            obtain ⟨rfl, rfl⟩ := hm
            exact row56_at dx h hv'.symm
          · cases hf
    exact true_of_eval hO (us_no m) (.cons _ _ _ _ vx .nil) (hG _)
end
end Go.Ev
