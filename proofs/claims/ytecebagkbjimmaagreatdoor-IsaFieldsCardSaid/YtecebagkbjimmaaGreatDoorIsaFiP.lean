import Derived.Test.YtecebagkbjimmaaGreatDoorIsaFi
set_option linter.unusedSectionVars false
set_option linter.unusedVariables false
set_option linter.unusedSimpArgs false
namespace Go.Ev
open Go.RowKit Go.Proofs

def fbo (opb : Int × Int) : List (Int × Int) := [i64b, i64b, i64b, i64b, i64b, u32b, i64b, i64b, opb]
noncomputable def fNone (m : Int) (opb : Int × Int) : Bool := evalA Tryz.prog (G1 m) (orcF [] 0) 100000 12 [fx (lf .i64 (fbo opb) 8) (fbo opb), lf .i64 (fbo opb) 7, lf .i64 (fbo opb) 6] isTrue
set_option maxRecDepth 1000000 in
theorem none_ev1 (m : Int) : fNone m (.negSucc 9223372036854775807, .ofNat 0) = true := by kernel_rfl
set_option maxRecDepth 1000000 in
theorem none_ev2 (m : Int) : fNone m (.ofNat 62, .ofNat 63) = true := by kernel_rfl
set_option maxRecDepth 1000000 in
theorem none_ev3 (m : Int) : fNone m (.ofNat 73, .ofNat 9223372036854775807) = true := by kernel_rfl

theorem hb49 : HasBody Tryz.prog 49 := ⟨_, _, Tryz.func49, by kernel_rfl, rfl⟩
theorem orcF_snd [Unk] {m : Int} {rows : List (List AV × AV)} {q : Nat} (hq : q < 6) (hr : ∀ pat v, (pat, v) ∈ rows → RowOK Tryz.prog (G1 m) 18 pat v) : OrcSound Tryz.prog (G1 m) (orcF rows q) := orcSound_given fun f oc hf => by
  unfold orcF at hf
  split at hf
  · rename_i h15
    have h15 := beqF h15
    subst h15
    cases hf
    refine ⟨_, rfl, hb15, fun pat v hm => ?_⟩
    simp only [List.mem_cons, List.not_mem_nil, or_false, Prod.mk.injEq] at hm
    obtain ⟨rfl, rfl⟩ := hm
    exact row_sane m
  · split at hf
    · rename_i h18
      have h18 := beqF h18
      subst h18
      cases hf
      exact ⟨_, rfl, hb18, hr⟩
    · split at hf
      · rename_i h49
        have h49 := beqF h49
        subst h49
        cases hf
        refine ⟨_, rfl, hb49, fun pat v hm => ?_⟩
        obtain ⟨k, hk, rfl, rfl⟩ := rangeRows_mem hm
        exact row_range hk hq
      · cases hf
/-- A pattern that stands for an instruction: what Check answers of it. -/
theorem row_chk [Unk] {m : Int} {l : List AV} {o a b c d k i r : Int} (hg : GoodS l) (hv : VR (fun _ => none) (.agg l) (insnV o a b c d k i)) (h0 : inI64 o) (h1 : inI64 a) (h2 : inI64 b) (h3 : inI64 c) (h4 : inI64 d) (h5 : inI64 k) (h6 : inU32 i)
    (hr : (if validB o a b c d k i = true then 0 else 6) = r) : RowOK Tryz.prog (G1 m) 18 [.agg l] (.int .i64 r) := by
  intro w vs hG hd
  obtain rfl := denL_one (den_of_vr hg hv) hd
  refine Calls.mono (check_calls (globU_of hG) h0 h1 h2 h3 h4 h5 h6) fun e w' he => ?_
  obtain ⟨rfl, hb⟩ := he
  subst hr
  exact ⟨_, rfl, fun ρ => .int _ _, hb⟩
theorem vr_seven [Unk] {ρ : Rho} {x0 x1 x2 x3 x4 x5 x6 : AV} {o a b c d k i : Int} (h0 : VR ρ x0 (.int .i64 o)) (h1 : VR ρ x1 (.int .i64 a)) (h2 : VR ρ x2 (.int .i64 b)) (h3 : VR ρ x3 (.int .i64 c)) (h4 : VR ρ x4 (.int .i64 d)) (h5 : VR ρ x5 (.int .i64 k)) (h6 : VR ρ x6 (.int .u32 i)) :
    VR ρ (.agg [x0, x1, x2, x3, x4, x5, x6]) (insnV o a b c d k i) :=
  .agg _ _ (.cons _ _ _ _ h0 (.cons _ _ _ _ h1 (.cons _ _ _ _ h2 (.cons _ _ _ _ h3 (.cons _ _ _ _ h4 (.cons _ _ _ _ h5 (.cons _ _ _ _ h6 .nil)))))))
theorem isOpN_of {o : Int} (h : isOpB o = true) : isOpN o.toNat = true ∧ o.toNat < 73 ∧ (o.toNat : Int) = o := by
  simp only [isOpB, Bool.or_eq_true, Bool.and_eq_true, decide_eq_true_eq] at h
  refine ⟨?_, by omega, by omega⟩
  have key : ∀ n, n < 73 → (1 ≤ n ∧ n ≤ 61 ∨ 64 ≤ n) → isOpN n = true := by
    have : uptoB (fun n => isOpN n || (Nat.blt n 1 || (Nat.ble 62 n && Nat.ble n 63))) 73 = true := by kernel_rfl
    intro n hn hc
    have := @uptoB_true (Unk.mk (nthI [])) _ _ this n hn
    simp only [Bool.or_eq_true, Bool.and_eq_true, Nat.blt_eq, Nat.ble_eq] at this
    rcases this with h | h
    · exact h
    · omega
  exact key _ (by omega) (by omega)
section
variable {m : Int} {w : World} {o a b c d k i wh to : Int}
/-- Without the fields' own ranges: x is none, or 'which' is out of its range. -/
theorem out_calls (hG : GlobU m w) (h0 : inI64 o) (h1 : inI64 a) (h2 : inI64 b) (h3 : inI64 c) (h4 : inI64 d) (h5 : inI64 k) (h6 : inU32 i) (ht : inI64 to) {op : Nat} (hop : (op : Int) = o) {r : Int} {wb : Int × Int} (hwb : wb.1 ≤ wh ∧ wh ≤ wb.2)
    (hr : (if validB o a b c d k i = true then 0 else 6) = r) (hev : fOut m (fOp op) r wb = true) :
    Calls Tryz.prog 12 #[insnV o a b c d k i, .int .i64 wh, .int .i64 to] w fun e w' => e = .returned (.bool true) ∧ Below w.heap.size w w' := by
  have hw : Ins [a, b, c, d, k, i, to, wh] (fb i64b wb) := ⟨h1, h2, h3, h4, h5, h6, ht, hwb, trivial⟩
  letI : Unk := Unk.mk (nthI [a, b, c, d, k, i, to, wh])
  subst hop
  have hin := within_unkL hw
  have vx : VR (fun _ => none) (fx (fOp op) (fb i64b wb)) (insnV op a b c d k i) := vr_seven (.int _ _) (vr_lf hw _ rfl _) (vr_lf hw _ rfl _) (vr_lf hw _ rfl _) (vr_lf hw _ rfl _) (vr_lf hw _ rfl _) (vr_lf hw _ rfl _)
  refine true_of_eval (orcF_snd (by omega) fun pat v hm => ?_) hev (.cons _ _ _ _ vx (.cons _ _ _ _ (vr_lf hw _ rfl _) (.cons _ _ _ _ (vr_lf hw _ rfl _) .nil))) (hG _)
  simp only [List.mem_cons, List.not_mem_nil, or_false, Prod.mk.injEq] at hm
  obtain ⟨rfl, rfl⟩ := hm
  exact row_chk ⟨trivial, hin, hin, hin, hin, hin, hin, trivial⟩ vx h0 h1 h2 h3 h4 h5 h6 hr
theorem none_calls (hG : GlobU m w) (h1 : inI64 a) (h2 : inI64 b) (h3 : inI64 c) (h4 : inI64 d) (h5 : inI64 k) (h6 : inU32 i) (ht : inI64 to) (hwh : inI64 wh) {opb : Int × Int} (hop : opb.1 ≤ o ∧ o ≤ opb.2) (hev : fNone m opb = true) :
    Calls Tryz.prog 12 #[insnV o a b c d k i, .int .i64 wh, .int .i64 to] w fun e w' => e = .returned (.bool true) ∧ Below w.heap.size w w' := by
  have hw : Ins [a, b, c, d, k, i, to, wh, o] (fbo opb) := ⟨h1, h2, h3, h4, h5, h6, ht, hwh, hop, trivial⟩
  letI : Unk := Unk.mk (nthI [a, b, c, d, k, i, to, wh, o])
  exact true_of_eval (orcF_snd (by omega) fun pat v hm => by cases hm) hev (.cons _ _ _ _ (vr_seven (vr_lf hw _ rfl _) (vr_lf hw _ rfl _) (vr_lf hw _ rfl _) (vr_lf hw _ rfl _) (vr_lf hw _ rfl _) (vr_lf hw _ rfl _) (vr_lf hw _ rfl _)) (.cons _ _ _ _ (vr_lf hw _ rfl _) (.cons _ _ _ _ (vr_lf hw _ rfl _) .nil))) (hG _)
/-- A field of an instruction set to a number. -/
theorem set_calls (hG : GlobU m w) (h0 : inI64 o) (h1 : inI64 a) (h2 : inI64 b) (h3 : inI64 c) (h4 : inI64 d) (h5 : inI64 k) (h6 : inU32 i) (hv : validB o a b c d k i = true) {op q t : Nat} (hop : (op : Int) = o) (hq : q < 6) (htb : (tB op q t).1 ≤ to ∧ to ≤ (tB op q t).2)
    (hev : fRun m op q t = true)
    (hy : ∀ (L : List Int), L = [a, b, c, d, k, i, to, 0] → (hw : Ins L (fb (tB op q t) i64b)) → tY q t = true → @RowOK (Unk.mk (nthI L)) Tryz.prog (G1 m) 18 [fy (fOp op) q (tZ op t) (fb (tB op q t) i64b)] (.int .i64 (tR t))) :
    Calls Tryz.prog 12 #[insnV o a b c d k i, .int .i64 (q : Int), .int .i64 to] w fun e w' => e = .returned (.bool true) ∧ Below w.heap.size w w' := by
  have hw : Ins [a, b, c, d, k, i, to, 0] (fb (tB op q t) i64b) := ⟨h1, h2, h3, h4, h5, h6, htb, ⟨by decide, by decide⟩, trivial⟩
  have hyr := hy _ rfl hw
  letI : Unk := Unk.mk (nthI [a, b, c, d, k, i, to, 0])
  subst hop
  have hin := within_unkL hw
  have vx : VR (fun _ => none) (fx (fOp op) (fb (tB op q t) i64b)) (insnV op a b c d k i) := vr_seven (.int _ _) (vr_lf hw _ rfl _) (vr_lf hw _ rfl _) (vr_lf hw _ rfl _) (vr_lf hw _ rfl _) (vr_lf hw _ rfl _) (vr_lf hw _ rfl _)
  refine true_of_eval (orcF_snd hq fun pat v hm => ?_) hev (.cons _ _ _ _ vx (.cons _ _ _ _ (.int _ _) (.cons _ _ _ _ (vr_lf hw _ rfl _) .nil))) (hG _)
  simp only [rowsF, List.mem_cons, Prod.mk.injEq] at hm
  rcases hm with ⟨rfl, rfl⟩ | hm
  · exact row_chk ⟨trivial, hin, hin, hin, hin, hin, hin, trivial⟩ vx h0 h1 h2 h3 h4 h5 h6 (by rw [if_pos hv]; rfl)
  · split at hm
    · rename_i ht
      simp only [List.mem_cons, List.not_mem_nil, or_false, Prod.mk.injEq] at hm
      obtain ⟨rfl, rfl⟩ := hm
      exact hyr ht
    · cases hm
end
end Go.Ev
