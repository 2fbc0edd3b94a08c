import Derived.Test.YtmiccmelipbakaaGreatDoorIsaCh
set_option linter.unusedSectionVars false
set_option linter.unusedVariables false
set_option linter.unusedSimpArgs false
/-
  Instructions by unknown numbers: none, short ones and long ones; the rows that the evaluator is given for sane() and for isa.Check.
-/
namespace Go.Ev
open Go.RowKit Go.Proofs

/-- What an instruction may be: none; one of four bytes; one of eight. -/
inductive XK where
  | inv
  | sh
  | lg
def xlen : XK → Nat
  | .inv => 0
  | .sh => 4
  | .lg => 8
def xret : XK → Int
  | .inv => .ofNat 6
  | _ => .ofNat 0
def i64b : Int × Int := (.negSucc 9223372036854775807, .ofNat 9223372036854775807)
def zb : Int × Int := (.ofNat 0, .ofNat 0)
def rb : Int × Int := (.ofNat 0, .ofNat 15)
def bb : Int × Int := (.ofNat 0, .ofNat 255)
/-- The bounds of the eleven unknowns: op, A, B, C, D; K's byte, and whether K is below 0; I's bytes. Of none: its fields as they are. -/
def xb : XK → List (Int × Int)
  | .inv => [i64b, i64b, i64b, i64b, i64b, i64b, zb, (.ofNat 0, .ofNat 4294967295), zb, zb, zb]
  | .sh => [(.ofNat 1, .ofNat 61), rb, rb, rb, rb, bb, (.ofNat 0, .ofNat 1), bb, bb, bb, bb]
  | .lg => [(.ofNat 64, .ofNat 72), rb, rb, rb, rb, bb, (.ofNat 0, .ofNat 1), bb, bb, bb, bb]
def xl (x : XK) (op a b c d k i : Int) : List Int := match x with
  | .inv => [op, a, b, c, d, k, 0, i, 0, 0, 0]
  | _ => [op, a, b, c, d, k % 256, (k % 256 - k) / 256, i % 256, i / 256 % 256, i / 65536 % 256, i / 16777216]
def lf (kd : IntKind) (bs : List (Int × Int)) (n : Nat) : AV := .lin kd (.ofNat 0) (e1 n (.ofNat 1)) bs
def xa (o : Nat) (x : XK) (bs : List (Int × Int)) : AV := .agg [lf .i64 bs o, lf .i64 bs (o + 1), lf .i64 bs (o + 2), lf .i64 bs (o + 3), lf .i64 bs (o + 4),
  (match x with | .inv => lf .i64 bs (o + 5) | _ => .lin .i64 (.ofNat 0) (Lin.add (e1 (o + 5) (.ofNat 1)) (e1 (o + 6) (.negSucc 255))) bs),
  (match x with | .inv => lf .u32 bs (o + 7) | _ => .lin .u32 (.ofNat 0) (Lin.add (e1 (o + 7) (.ofNat 1)) (Lin.add (e1 (o + 8) (.ofNat 256)) (Lin.add (e1 (o + 9) (.ofNat 65536)) (e1 (o + 10) (.ofNat 16777216))))) bs)]
/-- The numbers are of this sort. -/
def IsX (x : XK) (op a b c d k i : Int) : Prop :=
  (inI64 op ∧ inI64 a ∧ inI64 b ∧ inI64 c ∧ inI64 d ∧ inI64 k ∧ inU32 i) ∧ (match x with | .inv => validB op a b c d k i = false | .sh => validB op a b c d k i = true ∧ op ≤ 61 | .lg => validB op a b c d k i = true ∧ 61 < op)
theorem isX_some {op a b c d k i : Int} (h : inI64 op ∧ inI64 a ∧ inI64 b ∧ inI64 c ∧ inI64 d ∧ inI64 k ∧ inU32 i) : ∃ x, IsX x op a b c d k i := by
  by_cases hv : validB op a b c d k i = true
  · by_cases ho : op ≤ 61
    · exact ⟨.sh, h, hv, ho⟩
    · exact ⟨.lg, h, hv, by omega⟩
  · exact ⟨.inv, h, by simpa using hv⟩
/-- What is so of every instruction. -/
theorem valid_ranges {op a b c d k i : Int} (h : validB op a b c d k i = true) : ((1 ≤ op ∧ op ≤ 61) ∨ (64 ≤ op ∧ op ≤ 72)) ∧ (0 ≤ a ∧ a ≤ 15) ∧ (0 ≤ b ∧ b ≤ 15) ∧ (0 ≤ c ∧ c ≤ 15) ∧ (0 ≤ d ∧ d ≤ 15) ∧ (-128 ≤ k ∧ k ≤ 127) ∧ (0 ≤ i ∧ i ≤ 4294967295) := by
  have hop : isOpB op = true := by
    unfold validB at h
    simp only [Bool.and_eq_true] at h
    exact h.1
  have hop' := hop
  simp only [isOpB, Bool.or_eq_true, Bool.and_eq_true, decide_eq_true_eq] at hop'
  obtain ⟨a4, b0, b1, b2, b3, b4, b5, hr, k1, k2, g0, g1, g2, g3, g4, g5⟩ := spans_of (show op.toNat < 73 by omega)
  have := (valid_iff hop hr).1 h
  refine ⟨hop', ?_⟩
  omega
theorem ins_append : ∀ {l : List Int} {bs : List (Int × Int)} {l' : List Int} {bs' : List (Int × Int)}, l.length = bs.length → Ins l bs → Ins l' bs' → Ins (l ++ l') (bs ++ bs')
  | [], [], _, _, _, _, h' => h'
  | [], _ :: _, _, _, hl, _, _ => by simp at hl
  | _ :: _, [], _, _, hl, _, _ => by simp at hl
  | x :: l, b :: bs, _, _, hl, h, h' => ⟨h.1, ins_append (by simpa using hl) h.2 h'⟩
theorem nthI_left : ∀ {l l' : List Int} {n : Nat}, n < l.length → nthI (l ++ l') n = nthI l n
  | [], _, _, h => by simp at h
  | _ :: _, _, 0, _ => rfl
  | x :: l, l', n + 1, h => by
    show nthI (l ++ l') n = nthI l n
    exact nthI_left (by simpa using h)
theorem nthI_right : ∀ {l l' : List Int} (n : Nat), nthI (l ++ l') (l.length + n) = nthI l' n
  | [], _, _ => by simp
  | x :: l, l', n => by
    have : (x :: l).length + n = (l.length + n) + 1 := by simp; omega
    rw [this]
    exact nthI_right n
theorem xl_len (x : XK) (op a b c d k i : Int) : (xl x op a b c d k i).length = 11 := by cases x <;> rfl
theorem xb_len (x : XK) : (xb x).length = 11 := by cases x <;> rfl
theorem ins_xl {x : XK} {op a b c d k i : Int} (h : IsX x op a b c d k i) : Ins (xl x op a b c d k i) (xb x) := by
  obtain ⟨⟨h0, h1, h2, h3, h4, h5, h6⟩, hx⟩ := h
  unfold inI64 at h0 h1 h2 h3 h4 h5
  unfold inU32 at h6
  cases x
  · exact ⟨h0, h1, h2, h3, h4, h5, ⟨Int.le_refl _, Int.le_refl _⟩, h6, ⟨Int.le_refl _, Int.le_refl _⟩, ⟨Int.le_refl _, Int.le_refl _⟩, ⟨Int.le_refl _, Int.le_refl _⟩, trivial⟩
  · obtain ⟨hv, ho⟩ := hx
    obtain ⟨g0, g1, g2, g3, g4, g5, g6⟩ := valid_ranges hv
    refine ⟨⟨?_, ho⟩, g1, g2, g3, g4, ⟨?_, ?_⟩, ⟨?_, ?_⟩, ⟨?_, ?_⟩, ⟨?_, ?_⟩, ⟨?_, ?_⟩, ⟨?_, ?_⟩, trivial⟩
    · show 1 ≤ op; omega
    · show 0 ≤ k % 256; omega
    · show k % 256 ≤ 255; omega
    · show 0 ≤ (k % 256 - k) / 256; omega
    · show (k % 256 - k) / 256 ≤ 1; omega
    · show 0 ≤ i % 256; omega
    · show i % 256 ≤ 255; omega
    · show 0 ≤ i / 256 % 256; omega
    · show i / 256 % 256 ≤ 255; omega
    · show 0 ≤ i / 65536 % 256; omega
    · show i / 65536 % 256 ≤ 255; omega
    · show 0 ≤ i / 16777216; omega
    · show i / 16777216 ≤ 255; omega
  · obtain ⟨hv, ho⟩ := hx
    obtain ⟨g0, g1, g2, g3, g4, g5, g6⟩ := valid_ranges hv
    refine ⟨⟨?_, ?_⟩, g1, g2, g3, g4, ⟨?_, ?_⟩, ⟨?_, ?_⟩, ⟨?_, ?_⟩, ⟨?_, ?_⟩, ⟨?_, ?_⟩, ⟨?_, ?_⟩, trivial⟩
    · show 64 ≤ op; omega
    · show op ≤ 72; omega
    · show 0 ≤ k % 256; omega
    · show k % 256 ≤ 255; omega
    · show 0 ≤ (k % 256 - k) / 256; omega
    · show (k % 256 - k) / 256 ≤ 1; omega
    · show 0 ≤ i % 256; omega
    · show i % 256 ≤ 255; omega
    · show 0 ≤ i / 256 % 256; omega
    · show i / 256 % 256 ≤ 255; omega
    · show 0 ≤ i / 65536 % 256; omega
    · show i / 65536 % 256 ≤ 255; omega
    · show 0 ≤ i / 16777216; omega
    · show i / 16777216 ≤ 255; omega
theorem vr_lf {L : List Int} {bs : List (Int × Int)} (hw : Ins L bs) (kd : IntKind) {n : Nat} {z : Int} (hz : nthI L n = z) (ρ : Rho) : @VR (Unk.mk (nthI L)) ρ (lf kd bs n) (.int kd z) := by
  subst hz; exact vr_lin1 hw kd n ρ
theorem vr_xa {L : List Int} {bs : List (Int × Int)} (hw : Ins L bs) {o : Nat} {x : XK} {op a b c d k i : Int} (hx : IsX x op a b c d k i) (hL : ∀ j, j < 11 → nthI L (o + j) = nthI (xl x op a b c d k i) j) (ρ : Rho) :
    @VR (Unk.mk (nthI L)) ρ (xa o x bs) (insnV op a b c d k i) := by
  letI : Unk := Unk.mk (nthI L)
  have h0 := hL 0 (by omega)
  have h1 := hL 1 (by omega)
  have h2 := hL 2 (by omega)
  have h3 := hL 3 (by omega)
  have h4 := hL 4 (by omega)
  have h5 := hL 5 (by omega)
  have h6 := hL 6 (by omega)
  have h7 := hL 7 (by omega)
  have h8 := hL 8 (by omega)
  have h9 := hL 9 (by omega)
  have h10 := hL 10 (by omega)
  obtain ⟨⟨-, -, -, -, -, -, -⟩, hx⟩ := hx
  cases x
  · exact .agg _ _ (.cons _ _ _ _ (vr_lf hw _ h0 _) (.cons _ _ _ _ (vr_lf hw _ h1 _) (.cons _ _ _ _ (vr_lf hw _ h2 _) (.cons _ _ _ _ (vr_lf hw _ h3 _) (.cons _ _ _ _ (vr_lf hw _ h4 _) (.cons _ _ _ _ (vr_lf hw _ h5 _) (.cons _ _ _ _ (vr_lf hw _ h7 _) .nil)))))))
  all_goals
    refine .agg _ _ (.cons _ _ _ _ (vr_lf hw _ h0 _) (.cons _ _ _ _ (vr_lf hw _ h1 _) (.cons _ _ _ _ (vr_lf hw _ h2 _) (.cons _ _ _ _ (vr_lf hw _ h3 _) (.cons _ _ _ _ (vr_lf hw _ h4 _) (.cons _ _ _ _ (.lin _ _ _ _ _ ?_ (within_unkL hw)) (.cons _ _ _ _ (.lin _ _ _ _ _ ?_ (within_unkL hw)) .nil)))))))
    · show k = (0 : Int) + Lin.val (nthI L) (Lin.add (e1 (o + 5) 1) (e1 (o + 6) (-256))) 0
      rw [Lin.val_add, val_u, val_u, h5, h6]
      show k = 0 + (1 * (k % 256) + -256 * ((k % 256 - k) / 256))
      omega
    · show i = (0 : Int) + Lin.val (nthI L) (Lin.add (e1 (o + 7) 1) (Lin.add (e1 (o + 8) 256) (Lin.add (e1 (o + 9) 65536) (e1 (o + 10) 16777216)))) 0
      rw [Lin.val_add, Lin.val_add, Lin.val_add, val_u, val_u, val_u, val_u, h7, h8, h9, h10]
      show i = 0 + (1 * (i % 256) + (256 * (i / 256 % 256) + (65536 * (i / 65536 % 256) + 16777216 * (i / 16777216))))
      omega
/-! ### Plain values and what they stand for -/
theorem den1_of_vr [Unk] {ρ : Rho} {a : AV} {v : Value} (hg : Good1 a) (h : VR ρ a v) : Den1 a v := by
  cases h <;> first
    | exact hg.elim
    | rfl
    | (rename_i hn _; rw [hn]; rfl)
    | (rename_i hs; exact ⟨_, rfl, hs⟩)
theorem denS_of_vrs [Unk] {ρ : Rho} : ∀ {l : List AV} {vs : List Value}, GoodS l → VRs ρ l vs → DenS l vs
  | [], _, _, .nil => trivial
  | _ :: _, _, hg, .cons _ _ _ _ h hs => ⟨den1_of_vr hg.1 h, denS_of_vrs hg.2 hs⟩
theorem den_of_vr [Unk] {ρ : Rho} {l : List AV} {v : Value} (hg : GoodS l) (h : VR ρ (.agg l) v) : Den (.agg l) v := by
  cases h with
  | agg _ cs hs => exact ⟨cs, rfl, denS_of_vrs hg hs⟩
theorem goodS_xa {L : List Int} {bs : List (Int × Int)} (hw : Ins L bs) (o : Nat) (x : XK) : @Good (Unk.mk (nthI L)) (xa o x bs) := by
  have h := within_unkL hw
  cases x <;> exact ⟨h, h, h, h, h, h, h, trivial⟩
/-- One value of a pattern. -/
theorem denL_one [Unk] {a : AV} {v : Value} {vs : List Value} (ha : Den a v) (h : DenL [a] vs) : vs = [v] := by
  match vs, h with
  | [x], h => rw [den_unique h.1 ha]
/-! ### The rows -/
theorem hb15 : HasBody Tryz.prog 15 := ⟨_, _, Tryz.func15, by kernel_rfl, rfl⟩
theorem hb18 : HasBody Tryz.prog 18 := ⟨_, _, Tryz.func18, by kernel_rfl, rfl⟩
theorem row_sane [Unk] (m : Int) : RowOK Tryz.prog (G1 m) 15 [] (.bool true) := by
  intro w vs hG hd
  match vs, hd with
  | [], _ =>
    refine Calls.mono (sane_ok hG) fun e w' he => ?_
    obtain ⟨rfl, hb⟩ := he
    exact ⟨_, rfl, fun ρ => .bool _, hb⟩
theorem row_check {m : Int} {L : List Int} {bs : List (Int × Int)} (hw : Ins L bs) {o : Nat} {x : XK} {op a b c d k i : Int} (hx : IsX x op a b c d k i) (hL : ∀ j, j < 11 → nthI L (o + j) = nthI (xl x op a b c d k i) j) :
    @RowOK (Unk.mk (nthI L)) Tryz.prog (G1 m) 18 [xa o x bs] (.int .i64 (xret x)) := by
  letI : Unk := Unk.mk (nthI L)
  intro w vs hG hd
  have hden : Den (xa o x bs) (insnV op a b c d k i) := den_of_vr (goodS_xa hw o x) (vr_xa hw hx hL (fun _ => none))
  obtain rfl := denL_one hden hd
  obtain ⟨⟨h0, h1, h2, h3, h4, h5, h6⟩, hx⟩ := hx
  refine Calls.mono (check_calls (globU_of hG) h0 h1 h2 h3 h4 h5 h6) fun e w' he => ?_
  obtain ⟨rfl, hb⟩ := he
  refine ⟨_, rfl, fun ρ => ?_, hb⟩
  cases x
  · rw [if_neg (by rw [hx]; simp)]; exact .int _ _
  · rw [if_pos hx.1]; exact .int _ _
  · rw [if_pos hx.1]; exact .int _ _
/-- A run that ends in 'true'. -/
theorem true_of_eval [Unk] {G : Nat → Nat → Option AV} {orc : Nat → Option Orc} (hO : OrcSound Tryz.prog G orc) {fuel f : Nat} {args : List AV} (h : evalA Tryz.prog G orc fuel f args isTrue = true) {vs : List Value} (hv : VRs (fun _ => none) args vs)
    {w : World} (hG : Globals G w) : Calls Tryz.prog f vs.toArray w fun e w' => e = .returned (.bool true) ∧ Below w.heap.size w w' := by
  obtain ⟨e, he, hc⟩ := evalA_true hO noNG1 mix1 h hv hG
  refine Calls.mono hc fun e' w' h => ?_
  obtain ⟨hb, ρ, hr⟩ := h
  unfold isTrue at he
  split at he
  · cases e' with
    | returned v => cases hr; exact ⟨rfl, hb⟩
    | panicked c => exact hr.elim
    | outgrown => exact hr.elim
  · cases he
end Go.Ev
