import Derived.Test.YtmiccmelipbakaaGreatDoorIsaX
import Derived.Test.YtmiccmelipbakaaGreatDoorIsaRkQS
import Derived.ChangeSlices
set_option linter.unusedSectionVars false
set_option linter.unusedVariables false
set_option linter.unusedSimpArgs false
/-
  The law IsaCodes: its runs.
-/
namespace Go.Ev
open Go.RowKit Go.Proofs
def opB' (lg : Bool) : Int × Int := match lg with | false => (.ofNat 0, .ofNat 63) | true => (.ofNat 64, .ofNat 255)
def kB (neg : Bool) : Int × Int := match neg with | false => (.ofNat 0, .ofNat 127) | true => (.ofNat 128, .ofNat 255)
/-- How many bytes came in: 0; 1 to 3; 4 to 7; 8 or more. -/
def lenB : Nat → Int × Int
  | 0 => (.ofNat 0, .ofNat 0)
  | 1 => (.ofNat 1, .ofNat 3)
  | 2 => (.ofNat 4, .ofNat 7)
  | _ => (.ofNat 8, .ofNat 9223372036854775807)
def knownB : Nat → Nat
  | 0 => 0
  | 1 => 1
  | 2 => 4
  | _ => 8
def cdB (x : XK) (lg neg : Bool) (cls : Nat) : List (Int × Int) := xb x ++ [opB' lg, rb, rb, rb, rb, kB neg, bb, bb, bb, bb, lenB cls]
def sum2 (kd : IntKind) (bs : List (Int × Int)) (j : Nat) (c : Int) (l : Nat) : AV := .lin kd (.ofNat 0) (Lin.add (e1 j (.ofNat 1)) (e1 l c)) bs
def byT (bs : List (Int × Int)) : List AV := [lf .u8 bs 11, sum2 .u8 bs 12 (.ofNat 16) 13, sum2 .u8 bs 14 (.ofNat 16) 15, lf .u8 bs 16, lf .u8 bs 17, lf .u8 bs 18, lf .u8 bs 19, lf .u8 bs 20]
noncomputable def G2 (m : Int) (n : Nat) (bs : List (Int × Int)) (g off : Nat) : Option AV := match Nat.beq g 1000000 with
  | true => (match Nat.blt off n with | true => nth (byT bs) off | false => none)
  | false => G1 m g off
def yK (neg : Bool) (bs : List (Int × Int)) : AV := match neg with
  | false => lf .i64 bs 16
  | true => .lin .i64 (.negSucc 255) (e1 16 (.ofNat 1)) bs
def yI (lg : Bool) (bs : List (Int × Int)) : AV := match lg with
  | false => .int .u32 (.ofNat 0)
  | true => .lin .u32 (.ofNat 0) (Lin.add (e1 17 (.ofNat 1)) (Lin.add (e1 18 (.ofNat 256)) (Lin.add (e1 19 (.ofNat 65536)) (e1 20 (.ofNat 16777216))))) bs
def ya (lg neg : Bool) (bs : List (Int × Int)) : AV := .agg [lf .i64 bs 11, lf .i64 bs 12, lf .i64 bs 13, lf .i64 bs 14, lf .i64 bs 15, yK neg bs, yI lg bs]
def okV (v : Bool) : Int := match v with | true => .ofNat 0 | false => .ofNat 6
def xval : XK → Bool
  | .inv => false
  | _ => true
def orcCd (x : XK) (lg neg v : Bool) (bs : List (Int × Int)) (f : Nat) : Option Orc := match Nat.beq f 15 with
  | true => some (.given [([], .bool true)])
  | false => match Nat.beq f 18 with
    | true => some (.given [([xa 0 x bs], .int .i64 (xret x)), ([ya lg neg bs], .int .i64 (okV v))])
    | false => match Nat.beq f 56 with
      | true => some (.given [([xa 0 x bs], .bool (xval x)), ([ya lg neg bs], .bool v)])
      | false => none
noncomputable def cdRun (m : Int) (x : XK) (lg neg v : Bool) (cls : Nat) : Bool :=
  evalA Tryz.prog (G2 m (knownB cls) (cdB x lg neg cls)) (orcCd x lg neg v (cdB x lg neg cls)) 100000 3 [xa 0 x (cdB x lg neg cls), .gsl 1000000 0 (.ofNat 0) (e1 21 (.ofNat 1)) (cdB x lg neg cls)] isTrue
noncomputable def cdNil (m : Int) (x : XK) : Bool :=
  evalA Tryz.prog (G1 m) (orcCd x false false false (cdB x false false 0)) 100000 3 [xa 0 x (cdB x false false 0), .snil] isTrue
end Go.Ev

namespace Go.Ev
open Go.RowKit Go.Proofs
set_option maxRecDepth 1000000 in
theorem cd_nil (m : Int) (x : XK) : cdNil m x = true := by cases x <;> kernel_rfl
set_option maxRecDepth 1000000 in
theorem cd_0 (m : Int) (x : XK) (lg neg v : Bool) : cdRun m x lg neg v 0 = true := by cases x <;> cases lg <;> cases neg <;> cases v <;> kernel_rfl
set_option maxRecDepth 1000000 in
theorem cd_1 (m : Int) (x : XK) (lg neg v : Bool) : cdRun m x lg neg v 1 = true := by cases x <;> cases lg <;> cases neg <;> cases v <;> kernel_rfl
set_option maxRecDepth 1000000 in
theorem cd_2 (m : Int) (x : XK) (lg neg v : Bool) : cdRun m x lg neg v 2 = true := by cases x <;> cases lg <;> cases neg <;> cases v <;> kernel_rfl
set_option maxRecDepth 1000000 in
theorem cd_3 (m : Int) (x : XK) (lg neg v : Bool) : cdRun m x lg neg v 3 = true := by cases x <;> cases lg <;> cases neg <;> cases v <;> kernel_rfl
end Go.Ev

/-
  The law IsaCodes: from its runs to its answer.
-/
namespace Go.Ev
open Go.RowKit Go.Proofs
theorem beq_none {a b : Nat} (h : a ≠ b) : Nat.beq a b = false := by
  cases e : Nat.beq a b with
  | true => exact absurd (beq_true e) h
  | false => rfl
/-- Unknown integers, and a given block. -/
abbrev unkB (s : Nat → Int) (b o cap : Nat) : Unk := Unk.gen s (fun g => if g = 1000000 then (b, o) else (g, 0)) (fun _ => cap) (fun g h => by rw [if_neg (by omega)])
theorem den1_move {s : Nat → Int} {b o cap : Nat} {a : AV} {v : Value} (h : @Den1 (Unk.mk s) a v) : @Den1 (unkB s b o cap) a v := by
  cases a <;> exact h
theorem denS_move {s : Nat → Int} {b o cap : Nat} : ∀ {l : List AV} {vs : List Value}, @DenS (Unk.mk s) l vs → @DenS (unkB s b o cap) l vs
  | [], [], _ => trivial
  | [], _ :: _, h => h.elim
  | _ :: _, [], h => h.elim
  | _ :: _, _ :: _, h => ⟨den1_move h.1, denS_move h.2⟩
theorem den_move {s : Nat → Int} {b o cap : Nat} {x : XK} {bs : List (Int × Int)} {v : Value} (h : @Den (Unk.mk s) (xa 0 x bs) v) : @Den (unkB s b o cap) (xa 0 x bs) v := by
  obtain ⟨cs, rfl, hd⟩ := h
  exact ⟨cs, rfl, denS_move hd⟩
theorem good_move {s : Nat → Int} {b o cap : Nat} {x : XK} {bs : List (Int × Int)} (h : @Good (Unk.mk s) (xa 0 x bs)) : @Good (unkB s b o cap) (xa 0 x bs) := by
  cases x <;> exact h
abbrev R7 (o a b c d k i : Int) : Prop := inI64 o ∧ inI64 a ∧ inI64 b ∧ inI64 c ∧ inI64 d ∧ inI64 k ∧ inU32 i
section
variable [Unk] {G : Nat → Nat → Option AV} {m : Int}
theorem rowg_sane (hGG : ∀ w, Globals G w → GlobU m w) : RowOK Tryz.prog G 15 [] (.bool true) := by
  intro w vs hG hd
  match vs, hd with
  | [], _ =>
    refine Calls.mono (sane_ok (hGG w hG _)) fun e w' he => ?_
    obtain ⟨rfl, hb⟩ := he
    exact ⟨_, rfl, fun ρ => .bool _, hb⟩
theorem rowg_check (hGG : ∀ w, Globals G w → GlobU m w) {p : AV} {o a b c d k i r : Int} (hd : Den p (insnV o a b c d k i)) (h : R7 o a b c d k i) (hr : r = if validB o a b c d k i = true then 0 else 6) : RowOK Tryz.prog G 18 [p] (.int .i64 r) := by
  intro w vs hG hd'
  obtain rfl := denL_one hd hd'
  obtain ⟨h0, h1, h2, h3, h4, h5, h6⟩ := h
  refine Calls.mono (check_calls (hGG w hG) h0 h1 h2 h3 h4 h5 h6) fun e w' he => ?_
  obtain ⟨rfl, hb⟩ := he
  rw [← hr]
  exact ⟨_, rfl, fun ρ => .int _ _, hb⟩
theorem rowg_is (hGG : ∀ w, Globals G w → GlobU m w) {p : AV} {o a b c d k i : Int} {v : Bool} (hd : Den p (insnV o a b c d k i)) (h : R7 o a b c d k i) (hr : v = validB o a b c d k i) : RowOK Tryz.prog G 56 [p] (.bool v) := by
  intro w vs hG hd'
  obtain rfl := denL_one hd hd'
  obtain ⟨h0, h1, h2, h3, h4, h5, h6⟩ := h
  refine Calls.mono (is_calls (hGG w hG) h0 h1 h2 h3 h4 h5 h6) fun e w' he => ?_
  obtain ⟨rfl, hb⟩ := he
  rw [← hr]
  exact ⟨_, rfl, fun ρ => .bool _, hb⟩
end
theorem xret_eq {x : XK} {o a b c d k i : Int} (hx : IsX x o a b c d k i) : xret x = if validB o a b c d k i = true then 0 else 6 := by
  obtain ⟨_, hx⟩ := hx
  cases x
  · have hx : validB o a b c d k i = false := hx
    rw [hx]; rfl
  · have hx : validB o a b c d k i = true := hx.1
    rw [hx]; rfl
  · have hx : validB o a b c d k i = true := hx.1
    rw [hx]; rfl
theorem xval_eq {x : XK} {o a b c d k i : Int} (hx : IsX x o a b c d k i) : xval x = validB o a b c d k i := by
  obtain ⟨_, hx⟩ := hx
  cases x
  · exact hx.symm
  · exact hx.1.symm
  · exact hx.1.symm
theorem okV_eq {o a b c d k i : Int} {v : Bool} (hv : v = validB o a b c d k i) : okV v = if validB o a b c d k i = true then 0 else 6 := by
  subst hv
  cases validB o a b c d k i <;> rfl
/-- The rows are so. -/
theorem orcCd_snd [Unk] {G : Nat → Nat → Option AV} {m : Int} (hGG : ∀ w, Globals G w → GlobU m w) {x : XK} {lg neg v : Bool} {bs : List (Int × Int)} {o a b c d k i o' a' b' c' d' k' i' : Int} (hx : IsX x o a b c d k i) (h' : R7 o' a' b' c' d' k' i')
    (dx : Den (xa 0 x bs) (insnV o a b c d k i)) (dy : Den (ya lg neg bs) (insnV o' a' b' c' d' k' i')) (hv : v = validB o' a' b' c' d' k' i') : OrcSound Tryz.prog G (orcCd x lg neg v bs) := orcSound_given fun f oc hf => by
  unfold orcCd at hf
  split at hf
  · rename_i e
    have e := beqF e
    subst e
    cases hf
    refine ⟨_, rfl, hb15, fun pat v hm => ?_⟩
    simp only [List.mem_cons, List.not_mem_nil, or_false, Prod.mk.injEq] at hm
    obtain ⟨rfl, rfl⟩ := hm
    exact rowg_sane hGG
  · split at hf
    · rename_i e
      have e := beqF e
      subst e
      cases hf
      refine ⟨_, rfl, hb18, fun pat v hm => ?_⟩
      simp only [List.mem_cons, List.not_mem_nil, or_false, Prod.mk.injEq] at hm
      rcases hm with ⟨rfl, rfl⟩ | ⟨rfl, rfl⟩
      · exact rowg_check hGG dx hx.1 (xret_eq hx)
      · exact rowg_check hGG dy h' (okV_eq hv)
    · split at hf
      · rename_i e
        have e := beqF e
        subst e
        cases hf
        refine ⟨_, rfl, hb56, fun pat v hm => ?_⟩
        simp only [List.mem_cons, List.not_mem_nil, or_false, Prod.mk.injEq] at hm
        rcases hm with ⟨rfl, rfl⟩ | ⟨rfl, rfl⟩
        · exact rowg_is hGG dx hx.1 (xval_eq hx)
        · exact rowg_is hGG dy h' hv
      · cases hf
def kOf (neg : Bool) (q : Int) : Int := match neg with | true => q - 256 | false => q
def iOf (lg : Bool) (a b c d : Int) : Int := match lg with | true => a + 256 * b + 65536 * c + 16777216 * d | false => 0
theorem cd_all (m : Int) (x : XK) (lg neg v : Bool) {cls : Nat} (h : cls < 4) : cdRun m x lg neg v cls = true := by
  match cls, h with
  | 0, _ => exact cd_0 m x lg neg v
  | 1, _ => exact cd_1 m x lg neg v
  | 2, _ => exact cd_2 m x lg neg v
  | 3, _ => exact cd_3 m x lg neg v
theorem byT_len {bs : List (Int × Int)} {j : Nat} {a : AV} (h : nth (byT bs) j = some a) : j < 8 := by
  rw [nth_eq] at h
  have := (List.getElem?_eq_some_iff.1 h).1
  simpa [byT] using this
def yL (q0 q1 q2 q3 q4 q5 q6 q7 len : Int) : List Int := [q0, q1 % 16, q1 / 16, q2 % 16, q2 / 16, q3, q4, q5, q6, q7, len]
def yB (lg neg : Bool) (cls : Nat) : List (Int × Int) := [opB' lg, rb, rb, rb, rb, kB neg, bb, bb, bb, bb, lenB cls]
def InB (q : Int) : Prop := 0 ≤ q ∧ q ≤ 255
theorem ins_yL {lg neg : Bool} {cls : Nat} {q0 q1 q2 q3 q4 q5 q6 q7 len : Int} (h0 : InB q0) (h1 : InB q1) (h2 : InB q2) (h3 : InB q3) (h4 : InB q4) (h5 : InB q5) (h6 : InB q6) (h7 : InB q7) (hlg : lg = decide (64 ≤ q0)) (hneg : neg = decide (128 ≤ q3)) (hl : (lenB cls).1 ≤ len ∧ len ≤ (lenB cls).2) :
    Ins (yL q0 q1 q2 q3 q4 q5 q6 q7 len) (yB lg neg cls) := by
  unfold InB at *
  refine ⟨?_, ⟨?_, ?_⟩, ⟨?_, ?_⟩, ⟨?_, ?_⟩, ⟨?_, ?_⟩, ?_, h4, h5, h6, h7, hl, trivial⟩
  · by_cases h : 64 ≤ q0
    · rw [hlg, decide_eq_true h]; show (64 : Int) ≤ q0 ∧ q0 ≤ (255 : Int); omega
    · rw [hlg, decide_eq_false h]; show (0 : Int) ≤ q0 ∧ q0 ≤ (63 : Int); omega
  · show (0 : Int) ≤ q1 % 16; omega
  · show q1 % 16 ≤ (15 : Int); omega
  · show (0 : Int) ≤ q1 / 16; omega
  · show q1 / 16 ≤ (15 : Int); omega
  · show (0 : Int) ≤ q2 % 16; omega
  · show q2 % 16 ≤ (15 : Int); omega
  · show (0 : Int) ≤ q2 / 16; omega
  · show q2 / 16 ≤ (15 : Int); omega
  · by_cases h : 128 ≤ q3
    · rw [hneg, decide_eq_true h]; show (128 : Int) ≤ q3 ∧ q3 ≤ (255 : Int); omega
    · rw [hneg, decide_eq_false h]; show (0 : Int) ≤ q3 ∧ q3 ≤ (127 : Int); omega
section
variable {L : List Int} {x : XK} {lg neg : Bool} {cls : Nat} {o a b c d k i q0 q1 q2 q3 q4 q5 q6 q7 len : Int}
theorem yAt (hL : L = xl x o a b c d k i ++ yL q0 q1 q2 q3 q4 q5 q6 q7 len) (j : Nat) : nthI L (11 + j) = nthI (yL q0 q1 q2 q3 q4 q5 q6 q7 len) j := by
  have e := nthI_right (l := xl x o a b c d k i) (l' := yL q0 q1 q2 q3 q4 q5 q6 q7 len) j
  rw [xl_len] at e
  rw [hL, e]
theorem den_y (hL : L = xl x o a b c d k i ++ yL q0 q1 q2 q3 q4 q5 q6 q7 len) (hw : Ins L (cdB x lg neg cls)) (blk off cap : Nat) :
    @Den (unkB (nthI L) blk off cap) (ya lg neg (cdB x lg neg cls)) (insnV q0 (q1 % 16) (q1 / 16) (q2 % 16) (q2 / 16) (kOf neg q3) (iOf lg q4 q5 q6 q7)) := by
  have y0 : nthI L 11 = q0 := yAt hL 0
  have y1 : nthI L 12 = q1 % 16 := yAt hL 1
  have y2 : nthI L 13 = q1 / 16 := yAt hL 2
  have y3 : nthI L 14 = q2 % 16 := yAt hL 3
  have y4 : nthI L 15 = q2 / 16 := yAt hL 4
  have y5 : nthI L 16 = q3 := yAt hL 5
  have y6 : nthI L 17 = q4 := yAt hL 6
  have y7 : nthI L 18 = q5 := yAt hL 7
  have y8 : nthI L 19 = q6 := yAt hL 8
  have y9 : nthI L 20 = q7 := yAt hL 9
  letI : Unk := unkB (nthI L) blk off cap
  have one : ∀ (n : Nat) (z : Int), nthI L n = z → Value.int .i64 z = .int .i64 ((0 : Int) + Lin.val (nthI L) (e1 n 1) 0) := fun n z h => by
    rw [val_u, h]; congr 1; omega
  refine ⟨_, rfl, one _ _ y0, one _ _ y1, one _ _ y2, one _ _ y3, one _ _ y4, ?_, ?_, trivial⟩
  · cases neg
    · exact one _ _ y5
    · show Value.int .i64 (q3 - 256) = .int .i64 ((-256 : Int) + Lin.val (nthI L) (e1 16 1) 0)
      rw [val_u, y5]; congr 1; omega
  · cases lg
    · rfl
    · show Value.int .u32 (q4 + 256 * q5 + 65536 * q6 + 16777216 * q7) = .int .u32 ((0 : Int) + Lin.val (nthI L) (Lin.add (e1 17 1) (Lin.add (e1 18 256) (Lin.add (e1 19 65536) (e1 20 16777216)))) 0)
      rw [Lin.val_add, Lin.val_add, Lin.val_add, val_u, val_u, val_u, val_u, y6, y7, y8, y9]; congr 1; omega
theorem vr_byT (hL : L = xl x o a b c d k i ++ yL q0 q1 q2 q3 q4 q5 q6 q7 len) (hw : Ins L (cdB x lg neg cls)) (blk off cap : Nat) {j : Nat} {p : AV} (hp : nth (byT (cdB x lg neg cls)) j = some p) :
    @VR (unkB (nthI L) blk off cap) (fun _ => none) p (.int .u8 (nthI [q0, q1, q2, q3, q4, q5, q6, q7] j)) := by
  have y0 : nthI L 11 = q0 := yAt hL 0
  have y1 : nthI L 12 = q1 % 16 := yAt hL 1
  have y2 : nthI L 13 = q1 / 16 := yAt hL 2
  have y3 : nthI L 14 = q2 % 16 := yAt hL 3
  have y4 : nthI L 15 = q2 / 16 := yAt hL 4
  have y5 : nthI L 16 = q3 := yAt hL 5
  have y6 : nthI L 17 = q4 := yAt hL 6
  have y7 : nthI L 18 = q5 := yAt hL 7
  have y8 : nthI L 19 = q6 := yAt hL 8
  have y9 : nthI L 20 = q7 := yAt hL 9
  have hin := within_unkL hw
  letI : Unk := unkB (nthI L) blk off cap
  have one : ∀ (n : Nat) (z : Int), nthI L n = z → VR (fun _ => none) (lf .u8 (cdB x lg neg cls) n) (.int .u8 z) := fun n z h =>
    .lin _ _ _ _ _ (by show z = (0 : Int) + Lin.val (nthI L) (e1 n 1) 0; rw [val_u, h]; omega) hin
  have two : ∀ (n l : Nat) (z z' : Int), nthI L n = z → nthI L l = z' → VR (fun _ => none) (sum2 .u8 (cdB x lg neg cls) n 16 l) (.int .u8 (z + 16 * z')) := fun n l z z' h h' =>
    .lin _ _ _ _ _ (by show z + 16 * z' = (0 : Int) + Lin.val (nthI L) (Lin.add (e1 n 1) (e1 l 16)) 0; rw [Lin.val_add, val_u, val_u, h, h']; omega) hin
  match j, hp with
  | 0, hp => cases hp; exact one _ _ y0
  | 1, hp =>
    cases hp
    have := two 12 13 _ _ y1 y2
    rw [show q1 % 16 + 16 * (q1 / 16) = q1 by omega] at this
    exact this
  | 2, hp =>
    cases hp
    have := two 14 15 _ _ y3 y4
    rw [show q2 % 16 + 16 * (q2 / 16) = q2 by omega] at this
    exact this
  | 3, hp => cases hp; exact one _ _ y5
  | 4, hp => cases hp; exact one _ _ y6
  | 5, hp => cases hp; exact one _ _ y7
  | 6, hp => cases hp; exact one _ _ y8
  | 7, hp => cases hp; exact one _ _ y9
  | j + 8, hp => have := byT_len hp; omega
theorem cd_main {m : Int} {w : World} (hG : GlobU m w) (hx : IsX x o a b c d k i) (hc : cls < 4) {n cap blk off : Nat} (hn : (n : Int) = len) (hle : n ≤ cap)
    (h0 : InB q0) (h1 : InB q1) (h2 : InB q2) (h3 : InB q3) (h4 : InB q4) (h5 : InB q5) (h6 : InB q6) (h7 : InB q7) (hlg : lg = decide (64 ≤ q0)) (hneg : neg = decide (128 ≤ q3)) (hl : (lenB cls).1 ≤ len ∧ len ≤ (lenB cls).2)
    (hcell : ∀ j, j < knownB cls → blk < w.heap.size ∧ w.cell? ⟨blk, off + j, none⟩ = some (.int .u8 (nthI [q0, q1, q2, q3, q4, q5, q6, q7] j))) :
    Calls Tryz.prog 3 #[insnV o a b c d k i, .slice (some ⟨blk, off, none⟩) n cap] w fun e w' => e = .returned (.bool true) ∧ Below w.heap.size w w' := by
  obtain ⟨L, hL⟩ : ∃ L, L = xl x o a b c d k i ++ yL q0 q1 q2 q3 q4 q5 q6 q7 len := ⟨_, rfl⟩
  have hw : Ins L (cdB x lg neg cls) := by
    rw [hL]
    exact ins_append (by rw [xl_len, xb_len]) (ins_xl hx) (ins_yL h0 h1 h2 h3 h4 h5 h6 h7 hlg hneg hl)
  have hin := within_unkL hw
  obtain ⟨v, hv⟩ : ∃ v, v = validB q0 (q1 % 16) (q1 / 16) (q2 % 16) (q2 / 16) (kOf neg q3) (iOf lg q4 q5 q6 q7) := ⟨_, rfl⟩
  have hev := cd_all m x lg neg v hc
  have hLx : ∀ j, j < 11 → nthI L (0 + j) = nthI (xl x o a b c d k i) j := fun j hj => by
    rw [hL, Nat.zero_add, nthI_left (by rw [xl_len]; exact hj)]
  have dy := den_y hL hw blk off cap
  have vx := vr_xa hw hx hLx (fun _ => none)
  have dx : @Den (unkB (nthI L) blk off cap) (xa 0 x (cdB x lg neg cls)) (insnV o a b c d k i) := den_move (@den_of_vr (Unk.mk (nthI L)) _ _ _ (goodS_xa hw 0 x) vx)
  have gx : @Good (unkB (nthI L) blk off cap) (xa 0 x (cdB x lg neg cls)) := good_move (goodS_xa hw 0 x)
  have hby := fun {j : Nat} {p : AV} (hp : nth (byT (cdB x lg neg cls)) j = some p) => vr_byT hL hw blk off cap hp
  have y10 : nthI L 21 = len := yAt hL 10
  have h' : R7 q0 (q1 % 16) (q1 / 16) (q2 % 16) (q2 / 16) (kOf neg q3) (iOf lg q4 q5 q6 q7) := by
    unfold InB at *
    unfold R7 inI64 inU32
    refine ⟨?_, ?_, ?_, ?_, ?_, ?_, ?_⟩ <;> (try omega)
    · cases neg <;> simp only [kOf] <;> omega
    · cases lg <;> simp only [iOf] <;> omega
  letI : Unk := unkB (nthI L) blk off cap
  have hGG : ∀ w, Globals (G2 m (knownB cls) (cdB x lg neg cls)) w → GlobU m w := fun w h => globU_of (fun g off a e => h g off a (by
    have hg := (G1_int e).1
    unfold G2
    rw [show Nat.beq g 1000000 = false from beq_none (by omega)]
    exact e))
  have hO := orcCd_snd hGG hx h' dx dy hv
  have hG2 : Globals (G2 m (knownB cls) (cdB x lg neg cls)) w := fun g off' p e => by
    unfold G2 at e
    split at e
    · rename_i hg
      have hg := beqF hg
      subst hg
      split at e
      · rename_i hlt
        have hlt := blt_true hlt
        obtain ⟨k1, k2⟩ := hcell off' hlt
        exact ⟨k1, _, k2, hby e⟩
      · cases e
    · exact hG _ g off' p e
  have vs : VR (fun _ => none) (.gsl 1000000 0 (.ofNat 0) (e1 21 (.ofNat 1)) (cdB x lg neg cls)) (.slice (some ⟨blk, off, none⟩) n cap) :=
    .gsl 1000000 0 _ _ _ n (by show (n : Int) = (0 : Int) + Lin.val (nthI L) (e1 21 1) 0; rw [val_u, y10, hn]; omega) hin hle
  exact true_of_eval hO hev (.cons _ _ _ _ (vr_of_den gx dx) (.cons _ _ _ _ vs .nil)) hG2
end
theorem ls_nil : yL 0 0 0 0 0 0 0 0 0 = [0, 0, 0, 0, 0, 0, 0, 0, 0, 0, 0] := rfl
theorem codes_nil {m : Int} {w : World} (hG : GlobU m w) {x : XK} {o a b c d k i : Int} (hx : IsX x o a b c d k i) :
    Calls Tryz.prog 3 #[insnV o a b c d k i, .slice none 0 0] w fun e w' => e = .returned (.bool true) ∧ Below w.heap.size w w' := by
  obtain ⟨L, hL⟩ : ∃ L, L = xl x o a b c d k i ++ yL 0 0 0 0 0 0 0 0 0 := ⟨_, rfl⟩
  have z : InB 0 := ⟨Int.le_refl _, by omega⟩
  have hw : Ins L (cdB x false false 0) := by
    rw [hL]
    exact ins_append (by rw [xl_len, xb_len]) (ins_xl hx) (ins_yL z z z z z z z z (by decide) (by decide) ⟨Int.le_refl _, Int.le_refl _⟩)
  have hev := cd_nil m x
  have hLx : ∀ j, j < 11 → nthI L (0 + j) = nthI (xl x o a b c d k i) j := fun j hj => by
    rw [hL, Nat.zero_add, nthI_left (by rw [xl_len]; exact hj)]
  have dy := den_y hL hw 0 0 0
  have vx := vr_xa hw hx hLx (fun _ => none)
  have dx : @Den (unkB (nthI L) 0 0 0) (xa 0 x (cdB x false false 0)) (insnV o a b c d k i) := den_move (@den_of_vr (Unk.mk (nthI L)) _ _ _ (goodS_xa hw 0 x) vx)
  have gx : @Good (unkB (nthI L) 0 0 0) (xa 0 x (cdB x false false 0)) := good_move (goodS_xa hw 0 x)
  letI : Unk := unkB (nthI L) 0 0 0
  have hGG : ∀ w, Globals (G1 m) w → GlobU m w := fun w h => globU_of h
  have hO := orcCd_snd (v := false) hGG hx (by unfold R7 inI64 inU32; decide) dx dy (by kernel_rfl)
  exact true_of_eval hO hev (.cons _ _ _ _ (vr_of_den gx dx) (.cons _ _ _ _ .snil .nil)) (hG _)
/-- The law, at a slice of bytes that came in. -/
theorem codes_calls {m : Int} {w : World} (hG : GlobU m w) {x : XK} {o a b c d k i : Int} (hx : IsX x o a b c d k i) {n cap blk off : Nat} {xs : List Int} (hle : n ≤ cap) (hcap : cap ≤ 9223372036854775807) (hlen : n ≤ xs.length)
    (hcell : ∀ j, j < n → w.cell? ⟨blk, off + j, none⟩ = some (.int .u8 (xs.getD j 0))) (hb : ∀ z ∈ xs, InB z) :
    Calls Tryz.prog 3 #[insnV o a b c d k i, .slice (some ⟨blk, off, none⟩) n cap] w fun e w' => e = .returned (.bool true) ∧ Below w.heap.size w w' := by
  have hlow : ∀ {j : Nat} {z : Value}, w.cell? ⟨blk, j, none⟩ = some z → blk < w.heap.size := fun h => low_of_cell h
  obtain ⟨cls, hc, hl, hkn⟩ : ∃ cls, cls < 4 ∧ ((lenB cls).1 ≤ (n : Int) ∧ (n : Int) ≤ (lenB cls).2) ∧ knownB cls ≤ n := by
    by_cases h0 : n = 0
    · exact ⟨0, by omega, by subst h0; exact ⟨Int.le_refl _, Int.le_refl _⟩, Nat.zero_le _⟩
    · by_cases h1 : n < 4
      · exact ⟨1, by omega, by show (1 : Int) ≤ (n : Int) ∧ (n : Int) ≤ (3 : Int); omega, by show 1 ≤ n; omega⟩
      · by_cases h2 : n < 8
        · exact ⟨2, by omega, by show (4 : Int) ≤ (n : Int) ∧ (n : Int) ≤ (7 : Int); omega, by show 4 ≤ n; omega⟩
        · exact ⟨3, by omega, by show (8 : Int) ≤ (n : Int) ∧ (n : Int) ≤ (9223372036854775807 : Int); omega, by show 8 ≤ n; omega⟩
  have hin : ∀ j, InB (xs.getD j 0) := fun j => by
    by_cases h : j < xs.length
    · have : xs.getD j 0 = xs[j] := by simp [List.getD, h]
      rw [this]
      exact hb _ (List.getElem_mem h)
    · have : xs.getD j 0 = 0 := by simp [List.getD, List.getElem?_eq_none (Nat.le_of_not_lt h)]
      rw [this]
      exact ⟨Int.le_refl _, by omega⟩
  have h8 : knownB cls ≤ 8 := by
    match cls, hc with
    | 0, _ => exact Nat.zero_le _
    | 1, _ => show 1 ≤ 8; omega
    | 2, _ => show 4 ≤ 8; omega
    | 3, _ => exact Nat.le_refl _
  refine cd_main hG hx hc rfl hle (hin 0) (hin 1) (hin 2) (hin 3) (hin 4) (hin 5) (hin 6) (hin 7) rfl rfl hl (fun j hj => ?_)
  have hc := hcell j (by omega)
  refine ⟨hlow hc, ?_⟩
  rw [hc]
  have hj8 : j < 8 := by omega
  match j, hj8 with
  | 0, _ => rfl
  | 1, _ => rfl
  | 2, _ => rfl
  | 3, _ => rfl
  | 4, _ => rfl
  | 5, _ => rfl
  | 6, _ => rfl
  | 7, _ => rfl
end Go.Ev

/-
  A slice of bytes as an argument.
-/
namespace Go.Ev
open Go.ChangeShapes Go.WideShapes Go.ChangeAt Go.RowKit Go.Proofs
theorem cells5 : Tryz.prog.cellsOf 5 = 1 := by kernel_rfl
set_option maxRecDepth 100000 in
theorem open_u8s {H : Type} {enc : TypeId × Value → H} {W : World} {r : Go.Reach} {b0 : Nat} {v : Value} {d : DataW H} {p : List MemPlace} (hv : Value.okWide Tryz.prog W r b0 25 v) (h : DataW.Trod enc Tryz.prog W 0 (fun _ => true) true 25 v d p) :
    v = .slice none 0 0 ∨ ∃ (blk off n cap : Nat) (xs : List Int), v = .slice (some ⟨blk, off, none⟩) n cap ∧ n ≤ cap ∧ cap ≤ 9223372036854775807 ∧ n ≤ xs.length ∧ (∀ j, j < n → W.cell? ⟨blk, off + j, none⟩ = some (.int .u8 (xs.getD j 0))) ∧ ∀ z ∈ xs, InB z := by
  obtain ⟨a0, len, cap, rfl⟩ := okWide_slice Tryz.underlying25 hv
  obtain ⟨fuel, hf⟩ := h
  rcases open_ints Tryz.underlying25 Tryz.underlying5 cells5 hf with ⟨hcs, _⟩ | ⟨a, len', cap', zs, hcs, _, hl, hm, hz, _, hcell, hwz⟩
  · simp [Value.cells] at hcs
    obtain ⟨rfl, rfl, rfl⟩ := hcs
    exact .inl rfl
  · simp [Value.cells] at hcs
    obtain ⟨rfl, rfl, rfl⟩ := hcs
    obtain ⟨blk, off, spot⟩ := a
    have hs : spot = none ∧ (cap : Int) ≤ IntKind.i64.max := by
      unfold Value.okWide at hv
      rw [Tryz.underlying25] at hv
      unfold Cell.okWide at hv
      rw [Tryz.underlying25] at hv
      unfold Cell.ok at hv
      rw [Tryz.underlying25] at hv
      exact ⟨hv.2.2.2.1, hv.2.1⟩
    obtain ⟨rfl, hc⟩ := hs
    have hc : (cap : Int) ≤ 9223372036854775807 := hc
    simp only [if_true] at hz
    refine .inr ⟨blk, off, len, cap, zs, rfl, hl, by omega, by omega, fun j hj => ?_, fun z hz => ?_⟩
    · have := hcell j (by omega)
      rw [← this]
      unfold Addr.add
      by_cases h0 : j = 0
      · subst h0; rfl
      · rw [if_neg h0]
    · have := hwz z hz
      simpa [Lit.wf, IntKind.min, IntKind.max, IntKind.signed, IntKind.bits, InB] using this
end Go.Ev

