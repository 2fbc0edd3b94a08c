import Derived.Test.YtecebagkbjimmaaGreatDoorIsaOrMN
set_option linter.unusedSectionVars false
set_option linter.unusedVariables false
set_option linter.unusedSimpArgs false
/-
  The law IsaOrder returns true.
-/
namespace Go.Ev
open Go.RowKit Go.Proofs

/-- t: the first field that differs (7: none; 8: not compared). up: is y's greater? -/
def cB : Int × Int := (.ofNat 0, .ofNat 73882029336997)
def plusB (up : Bool) : Int × Int := match up with | true => (.ofNat 1, big) | false => (nbig, .negSucc 0)
def plusW (up : Bool) : Int × Int := match up with | true => (.ofNat 1, .ofNat 4294967295) | false => (.negSucc 4294967294, .negSucc 0)
def ySlot (t : Nat) (up : Bool) (s : Nat) : Int × Int := match Nat.beq t 8 with
  | true => (match Nat.beq s 6 with | true => u32c | false => i64b)
  | false => match Nat.blt s t with
    | true => zb
    | false => match Nat.beq s t with
      | true => (match Nat.beq s 6 with | true => plusW up | false => plusB up)
      | false => (match Nat.beq s 6 with | true => u32c | false => i64b)
def bSlot (t : Nat) (up : Bool) : Int × Int := match Nat.beq t 8 with
  | true => cB
  | false => match Nat.beq t 7 with
    | true => zb
    | false => plusB up
def nSlot (v : Bool) : Int × Int := match v with | true => cB | false => (.ofNat 73882029336998, .ofNat 18446744073709551615)
def orB (t : Nat) (up v : Bool) : List (Int × Int) := [i64b, i64b, i64b, i64b, i64b, i64b, u32c, ySlot t up 0, ySlot t up 1, ySlot t up 2, ySlot t up 3, ySlot t up 4, ySlot t up 5, ySlot t up 6, cB, bSlot t up, i64b, i64b, i64b, i64b, i64b, i64b, u32c, nSlot v]
def sumF (kd : IntKind) (bs : List (Int × Int)) (j l : Nat) : AV := .lin kd (.ofNat 0) (Lin.add (e1 j (.ofNat 1)) (e1 l (.ofNat 1))) bs
def yF (t : Nat) (bs : List (Int × Int)) (kd : IntKind) (s : Nat) : AV := match Nat.beq t 8 with
  | true => lf kd bs (s + 7)
  | false => match Nat.blt s t with
    | true => lf kd bs s
    | false => match Nat.beq s t with
      | true => sumF kd bs s (s + 7)
      | false => lf kd bs (s + 7)
def bF (t : Nat) (bs : List (Int × Int)) : AV := match Nat.beq t 8 with
  | true => lf .u64 bs 15
  | false => match Nat.beq t 7 with
    | true => lf .u64 bs 14
    | false => sumF .u64 bs 14 15
def orX (bs : List (Int × Int)) : AV := .agg [lf .i64 bs 0, lf .i64 bs 1, lf .i64 bs 2, lf .i64 bs 3, lf .i64 bs 4, lf .i64 bs 5, lf .u32 bs 6]
def orY (t : Nat) (bs : List (Int × Int)) : AV := .agg [yF t bs .i64 0, yF t bs .i64 1, yF t bs .i64 2, yF t bs .i64 3, yF t bs .i64 4, yF t bs .i64 5, yF t bs .u32 6]
def orZ (bs : List (Int × Int)) : AV := .agg [lf .i64 bs 16, lf .i64 bs 17, lf .i64 bs 18, lf .i64 bs 19, lf .i64 bs 20, lf .i64 bs 21, lf .u32 bs 22]
def orN (bs : List (Int × Int)) : AV := lf .u64 bs 23
def isZ (e : Int) : Bool := ibeq e (.ofNat 0)
def row39 (t : Nat) (v : Bool) (e1 e2 : Int) (bs : List (Int × Int)) : List (List AV × AV) :=
  ([orX bs], .tup [lf .u64 bs 14, .int .i64 e1]) :: ([orY t bs], .tup [bF t bs, .int .i64 e2]) :: (match v with | true => [([orZ bs], .tup [orN bs, .int .i64 (.ofNat 0)])] | false => [])
def row41 (v : Bool) (e1 : Int) (bs : List (Int × Int)) : List (List AV × AV) :=
  ([orN bs], .tup [orZ bs, .int .i64 (match v with | true => .ofNat 0 | false => .ofNat 1)]) :: (match isZ e1 with | true => [([lf .u64 bs 14], .tup [orX bs, .int .i64 (.ofNat 0)])] | false => [])
def row18 (v : Bool) (bs : List (Int × Int)) : List (List AV × AV) := match v with | true => [([orZ bs], .int .i64 (.ofNat 0))] | false => []
def orcO (t : Nat) (v : Bool) (e1 e2 : Int) (bs : List (Int × Int)) (f : Nat) : Option Orc := match f with
  | 15 => some (.given [([], .bool true)])
  | 39 => some (.given (row39 t v e1 e2 bs))
  | 41 => some (.given (row41 v e1 bs))
  | 43 => some (.given [([], .int .u64 (.ofNat 73882029336998))])
  | 18 => some (.given (row18 v bs))
  | _ => none
noncomputable def orRun (m : Int) (t : Nat) (up v : Bool) (e1 e2 : Int) : Bool := evalA Tryz.prog (G1 m) (orcO t v e1 e2 (orB t up v)) 100000 11 [orX (orB t up v), orY t (orB t up v), orN (orB t up v)] isTrue
set_option maxRecDepth 1000000 in
theorem or_x1 (m : Int) : orRun m 8 true true (.ofNat 6) (.ofNat 0) = true := by kernel_rfl
set_option maxRecDepth 1000000 in
theorem or_x2 (m : Int) : orRun m 8 true true (.ofNat 6) (.ofNat 6) = true := by kernel_rfl
set_option maxRecDepth 1000000 in
theorem or_x3 (m : Int) : orRun m 8 true true (.ofNat 0) (.ofNat 6) = true := by kernel_rfl
set_option maxRecDepth 1000000 in
theorem or_x4 (m : Int) : orRun m 8 true false (.ofNat 6) (.ofNat 0) = true := by kernel_rfl
set_option maxRecDepth 1000000 in
theorem or_x5 (m : Int) : orRun m 8 true false (.ofNat 6) (.ofNat 6) = true := by kernel_rfl
set_option maxRecDepth 1000000 in
theorem or_x6 (m : Int) : orRun m 8 true false (.ofNat 0) (.ofNat 6) = true := by kernel_rfl
end Go.Ev

/-
  IsaOrder's runs: both operands valid, y's greater: true, the number valid: true.
-/
namespace Go.Ev
open Go.RowKit Go.Proofs
set_option maxRecDepth 1000000 in
theorem or_bothA (m : Int) : uptoB (fun t => orRun m t true true (.ofNat 0) (.ofNat 0)) 8 = true := by kernel_rfl
end Go.Ev

/-
  IsaOrder's runs: both operands valid, y's greater: true, the number valid: false.
-/
namespace Go.Ev
open Go.RowKit Go.Proofs
set_option maxRecDepth 1000000 in
theorem or_bothB (m : Int) : uptoB (fun t => orRun m t true false (.ofNat 0) (.ofNat 0)) 8 = true := by kernel_rfl
end Go.Ev

/-
  IsaOrder's runs: both operands valid, y's greater: false, the number valid: true.
-/
namespace Go.Ev
open Go.RowKit Go.Proofs
set_option maxRecDepth 1000000 in
theorem or_bothC (m : Int) : uptoB (fun t => orRun m t false true (.ofNat 0) (.ofNat 0)) 8 = true := by kernel_rfl
end Go.Ev

/-
  IsaOrder's runs: both operands valid, y's greater: false, the number valid: false.
-/
namespace Go.Ev
open Go.RowKit Go.Proofs
set_option maxRecDepth 1000000 in
theorem or_bothD (m : Int) : uptoB (fun t => orRun m t false false (.ofNat 0) (.ofNat 0)) 8 = true := by kernel_rfl
end Go.Ev

/-
  The law IsaOrder: from the contracts of what it calls to its answer, for one run.
-/
namespace Go.Ev
open Go.RowKit Go.Proofs
theorem good_yF [Unk] {t : Nat} {up v : Bool} (hin : Lin.Within Unk.s (orB t up v) 0) (kd : IntKind) (s : Nat) : Good1 (yF t (orB t up v) kd s) := by
  unfold yF
  split
  · exact hin
  · split
    · exact hin
    · split
      · exact hin
      · exact hin
theorem good_bF [Unk] {t : Nat} {up v : Bool} (hin : Lin.Within Unk.s (orB t up v) 0) : Good1 (bF t (orB t up v)) := by
  unfold bF
  split
  · exact hin
  · split
    · exact hin
    · exact hin
def erV (v : Bool) : Int := match v with | true => .ofNat 0 | false => .ofNat 1
/-- A contract that holds in every world of these globals. -/
def Gives (f : Nat) (args : Array Value) (u : Value) : Prop := ∀ (m : Int) (w : World), GlobU m w → Calls Tryz.prog f args w fun e w' => e = .returned u ∧ Below w.heap.size w w'
theorem row_gives [Unk] {m : Int} {f : Nat} {p v : AV} {x u : Value} (hd : Den p x) (hv : ∀ ρ, VR ρ v u) (hf : Gives f #[x] u) : RowOK Tryz.prog (G1 m) f [p] v := fun w vs hG' hd' => by
  obtain rfl := denL_one hd hd'
  refine Calls.mono (hf m w (globU_of hG')) fun e w' he => ?_
  obtain ⟨rfl, hb⟩ := he
  exact ⟨_, rfl, hv, hb⟩
theorem or_main {m : Int} {w : World} (hG : GlobU m w) {t : Nat} {up v : Bool} {o a b c d k i o1 a1 b1 c1 d1 k1 i1 o2 a2 b2 c2 d2 k2 i2 n R Q ex ey : Int} {L : List Int} (hw : Ins L (orB t up v))
    (l0 : nthI L 0 = o) (l1 : nthI L 1 = a) (l2 : nthI L 2 = b) (l3 : nthI L 3 = c) (l4 : nthI L 4 = d) (l5 : nthI L 5 = k) (l6 : nthI L 6 = i) (l14 : nthI L 14 = R)
    (l16 : nthI L 16 = o2) (l17 : nthI L 17 = a2) (l18 : nthI L 18 = b2) (l19 : nthI L 19 = c2) (l20 : nthI L 20 = d2) (l21 : nthI L 21 = k2) (l22 : nthI L 22 = i2) (l23 : nthI L 23 = n)
    (vy : ∀ ρ, @VR (Unk.mk (nthI L)) ρ (orY t (orB t up v)) (insnV o1 a1 b1 c1 d1 k1 i1)) (vq : ∀ ρ, @VR (Unk.mk (nthI L)) ρ (bF t (orB t up v)) (.int .u64 Q))
    (hx : Gives 39 #[insnV o a b c d k i] (.tuple #[.int .u64 R, .int .i64 ex])) (hy : Gives 39 #[insnV o1 a1 b1 c1 d1 k1 i1] (.tuple #[.int .u64 Q, .int .i64 ey]))
    (hz : v = true → Gives 39 #[insnV o2 a2 b2 c2 d2 k2 i2] (.tuple #[.int .u64 n, .int .i64 0])) (hz' : v = true → Gives 18 #[insnV o2 a2 b2 c2 d2 k2 i2] (.int .i64 0))
    (hn : Gives 41 #[.int .u64 n] (.tuple #[insnV o2 a2 b2 c2 d2 k2 i2, .int .i64 (erV v)]))
    (hr : isZ ex = true → Gives 41 #[.int .u64 R] (.tuple #[insnV o a b c d k i, .int .i64 0]))
    (hev : orRun m t up v ex ey = true) :
    Calls Tryz.prog 11 #[insnV o a b c d k i, insnV o1 a1 b1 c1 d1 k1 i1, .int .u64 n] w fun e w' => e = .returned (.bool true) ∧ Below w.heap.size w w' := by
  have q : ∀ (kd : IntKind) (j : Nat) (z : Int), nthI L j = z → ∀ ρ, @VR (Unk.mk (nthI L)) ρ (lf kd (orB t up v) j) (.int kd z) := fun kd j z hz ρ => vr_lf hw kd hz ρ
  have hin := within_unkL hw
  letI : Unk := Unk.mk (nthI L)
  have vx : ∀ ρ, VR ρ (orX (orB t up v)) (insnV o a b c d k i) := fun ρ => vr_7 (q _ _ _ l0 ρ) (q _ _ _ l1 ρ) (q _ _ _ l2 ρ) (q _ _ _ l3 ρ) (q _ _ _ l4 ρ) (q _ _ _ l5 ρ) (q _ _ _ l6 ρ)
  have vz : ∀ ρ, VR ρ (orZ (orB t up v)) (insnV o2 a2 b2 c2 d2 k2 i2) := fun ρ => vr_7 (q _ _ _ l16 ρ) (q _ _ _ l17 ρ) (q _ _ _ l18 ρ) (q _ _ _ l19 ρ) (q _ _ _ l20 ρ) (q _ _ _ l21 ρ) (q _ _ _ l22 ρ)
  have vn : ∀ ρ, VR ρ (orN (orB t up v)) (.int .u64 n) := fun ρ => q _ _ _ l23 ρ
  have vr : ∀ ρ, VR ρ (lf .u64 (orB t up v) 14) (.int .u64 R) := fun ρ => q _ _ _ l14 ρ
  have dx : Den (orX (orB t up v)) (insnV o a b c d k i) := den_of_vr ⟨hin, hin, hin, hin, hin, hin, hin, trivial⟩ (vx (fun _ => none))
  have dz : Den (orZ (orB t up v)) (insnV o2 a2 b2 c2 d2 k2 i2) := den_of_vr ⟨hin, hin, hin, hin, hin, hin, hin, trivial⟩ (vz (fun _ => none))
  have dy : Den (orY t (orB t up v)) (insnV o1 a1 b1 c1 d1 k1 i1) := den_of_vr ⟨good_yF hin _ _, good_yF hin _ _, good_yF hin _ _, good_yF hin _ _, good_yF hin _ _, good_yF hin _ _, good_yF hin _ _, trivial⟩ (vy (fun _ => none))
  have dn : Den (orN (orB t up v)) (.int .u64 n) := den1_of_vr (show Good1 (lf .u64 (orB t up v) 23) from hin) (vn (fun _ => none))
  have dr : Den (lf .u64 (orB t up v) 14) (.int .u64 R) := den1_of_vr (show Good1 (lf .u64 (orB t up v) 14) from hin) (vr (fun _ => none))
  have vt : ∀ {p : AV} {x : Value} {e : Int}, (∀ ρ, VR ρ p x) → ∀ ρ, VR ρ (.tup [p, .int .i64 e]) (.tuple #[x, .int .i64 e]) := fun hp ρ => .tup _ _ (.cons _ _ _ _ (hp ρ) (.cons _ _ _ _ (.int _ _) .nil))
  have hO : OrcSound Tryz.prog (G1 m) (orcO t v ex ey (orB t up v)) := orcSound_given fun f oc hf => by
    unfold orcO at hf
    split at hf <;> cases hf
    · exact one_row hb15 (row_sane m)
    · refine ⟨_, rfl, hb39, fun pat u hm => ?_⟩
      unfold row39 at hm
      rcases List.mem_cons.1 hm with hm | hm
      · cases hm; exact row_gives dx (vt vr) hx
      · rcases List.mem_cons.1 hm with hm | hm
        · cases hm; exact row_gives dy (vt vq) hy
        · split at hm
          · rcases List.mem_cons.1 hm with hm | hm
            · cases hm; exact row_gives dz (vt vn) (hz rfl)
            · cases hm
          · cases hm
    · refine ⟨_, rfl, hb41, fun pat u hm => ?_⟩
      unfold row41 at hm
      rcases List.mem_cons.1 hm with hm | hm
      · cases hm; exact row_gives dn (vt vz) hn
      · split at hm
        · rename_i he
          rcases List.mem_cons.1 hm with hm | hm
          · cases hm; exact row_gives dr (vt vx) (hr he)
          · cases hm
        · cases hm
    · exact one_row hb43 (row_num orcU_snd (count_ev m))
    · refine ⟨_, rfl, hb18, fun pat u hm => ?_⟩
      unfold row18 at hm
      split at hm
      · rcases List.mem_cons.1 hm with hm | hm
        · cases hm; exact row_gives dz (fun ρ => .int _ _) (hz' rfl)
        · cases hm
      · cases hm
  exact true_of_eval hO hev (.cons _ _ _ _ (vx _) (.cons _ _ _ _ (vy _) (.cons _ _ _ _ (vn _) .nil))) (hG _)
end Go.Ev

/-
  The law IsaOrder returns true.
-/
namespace Go.Ev
open Go.RowKit Go.Proofs
theorem rank_inj {o a b c d k i o' a' b' c' d' k' i' : Int} (hv : validB o a b c d k i = true) (hv' : validB o' a' b' c' d' k' i' = true) (h : rkS o a b c d k i = rkS o' a' b' c' d' k' i') :
    o = o' ∧ a = a' ∧ b = b' ∧ c = c' ∧ d = d' ∧ k = k' ∧ i = i' := by
  rcases first_diff (nthI [o, a, b, c, d, k, i]) (nthI [o', a', b', c', d', k', i']) 7 with he | ⟨t, ht, he, hne⟩
  · exact ⟨he 0 (by omega), he 1 (by omega), he 2 (by omega), he 3 (by omega), he 4 (by omega), he 5 (by omega), he 6 (by omega)⟩
  · rcases Int.lt_or_gt_of_ne hne with hl | hl
    · have := rank_lt hv hv' (lex_of (t := t) (by simpa using ht) (by simpa using ht) he hl)
      omega
    · have := rank_lt hv' hv (lex_of (t := t) (by simpa using ht) (by simpa using ht) (fun s hs => (he s hs).symm) hl)
      omega
theorem beq_no {a b : Nat} (h : a ≠ b) : Nat.beq a b = false := by
  cases e : Nat.beq a b with
  | true => exact absurd (beq_true e) h
  | false => rfl
/-- The unknown behind y's number s, where t is the first that differs. -/
def dF (t s : Nat) (x y : Int) : Int := match Nat.blt s t with
  | true => 0
  | false => match Nat.beq s t with | true => y - x | false => y
def Up (up : Bool) (x y : Int) : Prop := match up with | true => x < y | false => y < x
theorem plusB_in {up : Bool} {x y : Int} (h : Up up x y) (hx : -18446744073709551616 ≤ x ∧ x ≤ 18446744073709551616) (hy : -18446744073709551616 ≤ y ∧ y ≤ 18446744073709551616) : (plusB up).1 ≤ y - x ∧ y - x ≤ (plusB up).2 := by
  cases up with
  | true => have h : x < y := h; show (1 : Int) ≤ y - x ∧ y - x ≤ (36893488147419103232 : Int); omega
  | false => have h : y < x := h; show (-36893488147419103232 : Int) ≤ y - x ∧ y - x ≤ (-1 : Int); omega
theorem slot_i64 {t s : Nat} {up : Bool} {x y : Int} (ht : t < 7) (hs : s < 6) (hx : inI64 x) (hy : inI64 y) (h : s = t → Up up x y) : (ySlot t up s).1 ≤ dF t s x y ∧ dF t s x y ≤ (ySlot t up s).2 := by
  unfold ySlot dF
  have h8 : Nat.beq t 8 = false := beq_no (by omega)
  have h6 : Nat.beq s 6 = false := beq_no (by omega)
  rw [h8, h6]
  cases hb : Nat.blt s t with
  | true => exact ⟨Int.le_refl _, Int.le_refl _⟩
  | false => cases he : Nat.beq s t with
    | true => exact plusB_in (h (beq_true he)) (by unfold inI64 at hx; omega) (by unfold inI64 at hy; omega)
    | false => exact hy
theorem slot_u32 {t : Nat} {up : Bool} {x y : Int} (ht : t < 7) (hx : inU32 x) (hy : inU32 y) (h : 6 = t → Up up x y) : (ySlot t up 6).1 ≤ dF t 6 x y ∧ dF t 6 x y ≤ (ySlot t up 6).2 := by
  unfold ySlot dF
  have h8 : Nat.beq t 8 = false := beq_no (by omega)
  rw [h8, show Nat.beq 6 6 = true from rfl]
  cases hb : Nat.blt 6 t with
  | true => exact ⟨Int.le_refl _, Int.le_refl _⟩
  | false => cases he : Nat.beq 6 t with
    | true =>
      have h := h (beq_true he)
      unfold inU32 at hx hy
      cases up with
      | true => have h : x < y := h; show (1 : Int) ≤ y - x ∧ y - x ≤ (4294967295 : Int); omega
      | false => have h : y < x := h; show (-4294967295 : Int) ≤ y - x ∧ y - x ≤ (-1 : Int); omega
    | false => exact hy
theorem vr_yF {L : List Int} {bs : List (Int × Int)} (hw : Ins L bs) (kd : IntKind) {t s : Nat} {x y : Int} (ht : t < 7) (hx : nthI L s = x) (hd : nthI L (s + 7) = dF t s x y) (he : s < t → x = y) (ρ : Rho) : @VR (Unk.mk (nthI L)) ρ (yF t bs kd s) (.int kd y) := by
  have h8 : Nat.beq t 8 = false := beq_no (by omega)
  unfold yF dF at *
  rw [h8]
  cases hb : Nat.blt s t with
  | true => exact vr_lf hw kd (hx.trans (he (blt_true hb))) ρ
  | false =>
    rw [hb] at hd
    cases hq : Nat.beq s t with
    | true =>
      rw [hq] at hd
      exact vr_lin2 hw kd s (s + 7) (.ofNat 1) (by rw [hx, hd]; show y = x + 1 * (y - x); omega) ρ
    | false =>
      rw [hq] at hd
      exact vr_lf hw kd hd ρ
theorem or_run (m : Int) {t : Nat} (ht : t < 8) (up v : Bool) : orRun m t up v 0 0 = true := by
  cases up <;> cases v
  · exact @uptoB_true (Unk.mk (nthI [])) _ _ (or_bothD m) t ht
  · exact @uptoB_true (Unk.mk (nthI [])) _ _ (or_bothC m) t ht
  · exact @uptoB_true (Unk.mk (nthI [])) _ _ (or_bothB m) t ht
  · exact @uptoB_true (Unk.mk (nthI [])) _ _ (or_bothA m) t ht
theorem n_in {n : Int} (hn : 0 ≤ n ∧ n ≤ 18446744073709551615) {v : Bool} (hv : v = decide (n < 73882029336998)) : (nSlot v).1 ≤ n ∧ n ≤ (nSlot v).2 := by
  subst hv
  by_cases h : n < 73882029336998
  · rw [decide_eq_true h]; show (0 : Int) ≤ n ∧ n ≤ (73882029336997 : Int); omega
  · rw [decide_eq_false h]; show (73882029336998 : Int) ≤ n ∧ n ≤ (18446744073709551615 : Int); omega
theorem or_calls {m : Int} {w : World} (hG : GlobU m w) {o a b c d k i o1 a1 b1 c1 d1 k1 i1 n : Int} (h : inI64 o ∧ inI64 a ∧ inI64 b ∧ inI64 c ∧ inI64 d ∧ inI64 k ∧ inU32 i)
    (h' : inI64 o1 ∧ inI64 a1 ∧ inI64 b1 ∧ inI64 c1 ∧ inI64 d1 ∧ inI64 k1 ∧ inU32 i1) (hn : 0 ≤ n ∧ n ≤ 18446744073709551615) :
    Calls Tryz.prog 11 #[insnV o a b c d k i, insnV o1 a1 b1 c1 d1 k1 i1, .int .u64 n] w fun e w' => e = .returned (.bool true) ∧ Below w.heap.size w w' := by
  obtain ⟨o2, a2, b2, c2, d2, k2, i2, er, hzr, her, hzv, hun⟩ := unranks2 n hn
  obtain ⟨v, hv⟩ : ∃ v, v = decide (n < 73882029336998) := ⟨_, rfl⟩
  have hlt : v = true → n < 73882029336998 := fun e => of_decide_eq_true (hv ▸ e)
  have hx : Gives 39 #[insnV o a b c d k i] (.tuple #[.int .u64 (rkS o a b c d k i), .int .i64 (rkE o a b c d k i)]) := fun m w hG => rank_calls hG h
  have hy : Gives 39 #[insnV o1 a1 b1 c1 d1 k1 i1] (.tuple #[.int .u64 (rkS o1 a1 b1 c1 d1 k1 i1), .int .i64 (rkE o1 a1 b1 c1 d1 k1 i1)]) := fun m w hG => rank_calls hG h'
  have hz : v = true → Gives 39 #[insnV o2 a2 b2 c2 d2 k2 i2] (.tuple #[.int .u64 n, .int .i64 0]) := fun e m w hG => by
    obtain ⟨g1, g2⟩ := hzv (hlt e)
    have := rank_calls hG hzr
    unfold rkE at this
    rw [if_pos g1, g2] at this
    exact this
  have hz' : v = true → Gives 18 #[insnV o2 a2 b2 c2 d2 k2 i2] (.int .i64 0) := fun e m w hG => by
    obtain ⟨g1, g2⟩ := hzv (hlt e)
    obtain ⟨z0, z1, z2, z3, z4, z5, z6⟩ := hzr
    have := check_calls hG z0 z1 z2 z3 z4 z5 z6
    rw [if_pos g1] at this
    exact this
  have hN : Gives 41 #[.int .u64 n] (.tuple #[insnV o2 a2 b2 c2 d2 k2 i2, .int .i64 (erV v)]) := fun m w hG => by
    have := (hun m w hG).1
    rw [her] at this
    by_cases hl : n < 73882029336998
    · rw [if_pos hl] at this
      rw [hv, decide_eq_true hl]; exact this
    · rw [if_neg hl] at this
      rw [hv, decide_eq_false hl]; exact this
  have hr : isZ (rkE o a b c d k i) = true → Gives 41 #[.int .u64 (rkS o a b c d k i)] (.tuple #[insnV o a b c d k i, .int .i64 0]) := fun e m w hG => by
    have hvx : validB o a b c d k i = true := by
      cases hb : validB o a b c d k i with
      | true => rfl
      | false =>
        unfold rkE at e
        rw [hb] at e
        cases e
    have hin := rkS_in (o := o) (a := a) (b := b) (c := c) (d := d) (k := k) (i := i)
    obtain ⟨o3, a3, b3, c3, d3, k3, i3, er3, hzr3, her3, hzv3, hun3⟩ := unranks2 (rkS o a b c d k i) ⟨hin.1, by omega⟩
    obtain ⟨g1, g2⟩ := hzv3 hin.2
    obtain ⟨rfl, rfl, rfl, rfl, rfl, rfl, rfl⟩ := rank_inj g1 hvx g2
    have := (hun3 m w hG).1
    rw [her3, if_pos hin.2] at this
    exact this
  have hRi := rkS_in (o := o) (a := a) (b := b) (c := c) (d := d) (k := k) (i := i)
  have hQi := rkS_in (o := o1) (a := a1) (b := b1) (c := c1) (d := d1) (k := k1) (i := i1)
  have hns := n_in hn hv
  have hcb : ∀ {R : Int}, 0 ≤ R ∧ R < 73882029336998 → (cB.1 ≤ R ∧ R ≤ cB.2) := fun {R} hR => by show (0 : Int) ≤ R ∧ R ≤ (73882029336997 : Int); omega
  have hinx := h
  have hiny := h'
  obtain ⟨h0, h1, h2, h3, h4, h5, h6⟩ := h
  obtain ⟨g0, g1, g2, g3, g4, g5, g6⟩ := h'
  obtain ⟨z0, z1, z2, z3, z4, z5, z6⟩ := hzr
  by_cases hb : validB o a b c d k i = true ∧ validB o1 a1 b1 c1 d1 k1 i1 = true
  · obtain ⟨hvx, hvy⟩ := hb
    have ex : rkE o a b c d k i = 0 := if_pos hvx
    have ey : rkE o1 a1 b1 c1 d1 k1 i1 = 0 := if_pos hvy
    rw [ex] at hx hr
    rw [ey] at hy
    rcases first_diff (nthI [o, a, b, c, d, k, i]) (nthI [o1, a1, b1, c1, d1, k1, i1]) 7 with he | ⟨t, ht, he, hne⟩
    · obtain rfl : o = o1 := he 0 (by omega)
      obtain rfl : a = a1 := he 1 (by omega)
      obtain rfl : b = b1 := he 2 (by omega)
      obtain rfl : c = c1 := he 3 (by omega)
      obtain rfl : d = d1 := he 4 (by omega)
      obtain rfl : k = k1 := he 5 (by omega)
      obtain rfl : i = i1 := he 6 (by omega)
      generalize rkS o a b c d k i = R at *
      have hw : Ins [o, a, b, c, d, k, i, 0, 0, 0, 0, 0, 0, 0, R, 0, o2, a2, b2, c2, d2, k2, i2, n] (orB 7 true v) :=
        ⟨h0, h1, h2, h3, h4, h5, h6, ⟨Int.le_refl _, Int.le_refl _⟩, ⟨Int.le_refl _, Int.le_refl _⟩, ⟨Int.le_refl _, Int.le_refl _⟩, ⟨Int.le_refl _, Int.le_refl _⟩, ⟨Int.le_refl _, Int.le_refl _⟩, ⟨Int.le_refl _, Int.le_refl _⟩, ⟨Int.le_refl _, Int.le_refl _⟩, hcb hRi, ⟨Int.le_refl _, Int.le_refl _⟩, z0, z1, z2, z3, z4, z5, z6, hns, trivial⟩
      exact or_main hG (t := 7) (up := true) hw rfl rfl rfl rfl rfl rfl rfl rfl rfl rfl rfl rfl rfl rfl rfl rfl
        (fun ρ => @vr_7 (Unk.mk _) _ _ _ _ _ _ _ _ _ _ _ _ _ _ _ (vr_lf hw .i64 (n := 0) rfl ρ) (vr_lf hw .i64 (n := 1) rfl ρ) (vr_lf hw .i64 (n := 2) rfl ρ) (vr_lf hw .i64 (n := 3) rfl ρ) (vr_lf hw .i64 (n := 4) rfl ρ) (vr_lf hw .i64 (n := 5) rfl ρ) (vr_lf hw .u32 (n := 6) rfl ρ))
        (fun ρ => vr_lf hw .u64 (n := 14) rfl ρ) hx hy hz hz' hN hr (or_run m (by omega) true v)
    · obtain ⟨up, hup⟩ : ∃ up, Up up (nthI [o, a, b, c, d, k, i] t) (nthI [o1, a1, b1, c1, d1, k1, i1] t) := by
        rcases Int.lt_or_gt_of_ne hne with hl | hl
        · exact ⟨true, hl⟩
        · exact ⟨false, hl⟩
      have hRQ : Up up (rkS o a b c d k i) (rkS o1 a1 b1 c1 d1 k1 i1) := by
        cases up with
        | true => exact rank_lt hvx hvy (lex_of (t := t) (by simpa using ht) (by simpa using ht) he hup)
        | false => exact rank_lt hvy hvx (lex_of (t := t) (by simpa using ht) (by simpa using ht) (fun s hs => (he s hs).symm) hup)
      generalize rkS o a b c d k i = R at *
      generalize rkS o1 a1 b1 c1 d1 k1 i1 = Q at *
      have hs : ∀ s, s = t → Up up (nthI [o, a, b, c, d, k, i] s) (nthI [o1, a1, b1, c1, d1, k1, i1] s) := fun s e => by rw [e]; exact hup
      have h8 : Nat.beq t 8 = false := beq_no (by omega)
      have h7 : Nat.beq t 7 = false := beq_no (by omega)
      have hbs : (bSlot t up).1 ≤ Q - R ∧ Q - R ≤ (bSlot t up).2 := by
        unfold bSlot
        rw [h8, h7]
        exact plusB_in hRQ (by omega) (by omega)
      have hw : Ins [o, a, b, c, d, k, i, dF t 0 o o1, dF t 1 a a1, dF t 2 b b1, dF t 3 c c1, dF t 4 d d1, dF t 5 k k1, dF t 6 i i1, R, Q - R, o2, a2, b2, c2, d2, k2, i2, n] (orB t up v) :=
        ⟨h0, h1, h2, h3, h4, h5, h6, slot_i64 ht (by omega) h0 g0 (hs 0), slot_i64 ht (by omega) h1 g1 (hs 1), slot_i64 ht (by omega) h2 g2 (hs 2), slot_i64 ht (by omega) h3 g3 (hs 3), slot_i64 ht (by omega) h4 g4 (hs 4), slot_i64 ht (by omega) h5 g5 (hs 5), slot_u32 ht h6 g6 (hs 6),
          hcb hRi, hbs, z0, z1, z2, z3, z4, z5, z6, hns, trivial⟩
      exact or_main hG (t := t) (up := up) hw rfl rfl rfl rfl rfl rfl rfl rfl rfl rfl rfl rfl rfl rfl rfl rfl
        (fun ρ => @vr_7 (Unk.mk _) _ _ _ _ _ _ _ _ _ _ _ _ _ _ _ (vr_yF hw .i64 (s := 0) ht rfl rfl (he 0) ρ) (vr_yF hw .i64 (s := 1) ht rfl rfl (he 1) ρ) (vr_yF hw .i64 (s := 2) ht rfl rfl (he 2) ρ) (vr_yF hw .i64 (s := 3) ht rfl rfl (he 3) ρ) (vr_yF hw .i64 (s := 4) ht rfl rfl (he 4) ρ) (vr_yF hw .i64 (s := 5) ht rfl rfl (he 5) ρ) (vr_yF hw .u32 (s := 6) ht rfl rfl (he 6) ρ))
        (fun ρ => by
          unfold bF
          rw [h8, h7]
          exact vr_lin2 hw .u64 14 15 (.ofNat 1) (by show Q = R + 1 * (Q - R); omega) ρ) hx hy hz hz' hN hr (or_run m (by omega) up v)
  · have hev : orRun m 8 true v (rkE o a b c d k i) (rkE o1 a1 b1 c1 d1 k1 i1) = true := by
      unfold rkE
      by_cases hvx : validB o a b c d k i = true <;> by_cases hvy : validB o1 a1 b1 c1 d1 k1 i1 = true
      · exact absurd ⟨hvx, hvy⟩ hb
      · rw [if_pos hvx, if_neg hvy]; cases v
        · exact or_x6 m
        · exact or_x3 m
      · rw [if_neg hvx, if_pos hvy]; cases v
        · exact or_x4 m
        · exact or_x1 m
      · rw [if_neg hvx, if_neg hvy]; cases v
        · exact or_x5 m
        · exact or_x2 m
    generalize rkS o a b c d k i = R at *
    generalize rkS o1 a1 b1 c1 d1 k1 i1 = Q at *
    have hw : Ins [o, a, b, c, d, k, i, o1, a1, b1, c1, d1, k1, i1, R, Q, o2, a2, b2, c2, d2, k2, i2, n] (orB 8 true v) :=
      ⟨h0, h1, h2, h3, h4, h5, h6, g0, g1, g2, g3, g4, g5, g6, hcb hRi, hcb hQi, z0, z1, z2, z3, z4, z5, z6, hns, trivial⟩
    exact or_main hG (t := 8) (up := true) hw rfl rfl rfl rfl rfl rfl rfl rfl rfl rfl rfl rfl rfl rfl rfl rfl
      (fun ρ => @vr_7 (Unk.mk _) _ _ _ _ _ _ _ _ _ _ _ _ _ _ _ (vr_lf hw .i64 (n := 7) rfl ρ) (vr_lf hw .i64 (n := 8) rfl ρ) (vr_lf hw .i64 (n := 9) rfl ρ) (vr_lf hw .i64 (n := 10) rfl ρ) (vr_lf hw .i64 (n := 11) rfl ρ) (vr_lf hw .i64 (n := 12) rfl ρ) (vr_lf hw .u32 (n := 13) rfl ρ))
      (fun ρ => vr_lf hw .u64 (n := 15) rfl ρ) hx hy hz hz' hN hr hev
end Go.Ev

