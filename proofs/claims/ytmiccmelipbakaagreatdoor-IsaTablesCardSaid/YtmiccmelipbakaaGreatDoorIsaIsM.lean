import Derived.Test.YtmiccmelipbakaaGreatDoorIsaX
set_option linter.unusedSectionVars false
set_option linter.unusedVariables false
set_option linter.unusedSimpArgs false
/-
  The contract of the specification's Is, at every instruction: true exactly of what isa.Check lets by.
-/
namespace Go.Ev
open Go.RowKit Go.Proofs

def opN (op : Nat) : Bool := match Nat.blt op 1 with | true => false | false => match Nat.ble op 61 with | true => true | false => match Nat.blt op 64 with | true => false | false => Nat.ble op 72
theorem opN_of {o : Int} (h : isOpB o = true) : opN o.toNat = true ∧ o.toNat < 73 ∧ (o.toNat : Int) = o := by
  simp only [isOpB, Bool.or_eq_true, Bool.and_eq_true, decide_eq_true_eq] at h
  refine ⟨?_, by omega, by omega⟩
  have key : ∀ n, n < 73 → (1 ≤ n ∧ n ≤ 61 ∨ 64 ≤ n) → opN n = true := by
    have : uptoB (fun n => opN n || (Nat.blt n 1 || (Nat.ble 62 n && Nat.ble n 63))) 73 = true := by kernel_rfl
    intro n hn hc
    have := @uptoB_true (Unk.mk (nthI [])) _ _ this n hn
    simp only [Bool.or_eq_true, Bool.and_eq_true, Nat.blt_eq, Nat.ble_eq] at this
    rcases this with h | h
    · exact h
    · omega
  exact key _ (by omega) (by omega)
/-! ### Sizes: a table -/
def sizeCells : List (Int × Int) → List AV
  | [] => []
  | (a, b) :: l => .int .i64 (Int.add (Int.sub b a) (.ofNat 1)) :: .int .i64 a :: sizeCells l
def sizesV : List (Int × Int) → List Value
  | [] => []
  | (a, b) :: l => .int .i64 (b - a + 1) :: .int .i64 a :: sizesV l
theorem goodS_sizes [Unk] : ∀ l, GoodS (sizeCells l)
  | [] => trivial
  | (_, _) :: l => ⟨trivial, trivial, goodS_sizes l⟩
theorem denS_sizes [Unk] : ∀ {l : List (Int × Int)} {vs : List Value}, DenS (sizeCells l) vs → vs = sizesV l
  | [], [], _ => rfl
  | [], _ :: _, h => h.elim
  | (_, _) :: _, [], h => h.elim
  | (_, _) :: _, [_], h => h.2.elim
  | (a, b) :: l, u :: v :: vs, h => by
    obtain ⟨h1, h2, h3⟩ := h
    have h1 : u = .int .i64 (b - a + 1) := h1
    have h2 : v = .int .i64 a := h2
    rw [h1, h2, denS_sizes h3]; rfl
set_option maxRecDepth 1000000 in
theorem sizes_tab (m : Int) : uptoB (fun i => match opN i with | false => true | true => evalA Tryz.prog (G1 m) orcN 100000 90 [.int .i64 (.ofNat i)] (isRet (.agg (sizeCells (rt i))))) 73 = true := by kernel_rfl
theorem sizes_of {m : Int} {w : World} (hG : GlobU m w) {op : Nat} (h : op < 73) (ho : opN op = true) :
    Calls Tryz.prog 90 #[.int .i64 (op : Int)] w fun e w' => e = .returned (.agg (sizesV (rt op)).toArray) ∧ Below w.heap.size w w' := by
  letI : Unk := Unk.mk (nthI [])
  have hev := uptoB_true (sizes_tab m) op h
  rw [ho] at hev
  refine Calls.mono (rowOK_of_eval (orcN_snd _) noNG1 mix1 hev (vs := [.int .i64 (op : Int)]) (.cons _ _ _ _ (.int _ _) .nil) (show Good (.agg _) from goodS_sizes _) (hG _)) fun e w' he => ?_
  obtain ⟨u, rfl, hd, _, hb⟩ := he
  obtain ⟨cs, rfl, hs⟩ := hd
  exact ⟨by rw [← denS_sizes hs], hb⟩
/-! ### Is, upon unknowns: op; of each field its least number, its distance from there, and how much is left. j: the first bound that doesn't hold -/
/-- 0: within; 1: below; 2: above; 3: not examined. -/
def st (j i : Nat) : Nat := match Nat.blt (i + i + 1) j with | true => 0 | false => match Nat.beq j (i + i) with | true => 1 | false => match Nat.beq j (i + i + 1) with | true => 2 | false => 3
def lB : Int × Int := (.negSucc 127, .ofNat 0)
def pB (i s : Nat) : Int × Int := match s with
  | 0 => (.ofNat 0, .ofNat 4294967295)
  | 1 => (nbig, .negSucc 0)
  | 2 => (.ofNat 0, match Nat.beq i 5 with | true => .ofNat 4294967295 | false => big)
  | _ => match Nat.beq i 5 with | true => (.ofNat 0, .ofNat 4294967295) | false => (nbig, big)
def qB (s : Nat) : Int × Int := match s with
  | 0 => (.ofNat 0, .ofNat 4294967295)
  | _ => (.ofNat 1, .ofNat 4294967296)
def isBs (opb : Int × Int) (j : Nat) : List (Int × Int) := [opb, lB, lB, lB, lB, lB, lB, pB 0 (st j 0), pB 1 (st j 1), pB 2 (st j 2), pB 3 (st j 3), pB 4 (st j 4), pB 5 (st j 5), qB (st j 0), qB (st j 1), qB (st j 2), qB (st j 3), qB (st j 4), qB (st j 5)]
def vF (kd : IntKind) (s i : Nat) (bs : List (Int × Int)) : AV := .lin kd (.ofNat 0) (match s with
  | 2 => Lin.add (e1 (i + 1) (.ofNat 1)) (Lin.add (e1 (i + 7) (.ofNat 1)) (e1 (i + 13) (.ofNat 1)))
  | _ => Lin.add (e1 (i + 1) (.ofNat 1)) (e1 (i + 7) (.ofNat 1))) bs
def mF (s i : Nat) (bs : List (Int × Int)) : AV := match s with
  | 0 => .lin .i64 (.ofNat 1) (Lin.add (e1 (i + 7) (.ofNat 1)) (e1 (i + 13) (.ofNat 1))) bs
  | _ => .lin .i64 (.ofNat 0) (e1 (i + 13) (.ofNat 1)) bs
def isArg (j : Nat) (bs : List (Int × Int)) : AV := .agg [lf .i64 bs 0, vF .i64 (st j 0) 0 bs, vF .i64 (st j 1) 1 bs, vF .i64 (st j 2) 2 bs, vF .i64 (st j 3) 3 bs, vF .i64 (st j 4) 4 bs, vF .u32 (st j 5) 5 bs]
def isTab (j : Nat) (bs : List (Int × Int)) : AV := .agg [mF (st j 0) 0 bs, lf .i64 bs 1, mF (st j 1) 1 bs, lf .i64 bs 2, mF (st j 2) 2 bs, lf .i64 bs 3, mF (st j 3) 3 bs, lf .i64 bs 4, mF (st j 4) 4 bs, lf .i64 bs 5, mF (st j 5) 5 bs, lf .i64 bs 6]
def orcI (j : Nat) (bs : List (Int × Int)) (f : Nat) : Option Orc := match Nat.beq f 90 with
  | true => some (.given [([lf .i64 bs 0], isTab j bs)])
  | false => none
noncomputable def isRun (m : Int) (opb : Int × Int) (j : Nat) : Bool := evalA Tryz.prog (G1 m) (orcI j (isBs opb j)) 100000 56 [isArg j (isBs opb j)] (isRet (.bool (Nat.beq j 12)))
/-- Of I nothing is below its least number. -/
def noJ (j : Nat) : Bool := Nat.beq j 10
set_option maxRecDepth 1000000 in
theorem is_ev1 (m : Int) : uptoB (fun j => match noJ j with | true => true | false => isRun m (.ofNat 1, .ofNat 61) j) 13 = true := by kernel_rfl
set_option maxRecDepth 1000000 in
theorem is_ev2 (m : Int) : uptoB (fun j => match noJ j with | true => true | false => isRun m (.ofNat 64, .ofNat 72) j) 13 = true := by kernel_rfl
noncomputable def isNone (m : Int) (opb : Int × Int) : Bool := evalA Tryz.prog (G1 m) orcN 100000 56 [argC (cbs opb 99)] (isRet (.bool false))
set_option maxRecDepth 1000000 in
theorem is_ev3 (m : Int) : isNone m (nbig, .ofNat 0) = true := by kernel_rfl
set_option maxRecDepth 1000000 in
theorem is_ev4 (m : Int) : isNone m (.ofNat 62, .ofNat 63) = true := by kernel_rfl
set_option maxRecDepth 1000000 in
theorem is_ev5 (m : Int) : isNone m (.ofNat 73, big) = true := by kernel_rfl
end Go.Ev

namespace Go.Ev
open Go.RowKit Go.Proofs

def pV (s : Nat) (v lo hi : Int) : Int := match s with | 2 => v - hi - 1 | _ => v - lo
def qV (s : Nat) (v lo hi : Int) : Int := match s with | 0 => hi - v | _ => hi - lo + 1
theorem st_zero {j i : Nat} (h : i + i + 1 < j) : st j i = 0 := by
  unfold st
  rw [show Nat.blt (i + i + 1) j = true by simpa [Nat.blt_eq] using h]
theorem st_nb {j i : Nat} (h : ¬ i + i + 1 < j) : Nat.blt (i + i + 1) j = false := by
  cases hb : Nat.blt (i + i + 1) j with
  | false => rfl
  | true => exact absurd (by simpa [Nat.blt_eq] using hb) h
theorem beq_nf {a b : Nat} (h : a ≠ b) : Nat.beq a b = false := by
  cases hb : Nat.beq a b with
  | false => rfl
  | true => exact absurd (Nat.eq_of_beq_eq_true hb) h
theorem beq_nt (a : Nat) : Nat.beq a a = true := Nat.beq_refl a
theorem st_one {j i : Nat} (h : j = i + i) : st j i = 1 := by
  unfold st
  rw [st_nb (by omega), h, beq_nt]
theorem st_two {j i : Nat} (h : j = i + i + 1) : st j i = 2 := by
  unfold st
  rw [st_nb (by omega), beq_nf (by omega), h, beq_nt]
theorem st_three {j i : Nat} (h : j < i + i) : st j i = 3 := by
  unfold st
  rw [st_nb (by omega), beq_nf (by omega), beq_nf (by omega)]
theorem field_ok {j i : Nat} {v lo hi : Int} (h1 : i + i < j → lo ≤ v) (h2 : j = i + i → v < lo) (h3 : i + i + 1 < j → v ≤ hi) (h4 : j = i + i + 1 → hi < v) (hlo : -128 ≤ lo ∧ lo ≤ 0) (hhi : 0 ≤ hi) (hs : hi - lo ≤ 4294967295)
    (hv : -9223372036854775808 ≤ v ∧ v ≤ 9223372036854775807) (h5 : i = 5 → 0 ≤ v ∧ v ≤ 4294967295 ∧ lo = 0) :
    ((pB i (st j i)).1 ≤ pV (st j i) v lo hi ∧ pV (st j i) v lo hi ≤ (pB i (st j i)).2) ∧ ((qB (st j i)).1 ≤ qV (st j i) v lo hi ∧ qV (st j i) v lo hi ≤ (qB (st j i)).2) := by
  have eb : big = 36893488147419103232 := rfl
  have en : nbig = -36893488147419103232 := rfl
  by_cases c0 : i + i + 1 < j
  · have := h1 (by omega)
    have := h3 c0
    rw [st_zero c0]
    show (0 ≤ v - lo ∧ v - lo ≤ 4294967295) ∧ (0 ≤ hi - v ∧ hi - v ≤ 4294967295)
    omega
  · by_cases c1 : j = i + i
    · have := h2 c1
      rw [st_one c1]
      show (nbig ≤ v - lo ∧ v - lo ≤ -1) ∧ (1 ≤ hi - lo + 1 ∧ hi - lo + 1 ≤ 4294967296)
      rw [en]; omega
    · by_cases c2 : j = i + i + 1
      · have := h4 c2
        have := h1 (by omega)
        rw [st_two c2]
        refine ⟨⟨?_, ?_⟩, ?_, ?_⟩
        · show 0 ≤ v - hi - 1; omega
        · show v - hi - 1 ≤ (match Nat.beq i 5 with | true => 4294967295 | false => big)
          by_cases hi5 : i = 5
          · have := h5 hi5
            subst hi5
            show v - hi - 1 ≤ 4294967295
            omega
          · rw [beq_nf hi5]
            show v - hi - 1 ≤ big
            rw [eb]; omega
        · show 1 ≤ hi - lo + 1; omega
        · show hi - lo + 1 ≤ 4294967296; omega
      · rw [st_three (by omega)]
        refine ⟨?_, ?_, ?_⟩
        · show (match Nat.beq i 5 with | true => ((.ofNat 0, .ofNat 4294967295) : Int × Int) | false => (nbig, big)).1 ≤ v - lo ∧ v - lo ≤ (match Nat.beq i 5 with | true => ((.ofNat 0, .ofNat 4294967295) : Int × Int) | false => (nbig, big)).2
          by_cases hi5 : i = 5
          · have := h5 hi5
            subst hi5
            show 0 ≤ v - lo ∧ v - lo ≤ 4294967295
            omega
          · rw [beq_nf hi5]
            show nbig ≤ v - lo ∧ v - lo ≤ big
            rw [en, eb]; omega
        · show 1 ≤ hi - lo + 1; omega
        · show hi - lo + 1 ≤ 4294967296; omega
theorem vr_vF {L : List Int} {bs : List (Int × Int)} (hw : Ins L bs) {kd : IntKind} {s i : Nat} {v lo hi : Int} (hl : nthI L (i + 1) = lo) (hp : nthI L (i + 7) = pV s v lo hi) (hq : nthI L (i + 13) = qV s v lo hi) (ρ : Rho) : @VR (Unk.mk (nthI L)) ρ (vF kd s i bs) (.int kd v) := by
  letI : Unk := Unk.mk (nthI L)
  refine .lin _ _ _ _ _ ?_ (within_unkL hw)
  rcases s with _ | _ | _ | s
  · show v = (0 : Int) + Lin.val (nthI L) (Lin.add (e1 (i + 1) 1) (e1 (i + 7) 1)) 0
    rw [Lin.val_add, val_u, val_u, hl, hp]
    show v = 0 + (1 * lo + 1 * (v - lo)); omega
  · show v = (0 : Int) + Lin.val (nthI L) (Lin.add (e1 (i + 1) 1) (e1 (i + 7) 1)) 0
    rw [Lin.val_add, val_u, val_u, hl, hp]
    show v = 0 + (1 * lo + 1 * (v - lo)); omega
  · show v = (0 : Int) + Lin.val (nthI L) (Lin.add (e1 (i + 1) 1) (Lin.add (e1 (i + 7) 1) (e1 (i + 13) 1))) 0
    rw [Lin.val_add, Lin.val_add, val_u, val_u, val_u, hl, hp, hq]
    show v = 0 + (1 * lo + (1 * (v - hi - 1) + 1 * (hi - lo + 1))); omega
  · show v = (0 : Int) + Lin.val (nthI L) (Lin.add (e1 (i + 1) 1) (e1 (i + 7) 1)) 0
    rw [Lin.val_add, val_u, val_u, hl, hp]
    show v = 0 + (1 * lo + 1 * (v - lo)); omega
theorem vr_mF {L : List Int} {bs : List (Int × Int)} (hw : Ins L bs) {s i : Nat} {v lo hi : Int} (hp : nthI L (i + 7) = pV s v lo hi) (hq : nthI L (i + 13) = qV s v lo hi) (ρ : Rho) : @VR (Unk.mk (nthI L)) ρ (mF s i bs) (.int .i64 (hi - lo + 1)) := by
  letI : Unk := Unk.mk (nthI L)
  rcases s with _ | s
  · refine .lin _ _ _ _ _ ?_ (within_unkL hw)
    show hi - lo + 1 = (1 : Int) + Lin.val (nthI L) (Lin.add (e1 (i + 7) 1) (e1 (i + 13) 1)) 0
    rw [Lin.val_add, val_u, val_u, hp, hq]
    show hi - lo + 1 = 1 + (1 * (v - lo) + 1 * (hi - v)); omega
  · refine .lin _ _ _ _ _ ?_ (within_unkL hw)
    show hi - lo + 1 = (0 : Int) + Lin.val (nthI L) (e1 (i + 13) 1) 0
    rw [val_u, hq]
    show hi - lo + 1 = 0 + 1 * (hi - lo + 1); omega
theorem bool_of_eval [Unk] {G : Nat → Nat → Option AV} {orc : Nat → Option Orc} (hO : OrcSound Tryz.prog G orc) {fuel f : Nat} {args : List AV} {b : Bool} (h : evalA Tryz.prog G orc fuel f args (isRet (.bool b)) = true) {vs : List Value} (hv : VRs (fun _ => none) args vs)
    {w : World} (hG : Globals G w) : Calls Tryz.prog f vs.toArray w fun e w' => e = .returned (.bool b) ∧ Below w.heap.size w w' := by
  refine Calls.mono (rowOK_of_eval hO noNG1 mix1 h hv (show Good (.bool _) from trivial) hG) fun e w' he => ?_
  obtain ⟨u, rfl, hd, _, hb⟩ := he
  have hd : u = .bool b := hd
  exact ⟨by rw [hd], hb⟩
theorem hb90 : HasBody Tryz.prog 90 := ⟨_, _, Tryz.func90, by kernel_rfl, rfl⟩
theorem is_op {m : Int} {w : World} (hG : GlobU m w) {lo hi : Int} (hev : ∀ j, j < 13 → noJ j = false → isRun m (lo, hi) j = true) {op a b c d k i : Int} (hlo : lo ≤ op) (hhi : op ≤ hi) (hop : isOpB op = true)
    (ha : inI64 a) (hb : inI64 b) (hc : inI64 c) (hd : inI64 d) (hk : inI64 k) (hi' : inU32 i) :
    Calls Tryz.prog 56 #[insnV op a b c d k i] w fun e w' => e = .returned (.bool (validB op a b c d k i)) ∧ Below w.heap.size w w' := by
  obtain ⟨hon, hn, hz⟩ := opN_of hop
  obtain ⟨a4, b0, b1, b2, b3, b4, b5, hr, k1, k2, ⟨g0, g0'⟩, ⟨g1, g1'⟩, ⟨g2, g2'⟩, ⟨g3, g3'⟩, ⟨g4, g4'⟩, ⟨g5, g5'⟩⟩ := spans_of hn
  have hv := valid_iff (a := a) (b := b) (c := c) (d := d) (k := k) (i := i) hop hr
  obtain ⟨j, hj, hpos, hneg⟩ := first_neg (dist a b c d k i a4 b0 b1 b2 b3 b4 b5) 12
  have hres : validB op a b c d k i = Nat.beq j 12 := by
    by_cases hj12 : j = 12
    · subst hj12
      rw [hv.2 (dist_iff.1 hpos)]; rfl
    · have hlt : j < 12 := by omega
      rw [beq_nf hj12]
      cases hval : validB op a b c d k i with
      | false => rfl
      | true =>
        have := dist_iff.2 (hv.1 hval) j hlt
        have := hneg hlt
        omega
  rw [hres]
  unfold inI64 at ha hb hc hd hk
  unfold inU32 at hi'
  have hj10 : noJ j = false := beq_nf fun e => by
    subst e
    have : i < 0 := hneg (by omega)
    omega
  have D0 : ∀ t x, t < j → dist a b c d k i a4 b0 b1 b2 b3 b4 b5 t = x → 0 ≤ x := fun t x h e => by subst e; exact hpos t h
  have D1 : ∀ t x, t < 12 → j = t → dist a b c d k i a4 b0 b1 b2 b3 b4 b5 t = x → x < 0 := fun t x h e e' => by subst e e'; exact hneg h
  have f0 := field_ok (j := j) (i := 0) (v := a) (lo := 0) (hi := b0) (fun h => D0 0 a h rfl) (fun h => D1 0 a (by omega) h rfl) (fun h => by have := D0 1 (b0 - a) h rfl; omega) (fun h => by have := D1 1 (b0 - a) (by omega) h rfl; omega) (by omega) (by omega) (by omega) ha (fun h => by omega)
  have f1 := field_ok (j := j) (i := 1) (v := b) (lo := 0) (hi := b1) (fun h => D0 2 b h rfl) (fun h => D1 2 b (by omega) h rfl) (fun h => by have := D0 3 (b1 - b) h rfl; omega) (fun h => by have := D1 3 (b1 - b) (by omega) h rfl; omega) (by omega) (by omega) (by omega) hb (fun h => by omega)
  have f2 := field_ok (j := j) (i := 2) (v := c) (lo := 0) (hi := b2) (fun h => D0 4 c h rfl) (fun h => D1 4 c (by omega) h rfl) (fun h => by have := D0 5 (b2 - c) h rfl; omega) (fun h => by have := D1 5 (b2 - c) (by omega) h rfl; omega) (by omega) (by omega) (by omega) hc (fun h => by omega)
  have f3 := field_ok (j := j) (i := 3) (v := d) (lo := 0) (hi := b3) (fun h => D0 6 d h rfl) (fun h => D1 6 d (by omega) h rfl) (fun h => by have := D0 7 (b3 - d) h rfl; omega) (fun h => by have := D1 7 (b3 - d) (by omega) h rfl; omega) (by omega) (by omega) (by omega) hd (fun h => by omega)
  have f4 := field_ok (j := j) (i := 4) (v := k) (lo := a4) (hi := b4) (fun h => by have := D0 8 (k - a4) h rfl; omega) (fun h => by have := D1 8 (k - a4) (by omega) h rfl; omega) (fun h => by have := D0 9 (b4 - k) h rfl; omega) (fun h => by have := D1 9 (b4 - k) (by omega) h rfl; omega) (by omega) (by omega) (by omega) hk (fun h => by omega)
  have f5 := field_ok (j := j) (i := 5) (v := i) (lo := 0) (hi := b5) (fun h => D0 10 i h rfl) (fun h => D1 10 i (by omega) h rfl) (fun h => by have := D0 11 (b5 - i) h rfl; omega) (fun h => by have := D1 11 (b5 - i) (by omega) h rfl; omega) (by omega) (by omega) (by omega) (by omega) (fun h => by omega)
  have l0 : lB.1 ≤ (0 : Int) ∧ (0 : Int) ≤ lB.2 := ⟨by decide, by decide⟩
  have l4 : lB.1 ≤ a4 ∧ a4 ≤ lB.2 := ⟨k1, k2⟩
  have hev := hev j (by omega) hj10
  unfold isRun at hev
  generalize hLL : [op, 0, 0, 0, 0, a4, 0, pV (st j 0) a 0 b0, pV (st j 1) b 0 b1, pV (st j 2) c 0 b2, pV (st j 3) d 0 b3, pV (st j 4) k a4 b4, pV (st j 5) i 0 b5, qV (st j 0) a 0 b0, qV (st j 1) b 0 b1, qV (st j 2) c 0 b2, qV (st j 3) d 0 b3, qV (st j 4) k a4 b4, qV (st j 5) i 0 b5] = L
  have hw : Ins L (isBs (lo, hi) j) := by
    subst hLL
    exact ⟨⟨hlo, hhi⟩, l0, l0, l0, l0, l4, l0, f0.1, f1.1, f2.1, f3.1, f4.1, f5.1, f0.2, f1.2, f2.2, f3.2, f4.2, f5.2, trivial⟩
  have v0 := vr_vF (kd := .i64) (s := st j 0) (i := 0) (v := a) (lo := 0) (hi := b0) hw (by subst hLL; rfl) (by subst hLL; rfl) (by subst hLL; rfl)
  have v1 := vr_vF (kd := .i64) (s := st j 1) (i := 1) (v := b) (lo := 0) (hi := b1) hw (by subst hLL; rfl) (by subst hLL; rfl) (by subst hLL; rfl)
  have v2 := vr_vF (kd := .i64) (s := st j 2) (i := 2) (v := c) (lo := 0) (hi := b2) hw (by subst hLL; rfl) (by subst hLL; rfl) (by subst hLL; rfl)
  have v3 := vr_vF (kd := .i64) (s := st j 3) (i := 3) (v := d) (lo := 0) (hi := b3) hw (by subst hLL; rfl) (by subst hLL; rfl) (by subst hLL; rfl)
  have v4 := vr_vF (kd := .i64) (s := st j 4) (i := 4) (v := k) (lo := a4) (hi := b4) hw (by subst hLL; rfl) (by subst hLL; rfl) (by subst hLL; rfl)
  have v5 := vr_vF (kd := .u32) (s := st j 5) (i := 5) (v := i) (lo := 0) (hi := b5) hw (by subst hLL; rfl) (by subst hLL; rfl) (by subst hLL; rfl)
  have m0 := vr_mF (s := st j 0) (i := 0) (v := a) (lo := 0) (hi := b0) hw (by subst hLL; rfl) (by subst hLL; rfl)
  have m1 := vr_mF (s := st j 1) (i := 1) (v := b) (lo := 0) (hi := b1) hw (by subst hLL; rfl) (by subst hLL; rfl)
  have m2 := vr_mF (s := st j 2) (i := 2) (v := c) (lo := 0) (hi := b2) hw (by subst hLL; rfl) (by subst hLL; rfl)
  have m3 := vr_mF (s := st j 3) (i := 3) (v := d) (lo := 0) (hi := b3) hw (by subst hLL; rfl) (by subst hLL; rfl)
  have m4 := vr_mF (s := st j 4) (i := 4) (v := k) (lo := a4) (hi := b4) hw (by subst hLL; rfl) (by subst hLL; rfl)
  have m5 := vr_mF (s := st j 5) (i := 5) (v := i) (lo := 0) (hi := b5) hw (by subst hLL; rfl) (by subst hLL; rfl)
  have t0 : ∀ ρ, @VR (Unk.mk (nthI L)) ρ (lf .i64 (isBs (lo, hi) j) 0) (.int .i64 op) := vr_lf hw _ (by subst hLL; rfl)
  have tl : ∀ n z, nthI L n = z → ∀ ρ, @VR (Unk.mk (nthI L)) ρ (lf .i64 (isBs (lo, hi) j) n) (.int .i64 z) := fun n z h => vr_lf hw _ h
  have z1 := tl 1 0 (by subst hLL; rfl)
  have z2 := tl 2 0 (by subst hLL; rfl)
  have z3 := tl 3 0 (by subst hLL; rfl)
  have z4 := tl 4 0 (by subst hLL; rfl)
  have z5 := tl 5 a4 (by subst hLL; rfl)
  have z6 := tl 6 0 (by subst hLL; rfl)
  clear hLL
  letI : Unk := Unk.mk (nthI L)
  have hO : OrcSound Tryz.prog (G1 m) (orcI j (isBs (lo, hi) j)) := orcSound_given fun f oc hf => by
    unfold orcI at hf
    split at hf
    · rename_i h90
      have h90 := beqF h90
      subst h90
      cases hf
      refine ⟨_, rfl, hb90, fun pat v hm => ?_⟩
      simp only [List.mem_cons, List.not_mem_nil, or_false, Prod.mk.injEq] at hm
      obtain ⟨rfl, rfl⟩ := hm
      intro w' vs hG' hd'
      have hden : Den (lf .i64 (isBs (lo, hi) j) 0) (.int .i64 op) := den1_of_vr (show Good1 (lf _ _ _) from within_unkL hw) (t0 (fun _ => none))
      obtain rfl := denL_one hden hd'
      have hs := sizes_of (globU_of hG') hn hon
      rw [hz, hr] at hs
      refine Calls.mono hs fun e w'' he => ?_
      obtain ⟨rfl, hb'⟩ := he
      exact ⟨_, rfl, fun ρ => .agg _ _ (.cons _ _ _ _ (m0 ρ) (.cons _ _ _ _ (z1 ρ) (.cons _ _ _ _ (m1 ρ) (.cons _ _ _ _ (z2 ρ) (.cons _ _ _ _ (m2 ρ) (.cons _ _ _ _ (z3 ρ) (.cons _ _ _ _ (m3 ρ) (.cons _ _ _ _ (z4 ρ) (.cons _ _ _ _ (m4 ρ) (.cons _ _ _ _ (z5 ρ) (.cons _ _ _ _ (m5 ρ) (.cons _ _ _ _ (z6 ρ) .nil)))))))))))), hb'⟩
    · cases hf
  exact bool_of_eval hO hev (.cons _ _ _ _ (.agg _ _ (.cons _ _ _ _ (t0 _) (.cons _ _ _ _ (v0 _) (.cons _ _ _ _ (v1 _) (.cons _ _ _ _ (v2 _) (.cons _ _ _ _ (v3 _) (.cons _ _ _ _ (v4 _) (.cons _ _ _ _ (v5 _) .nil)))))))) .nil) (hG _)
theorem is_none {m : Int} {w : World} (hG : GlobU m w) {lo hi : Int} (hev : isNone m (lo, hi) = true) {op a b c d k i : Int} (hlo : lo ≤ op) (hhi : op ≤ hi) (hop : isOpB op = false)
    (ha : inI64 a) (hb : inI64 b) (hc : inI64 c) (hd : inI64 d) (hk : inI64 k) (hi' : inU32 i) :
    Calls Tryz.prog 56 #[insnV op a b c d k i] w fun e w' => e = .returned (.bool (validB op a b c d k i)) ∧ Below w.heap.size w w' := by
  have hres : validB op a b c d k i = false := by unfold validB; rw [hop]; rfl
  rw [hres]
  unfold inI64 at ha hb hc hd hk
  unfold inU32 at hi'
  have eb : big = 36893488147419103232 := rfl
  have en : nbig = -36893488147419103232 := rfl
  have big' : ∀ x : Int, (-9223372036854775808 ≤ x ∧ x ≤ 9223372036854775807) → nbig ≤ x ∧ x ≤ big := fun x hx => by rw [eb, en]; omega
  have D : ∀ t : Nat, t < 12 → (dOf 99 t).1 ≤ 0 ∧ (0 : Int) ≤ (dOf 99 t).2 := fun t ht => dOf_ok (fun _ => by omega) (fun h => by omega) (by omega) (by omega)
  have hw : Ins [op, a, b, c, d, k, i] (cbs (lo, hi) 99) :=
    ⟨⟨hlo, hhi⟩, big' a ha, big' b hb, big' c hc, big' d hd, big' k hk, hi', D 0 (by omega), D 2 (by omega), D 4 (by omega), D 6 (by omega), D 8 (by omega), D 10 (by omega), D 1 (by omega), D 3 (by omega), D 5 (by omega), D 7 (by omega), D 9 (by omega), D 11 (by omega), trivial⟩
  letI : Unk := Unk.mk (nthI [op, a, b, c, d, k, i])
  exact bool_of_eval (orcN_snd _) hev (.cons _ _ _ _ (vr_argC hw _) .nil) (hG _)
/-- THE CONTRACT OF THE SPECIFICATION's Is. -/
theorem is_calls {m : Int} {w : World} (hG : GlobU m w) {op a b c d k i : Int} (ho : inI64 op) (ha : inI64 a) (hb : inI64 b) (hc : inI64 c) (hd : inI64 d) (hk : inI64 k) (hi : inU32 i) :
    Calls Tryz.prog 56 #[insnV op a b c d k i] w fun e w' => e = .returned (.bool (validB op a b c d k i)) ∧ Below w.heap.size w w' := by
  unfold inI64 at ho
  have un : ∀ {lo hi : Int}, uptoB (fun j => match noJ j with | true => true | false => isRun m (lo, hi) j) 13 = true → ∀ j, j < 13 → noJ j = false → isRun m (lo, hi) j = true := fun h j hj hn => by
    have := @uptoB_true (Unk.mk (nthI [])) _ _ h j hj
    rw [hn] at this; exact this
  by_cases h1 : op ≤ 0
  · exact is_none hG (is_ev3 m) (by show (-36893488147419103232 : Int) ≤ op; omega) h1 (by simp [isOpB]; omega) ha hb hc hd hk hi
  by_cases h2 : op ≤ 61
  · exact is_op hG (un (is_ev1 m)) (by show (1 : Int) ≤ op; omega) h2 (by simp [isOpB]; omega) ha hb hc hd hk hi
  by_cases h3 : op ≤ 63
  · exact is_none hG (is_ev4 m) (by show (62 : Int) ≤ op; omega) h3 (by simp [isOpB]; omega) ha hb hc hd hk hi
  by_cases h4 : op ≤ 72
  · exact is_op hG (un (is_ev2 m)) (by show (64 : Int) ≤ op; omega) h4 (by simp [isOpB]; omega) ha hb hc hd hk hi
  · exact is_none hG (is_ev5 m) (by show (73 : Int) ≤ op; omega) (by show op ≤ (36893488147419103232 : Int); omega) (by simp [isOpB]; omega) ha hb hc hd hk hi
end Go.Ev

