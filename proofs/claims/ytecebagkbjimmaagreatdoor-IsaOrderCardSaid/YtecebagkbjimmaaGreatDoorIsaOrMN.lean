import Derived.Test.YtecebagkbjimmaaGreatDoorIsaRkTV
set_option linter.unusedSectionVars false
set_option linter.unusedVariables false
set_option linter.unusedSimpArgs false
/-
  Rank keeps the order: the mathematics.
-/
namespace Go.Ev
open Go.RowKit Go.Proofs

def sub2 : List Int → List (Int × Int) → List Int
  | x :: l, (a, _) :: r => (x - a) :: sub2 l r
  | _, _ => []
theorem dotLo_cons (c a b : Int) (l : List Int) (s : List (Int × Int)) : dotLo (c :: l) ((a, b) :: s) = c * a + dotLo l s := rfl
theorem dot_cons (c x : Int) (l xs : List Int) : dot (c :: l) (x :: xs) = c * x + dot l xs := rfl
theorem dot_sub : ∀ (cs L : List Int) (rs : List (Int × Int)), L.length = rs.length → dot cs L - dotLo cs rs = dot cs (sub2 L rs)
  | [], _, _, _ => rfl
  | _ :: _, [], [], _ => rfl
  | _ :: _, [], _ :: _, h => by simp at h
  | _ :: _, _ :: _, [], h => by simp at h
  | c :: cs, x :: L, (a, b) :: rs, h => by
    have ih := dot_sub cs L rs (by simpa using h)
    rw [dot_cons, dotLo_cons]
    show c * x + dot cs L - (c * a + dotLo cs rs) = c * (x - a) + dot cs (sub2 L rs)
    rw [Int.mul_sub]
    omega
theorem ins_sub : ∀ {L : List Int} {rs : List (Int × Int)}, L.length = rs.length → Ins L rs → Ins (sub2 L rs) (digB rs)
  | [], [], _, _ => trivial
  | [], _ :: _, h, _ => by simp at h
  | _ :: _, [], h, _ => by simp at h
  | x :: L, (a, b) :: rs, h, hi => by
    obtain ⟨⟨h1, h2⟩, h3⟩ := hi
    have h1 : a ≤ x := h1
    have h2 : x ≤ b := h2
    refine ⟨⟨?_, ?_⟩, ins_sub (by simpa using h) h3⟩
    · show 0 ≤ x - a; omega
    · show x - a ≤ b - a; omega
theorem sub_length : ∀ {L : List Int} {rs : List (Int × Int)}, L.length = rs.length → (sub2 L rs).length = rs.length
  | [], [], _ => rfl
  | [], _ :: _, h => by simp at h
  | _ :: _, [], h => by simp at h
  | x :: L, (a, b) :: rs, h => by
    show (sub2 L rs).length + 1 = rs.length + 1
    rw [sub_length (by simpa using h)]
theorem coefs_cons (x : Int) (l : List Int) : coefs (x :: l) = prodI l :: coefs l := rfl
theorem dot_bound : ∀ {rs : List (Int × Int)} {D : List Int}, (∀ p, p ∈ rs → p.1 ≤ p.2) → D.length = rs.length → Ins D (digB rs) → 0 ≤ dot (coefs (sizes rs)) D ∧ dot (coefs (sizes rs)) D < prodI (sizes rs)
  | [], [], _, _, _ => ⟨by decide, by decide⟩
  | [], _ :: _, _, h, _ => by simp at h
  | _ :: _, [], _, h, _ => by simp at h
  | (a, b) :: rs, d :: D, hle, hl, hi => by
    obtain ⟨⟨h1, h2⟩, h3⟩ := hi
    have h1 : 0 ≤ d := h1
    have h2 : d ≤ b - a := h2
    have ih := dot_bound (fun p hp => hle p (List.mem_cons_of_mem _ hp)) (by simpa using hl) h3
    have hp := prodI_pos (sizes_pos (fun p hp => hle p (List.mem_cons_of_mem _ hp)) (r := rs))
    rw [sizes_cons, coefs_cons, dot_cons, prodI_cons]
    have e1 := Int.mul_nonneg (show 0 ≤ prodI (sizes rs) by omega) h1
    have e2 := Int.mul_le_mul_of_nonneg_left h2 (show 0 ≤ prodI (sizes rs) by omega)
    rw [Int.add_mul, Int.one_mul, Int.mul_comm (b - a)]
    omega
def lexLt : List Int → List Int → Prop
  | x :: l, y :: m => x < y ∨ (x = y ∧ lexLt l m)
  | _, _ => False
theorem lex_dot : ∀ {rs : List (Int × Int)} {D D' : List Int}, (∀ p, p ∈ rs → p.1 ≤ p.2) → D.length = rs.length → D'.length = rs.length → Ins D (digB rs) → Ins D' (digB rs) → lexLt D D' → dot (coefs (sizes rs)) D < dot (coefs (sizes rs)) D'
  | [], [], _, _, _, _, _, _, h => h.elim
  | [], _ :: _, _, _, h, _, _, _, _ => by simp at h
  | _ :: _, [], _, _, h, _, _, _, _ => by simp at h
  | _ :: _, _ :: _, [], _, _, h, _, _, _ => by simp at h
  | (a, b) :: rs, d :: D, d' :: D', hle, hl, hl', hi, hi', h => by
    have hle' : ∀ p, p ∈ rs → p.1 ≤ p.2 := fun p hp => hle p (List.mem_cons_of_mem _ hp)
    have b1 := dot_bound hle' (by simpa using hl) hi.2
    have b2 := dot_bound hle' (by simpa using hl') hi'.2
    rw [sizes_cons, coefs_cons, dot_cons, dot_cons]
    rcases h with h | ⟨rfl, h⟩
    · have e := Int.mul_le_mul_of_nonneg_left (show d + 1 ≤ d' by omega) (show 0 ≤ prodI (sizes rs) by omega)
      rw [Int.mul_add, Int.mul_one] at e
      omega
    · have := lex_dot hle' (by simpa using hl) (by simpa using hl') hi.2 hi'.2 h
      omega
theorem lex_sub : ∀ {L L' : List Int} {rs : List (Int × Int)}, L.length = rs.length → L'.length = rs.length → lexLt L L' → lexLt (sub2 L rs) (sub2 L' rs)
  | [], _, _, _, _, h => by cases ‹List Int› <;> exact h.elim
  | _ :: _, [], _, _, _, h => h.elim
  | _ :: _, _ :: _, [], h, _, _ => by simp at h
  | x :: L, y :: L', (a, b) :: rs, hl, hl', h => by
    rcases h with h | ⟨rfl, h⟩
    · exact .inl (by omega)
    · exact .inr ⟨rfl, lex_sub (by simpa using hl) (by simpa using hl') h⟩
/-- The operations' numbers rise. -/
theorem many_pos {op : Nat} (h : op < 73) : 1 ≤ many op := prodI_pos (sizes_pos (spans_le h))
theorem start_step {op : Nat} (h : op < 73) : start op ≤ start (op + 1) := by
  have hs := @uptoB_true (Unk.mk (nthI [])) _ _ steps_ok op h
  unfold stepOK at hs
  split at hs
  · rw [ibeq_eq] at hs
    have hs : (start (op + 1) : Int) = start op + many op := of_decide_eq_true hs
    have := many_pos h
    omega
  · have := Nat.eq_of_beq_eq_true hs
    omega
theorem start_mono {k l : Nat} (h : k ≤ l) (hl : l ≤ 73) : start k ≤ start l := by
  induction l with
  | zero => obtain rfl : k = 0 := by omega
            exact Nat.le_refl _
  | succ l ih =>
    by_cases he : k = l + 1
    · subst he; exact Nat.le_refl _
    · exact Nat.le_trans (ih (by omega) (by omega)) (start_step (by omega))
theorem start_next {op : Nat} (h : op < 73) (ho : opN op = true) : (start (op + 1) : Int) = start op + many op := by
  have hs := @uptoB_true (Unk.mk (nthI [])) _ _ steps_ok op h
  unfold stepOK at hs
  rw [ho] at hs
  have hs : ibeq (.ofNat (start (op + 1))) (Int.add (.ofNat (start op)) (many op)) = true := hs
  rw [ibeq_eq] at hs
  exact of_decide_eq_true hs
theorem rt_len {op : Nat} (h : op < 73) : (rt op).length = 6 := by
  obtain ⟨a4, b0, b1, b2, b3, b4, b5, hr, _⟩ := spans_of h
  rw [hr]; rfl
/-- A rank by digits. -/
theorem rkN_dot {op : Nat} (h : op < 73) {L : List Int} (hl : L.length = 6) (hi : Ins L (rt op)) : rkN op L = start op + dot (cf op) (sub2 L (rt op)) := by
  have hr := rt_len h
  have hlen : L.length = (rt op).length := by omega
  have hd := dot_bound (spans_le h) (sub_length hlen) (ins_sub hlen hi)
  unfold rkN
  split
  · rename_i e
    rw [ibeq_eq] at e
    have e : many op = 1 := of_decide_eq_true e
    have : dot (cf op) (sub2 L (rt op)) < 1 := by rw [← e]; exact hd.2
    have : 0 ≤ dot (cf op) (sub2 L (rt op)) := hd.1
    show (start op : Int) = _
    omega
  · rw [val_dot, ← dot_sub _ _ _ hlen]
    show (start op : Int) - dotLo (cf op) (rt op) + dot (cf op) L = _
    omega
section
variable {o a b c d k i o' a' b' c' d' k' i' : Int}
theorem rkS_dot (hv : validB o a b c d k i = true) : o.toNat < 73 ∧ opN o.toNat = true ∧ (o.toNat : Int) = o ∧ rkS o a b c d k i = start o.toNat + dot (cf o.toNat) (sub2 [a, b, c, d, k, i] (rt o.toNat)) ∧
    0 ≤ dot (cf o.toNat) (sub2 [a, b, c, d, k, i] (rt o.toNat)) ∧ dot (cf o.toNat) (sub2 [a, b, c, d, k, i] (rt o.toNat)) < many o.toNat := by
  obtain ⟨hon, hlt, hoz⟩ := opN_of (isop_valid hv)
  have hi := ins_valid hv
  have hlen : [a, b, c, d, k, i].length = (rt o.toNat).length := by rw [rt_len hlt]; rfl
  have hd := dot_bound (spans_le hlt) (sub_length hlen) (ins_sub hlen hi)
  refine ⟨hlt, hon, hoz, ?_, hd.1, hd.2⟩
  unfold rkS
  rw [if_pos hv]
  exact rkN_dot hlt rfl hi
/-- Rank keeps the order. -/
theorem rank_lt (hv : validB o a b c d k i = true) (hv' : validB o' a' b' c' d' k' i' = true) (h : lexLt [o, a, b, c, d, k, i] [o', a', b', c', d', k', i']) : rkS o a b c d k i < rkS o' a' b' c' d' k' i' := by
  obtain ⟨g1, g2, g3, g4, g5, g6⟩ := rkS_dot hv
  obtain ⟨k1, k2, k3, k4, k5, k6⟩ := rkS_dot hv'
  rcases h with h | ⟨rfl, h⟩
  · have hm := start_mono (k := o.toNat + 1) (l := o'.toNat) (by omega) (by omega)
    have hn := start_next g1 g2
    omega
  · have hlen : [a, b, c, d, k, i].length = (rt o.toNat).length := by rw [rt_len g1]; rfl
    have hlen' : [a', b', c', d', k', i'].length = (rt o.toNat).length := by rw [rt_len g1]; rfl
    have := lex_dot (spans_le g1) (sub_length hlen) (sub_length hlen') (ins_sub hlen (ins_valid hv)) (ins_sub hlen' (ins_valid hv')) (lex_sub hlen hlen' h)
    have e : dot (cf o.toNat) (sub2 [a, b, c, d, k, i] (rt o.toNat)) < dot (cf o.toNat) (sub2 [a', b', c', d', k', i'] (rt o.toNat)) := this
    omega
end
end Go.Ev

namespace Go.Ev
open Go.RowKit Go.Proofs
theorem isOpB_of {op : Nat} (h : op < 73) (ho : opN op = true) : isOpB (op : Int) = true := by
  have key : uptoB (fun n => match opN n with | false => true | true => isOpB (.ofNat n)) 73 = true := by kernel_rfl
  have := @uptoB_true (Unk.mk (nthI [])) _ _ key op h
  rw [ho] at this
  exact this
section
variable {m : Int}
/-- What Unrank answers of a number: that of the program, and that of the specification. -/
theorem unranks2 (n : Int) (hn : 0 ≤ n ∧ n ≤ 18446744073709551615) : ∃ o a b c d k i er, (inI64 o ∧ inI64 a ∧ inI64 b ∧ inI64 c ∧ inI64 d ∧ inI64 k ∧ inU32 i) ∧ (er = if n < 73882029336998 then 0 else 1) ∧ (n < 73882029336998 → validB o a b c d k i = true ∧ rkS o a b c d k i = n) ∧
    ∀ (m : Int) (w : World), GlobU m w → (Calls Tryz.prog 41 #[.int .u64 n] w fun e w' => e = .returned (.tuple #[insnV o a b c d k i, .int .i64 er]) ∧ Below w.heap.size w w') ∧
      (Calls Tryz.prog 42 #[.int .u64 n] w fun e w' => e = .returned (.tuple #[insnV o a b c d k i, .int .i64 er]) ∧ Below w.heap.size w w') := by
  by_cases hlt : n < 73882029336998
  · obtain ⟨op, h1, h2, h3, h4⟩ := find_op (n := n.toNat) (by omega)
    have hz : (n.toNat : Int) = n := by omega
    rw [hz] at h4
    obtain ⟨a4, b0, b1, b2, b3, b4, b5, hr, k1, k2, g0, g1, g2, g3, g4, g5⟩ := spans_of h1
    have hle := spans_le h1
    have hd0 : 0 ≤ n - start op := by omega
    have hins := digits_ins hle hd0 h4
    have hdot := digits_dot (sizes_pos hle) hd0 h4
    obtain ⟨d0, d1, d2, d3, d4, d5, hD⟩ : ∃ d0 d1 d2 d3 d4 d5, digits (sizes (rt op)) (n - start op) = [d0, d1, d2, d3, d4, d5] := by rw [hr]; exact ⟨_, _, _, _, _, _, rfl⟩
    rw [hD] at hins hdot
    have hins' := hins
    rw [hr] at hins'
    obtain ⟨i0, i1, i2, i3, i4, i5, _⟩ := hins'
    have i0 : 0 ≤ d0 ∧ d0 ≤ b0 - 0 := i0
    have i1 : 0 ≤ d1 ∧ d1 ≤ b1 - 0 := i1
    have i2 : 0 ≤ d2 ∧ d2 ≤ b2 - 0 := i2
    have i3 : 0 ≤ d3 ∧ d3 ≤ b3 - 0 := i3
    have i4 : 0 ≤ d4 ∧ d4 ≤ b4 - a4 := i4
    have i5 : 0 ≤ d5 ∧ d5 ≤ b5 - 0 := i5
    have hvz : validB op (0 + d0) (0 + d1) (0 + d2) (0 + d3) (a4 + d4) (0 + d5) = true := (valid_iff (isOpB_of h1 h2) (by rw [Int.toNat_natCast]; exact hr)).2 (by omega)
    refine ⟨op, 0 + d0, 0 + d1, 0 + d2, 0 + d3, a4 + d4, 0 + d5, 0, ?_, by rw [if_pos hlt], fun _ => ⟨hvz, ?_⟩, fun m w hG => ?_⟩
    · unfold inI64 inU32; omega
    · obtain ⟨_, _, _, r4, _, _⟩ := rkS_dot hvz
      rw [r4, Int.toNat_natCast]
      have e : sub2 [0 + d0, 0 + d1, 0 + d2, 0 + d3, a4 + d4, 0 + d5] (rt op) = [d0, d1, d2, d3, d4, d5] := by
        rw [hr]
        show [0 + d0 - 0, 0 + d1 - 0, 0 + d2 - 0, 0 + d3 - 0, a4 + d4 - a4, 0 + d5 - 0] = _
        congr 1 <;> (try congr 1) <;> (try congr 1) <;> (try congr 1) <;> (try congr 1) <;> (try congr 1) <;> omega
      rw [e]
      have : dot (cf op) [d0, d1, d2, d3, d4, d5] = n - start op := hdot
      omega
    · letI : Unk := Unk.mk (nthI [d0, d1, d2, d3, d4, d5])
      have vn : VR (fun _ => none) (nForm op) (.int .u64 n) := .lin _ _ _ _ _ (by
        show n = (start op : Int) + Lin.val (nthI [d0, d1, d2, d3, d4, d5]) (cf op) 0
        rw [val_dot]
        have : dot (cf op) [d0, d1, d2, d3, d4, d5] = n - start op := hdot
        omega) (within_unkL hins)
      have hden : DenL [outAV op, .int .i64 (.ofNat 0)] [insnV op (0 + d0) (0 + d1) (0 + d2) (0 + d3) (a4 + d4) (0 + d5), .int .i64 0] := by
        refine ⟨⟨_, rfl, rfl, ?_, ?_, ?_, ?_, ?_, ?_, trivial⟩, rfl, trivial⟩
        · show Den1 (fldAt .i64 op 0) _
          unfold fldAt; rw [hr]; exact fld_den (L := [d0, d1, d2, d3, d4, d5]) (i := 0) i0
        · show Den1 (fldAt .i64 op 1) _
          unfold fldAt; rw [hr]; exact fld_den (L := [d0, d1, d2, d3, d4, d5]) (i := 1) i1
        · show Den1 (fldAt .i64 op 2) _
          unfold fldAt; rw [hr]; exact fld_den (L := [d0, d1, d2, d3, d4, d5]) (i := 2) i2
        · show Den1 (fldAt .i64 op 3) _
          unfold fldAt; rw [hr]; exact fld_den (L := [d0, d1, d2, d3, d4, d5]) (i := 3) i3
        · show Den1 (fldAt .i64 op 4) _
          unfold fldAt; rw [hr]; exact fld_den (L := [d0, d1, d2, d3, d4, d5]) (i := 4) i4
        · show Den1 (fldAt .u32 op 5) _
          unfold fldAt; rw [hr]; exact fld_den (L := [d0, d1, d2, d3, d4, d5]) (i := 5) i5
      have e1 := unrank_all m h1
      have e2 := runrank_all m h1
      unfold unRun at e1
      unfold uqRun at e2
      rw [h2] at e1 e2
      exact ⟨pair_of_eval orcU_snd e1 (.cons _ _ _ _ vn .nil) hden (hG _), pair_of_eval (orcSound_given fun f oc hf => given_Z hf) e2 (.cons _ _ _ _ vn .nil) hden (hG _)⟩
  · refine ⟨0, 0, 0, 0, 0, 0, 0, 1, ?_, by rw [if_neg hlt], fun h => absurd h hlt, fun m w hG => ?_⟩
    · unfold inI64 inU32; omega
    · have hw : Ins [n] overB := ⟨⟨by show (73882029336998 : Int) ≤ n; omega, hn.2⟩, trivial⟩
      letI : Unk := Unk.mk (nthI [n])
      have hden : DenL [zeroAV, .int .i64 (.ofNat 1)] [insnV 0 0 0 0 0 0 0, .int .i64 1] := ⟨⟨_, rfl, rfl, rfl, rfl, rfl, rfl, rfl, rfl, trivial⟩, rfl, trivial⟩
      exact ⟨pair_of_eval orcU_snd (unrank_over m) (.cons _ _ _ _ (vr_lf hw _ rfl _) .nil) hden (hG _), pair_of_eval (orcSound_given fun f oc hf => given_Z hf) (runrank_over m) (.cons _ _ _ _ (vr_lf hw _ rfl _) .nil) hden (hG _)⟩
end
/-! ### The first difference -/
theorem first_diff (f g : Nat → Int) : ∀ n, (∀ s, s < n → f s = g s) ∨ ∃ t, t < n ∧ (∀ s, s < t → f s = g s) ∧ f t ≠ g t
  | 0 => .inl fun s h => by omega
  | n + 1 => by
    rcases first_diff f g n with h | ⟨t, h1, h2⟩
    · by_cases he : f n = g n
      · exact .inl fun s hs => by
          by_cases hsn : s = n
          · subst hsn; exact he
          · exact h s (by omega)
      · exact .inr ⟨n, by omega, h, he⟩
    · exact .inr ⟨t, by omega, h2⟩
theorem lex_of : ∀ {l m : List Int} {t : Nat}, t < l.length → t < m.length → (∀ s, s < t → nthI l s = nthI m s) → nthI l t < nthI m t → lexLt l m
  | [], _, _, h, _, _, _ => by simp at h
  | _ :: _, [], _, _, h, _, _ => by simp at h
  | x :: l, y :: m, 0, _, _, _, h => .inl h
  | x :: l, y :: m, t + 1, h1, h2, he, h => .inr ⟨he 0 (by omega), lex_of (by simpa using h1) (by simpa using h2) (fun s hs => he (s + 1) (by omega)) h⟩
end Go.Ev

