import Derived.Below
set_option linter.unusedSectionVars false
set_option linter.unusedVariables false
set_option linter.unusedSimpArgs false
set_option linter.unnecessarySimpa false
namespace Go.Ev.Lin
def val (s : Nat → Int) : List Int → Nat → Int
  | [], _ => 0
  | c :: l, i => c * s i + val s l (i + 1)
def add : List Int → List Int → List Int
  | [], b => b
  | a :: x, [] => a :: x
  | a :: x, b :: y => (a + b) :: add x y
def smul (m : Int) : List Int → List Int
  | [] => []
  | c :: l => (m * c) :: smul m l
theorem val_add (s : Nat → Int) : ∀ (a b : List Int) (i : Nat), val s (add a b) i = val s a i + val s b i
  | [], b, i => by simp [add, val]
  | a :: x, [], i => by simp [add, val]
  | a :: x, b :: y, i => by
    simp only [add, val]
    rw [val_add s x y, Int.add_mul]
    omega
theorem val_smul (s : Nat → Int) (m : Int) : ∀ (l : List Int) (i : Nat), val s (smul m l) i = m * val s l i
  | [], i => by simp [smul, val]
  | c :: l, i => by
    simp only [smul, val]
    rw [val_smul s m l, Int.mul_add, Int.mul_assoc]
def Within (s : Nat → Int) : List (Int × Int) → Nat → Prop
  | [], _ => True
  | b :: l, i => (b.1 ≤ s i ∧ s i ≤ b.2) ∧ Within s l (i + 1)
def span : List Int → List (Int × Int) → Option (Int × Int)
  | [], _ => some (0, 0)
  | _ :: _, [] => none
  | c :: l, (lo, hi) :: bs => match span l bs with
    | none => none
    | some (a, b) => match c with
      | .ofNat n => some (Int.ofNat n * lo + a, Int.ofNat n * hi + b)
      | .negSucc n => some (Int.negSucc n * hi + a, Int.negSucc n * lo + b)
theorem span_true {s : Nat → Int} : ∀ {l : List Int} {bs : List (Int × Int)} {a b : Int} {i : Nat}, span l bs = some (a, b) → Within s bs i → a ≤ val s l i ∧ val s l i ≤ b
  | [], _, a, b, i, h, _ => by
    unfold span at h
    cases h
    exact ⟨Int.le_refl _, Int.le_refl _⟩
  | _ :: _, [], _, _, _, h, _ => by unfold span at h; cases h
  | c :: l, (lo, hi) :: bs, a, b, i, h, hw => by
    unfold span at h
    obtain ⟨⟨h1, h2⟩, hw⟩ := hw
    simp only at h1 h2
    split at h
    · cases h
    · rename_i a' b' hs
      obtain ⟨k1, k2⟩ := span_true hs hw
      simp only [val]
      split at h
      · rename_i n
        cases h
        have e1 := Int.mul_le_mul_of_nonneg_left h1 (Int.natCast_nonneg n)
        have e2 := Int.mul_le_mul_of_nonneg_left h2 (Int.natCast_nonneg n)
        have hn : Int.ofNat n = (n : Int) := rfl
        rw [hn]
        omega
      · rename_i n
        cases h
        have hn : Int.negSucc n ≤ 0 := Int.le_of_lt (Int.negSucc_lt_zero n)
        have e1 := Int.mul_le_mul_of_nonpos_left hn h1
        have e2 := Int.mul_le_mul_of_nonpos_left hn h2
        omega
def quo (m : Int) : List Int → List Int
  | [] => []
  | c :: l => (if c % m = 0 then c / m else 0) :: quo m l
def rest (m : Int) : List Int → List Int
  | [] => []
  | c :: l => (if c % m = 0 then 0 else c) :: rest m l
theorem val_parts (s : Nat → Int) (m : Int) : ∀ (l : List Int) (i : Nat), val s l i = m * val s (quo m l) i + val s (rest m l) i
  | [], i => by simp [quo, rest, val]
  | c :: l, i => by
    simp only [quo, rest, val]
    rw [val_parts s m l (i + 1)]
    by_cases h : c % m = 0
    · simp only [h, if_true]
      have : m * (c / m) = c := Int.mul_ediv_cancel' (Int.dvd_of_emod_eq_zero h)
      rw [Int.mul_add, ← Int.mul_assoc, this]
      omega
    · simp only [h, if_false]
      rw [Int.mul_add]
      omega
theorem by_true {s : Nat → Int} {m c0 : Int} {l : List Int} {bs : List (Int × Int)} {a b : Int} {i : Nat} (h : span (rest m l) bs = some (a, b)) (hw : Within s bs i) (h0 : 0 ≤ c0 % m + a) (h1 : c0 % m + b < m) :
    (c0 + val s l i) % m = c0 % m + val s (rest m l) i ∧ (c0 + val s l i) / m = c0 / m + val s (quo m l) i := by
  obtain ⟨k1, k2⟩ := span_true (i := i) h hw
  have hm : 0 < m := by omega
  have e : c0 + val s l i = (c0 % m + val s (rest m l) i) + m * (c0 / m + val s (quo m l) i) := by
    rw [val_parts s m l i, Int.mul_add]
    have := Int.mul_ediv_add_emod c0 m
    omega
  have hlo : 0 ≤ c0 % m + val s (rest m l) i := by omega
  have hhi : c0 % m + val s (rest m l) i < m := by omega
  rw [e]
  refine ⟨?_, ?_⟩
  · rw [Int.add_mul_emod_self_left, Int.emod_eq_of_lt hlo hhi]
  · rw [Int.add_mul_ediv_left _ _ (Int.ne_of_gt hm), Int.ediv_eq_zero_of_lt hlo hhi]
    omega
theorem wrap_shift (k : IntKind) (n q : Int) (h1 : k.min ≤ n - q * 2 ^ k.bits) (h2 : n - q * 2 ^ k.bits ≤ k.max) : k.wrap n = n - q * 2 ^ k.bits := by
  cases k <;> simp [IntKind.wrap, IntKind.bits, IntKind.signed, IntKind.min, IntKind.max] at * <;> omega
def kmin : IntKind → Int
  | .i8 => .negSucc 127 | .i16 => .negSucc 32767 | .i32 => .negSucc 2147483647 | .i64 => .negSucc 9223372036854775807 | .u8 => .ofNat 0 | .u16 => .ofNat 0 | .u32 => .ofNat 0 | .u64 => .ofNat 0
def kmax : IntKind → Int
  | .i8 => .ofNat 127 | .i16 => .ofNat 32767 | .i32 => .ofNat 2147483647 | .i64 => .ofNat 9223372036854775807 | .u8 => .ofNat 255 | .u16 => .ofNat 65535 | .u32 => .ofNat 4294967295 | .u64 => .ofNat 18446744073709551615
def kpow : IntKind → Int
  | .i8 => .ofNat 256 | .i16 => .ofNat 65536 | .i32 => .ofNat 4294967296 | .i64 => .ofNat 18446744073709551616 | .u8 => .ofNat 256 | .u16 => .ofNat 65536 | .u32 => .ofNat 4294967296 | .u64 => .ofNat 18446744073709551616
theorem kmin_eq (k : IntKind) : kmin k = k.min := by cases k <;> decide
theorem kmax_eq (k : IntKind) : kmax k = k.max := by cases k <;> decide
theorem kpow_eq (k : IntKind) : kpow k = 2 ^ k.bits := by cases k <;> decide
def norm (k : IntKind) (c0 : Int) (l : List Int) (bs : List (Int × Int)) : Option Int :=
  match span l bs with
  | none => none
  | some (a, b) => match (c0 + a - kmin k) / kpow k with
    | q => match decide (kmin k ≤ c0 + a - q * kpow k), decide (c0 + b - q * kpow k ≤ kmax k) with
      | true, true => some (c0 - q * kpow k)
      | _, _ => none
theorem norm_true {s : Nat → Int} {k : IntKind} {c0 c1 : Int} {l : List Int} {bs : List (Int × Int)} {i : Nat} (h : norm k c0 l bs = some c1) (hw : Within s bs i) : k.wrap (c0 + val s l i) = c1 + val s l i := by
  unfold norm at h
  rw [kmin_eq, kmax_eq, kpow_eq] at h
  split at h
  · cases h
  · rename_i a b hs
    obtain ⟨k1, k2⟩ := span_true (i := i) hs hw
    simp only at h
    split at h
    · rename_i e1 e2
      have e1 := of_decide_eq_true e1
      have e2 := of_decide_eq_true e2
      cases h
      generalize (c0 + a - k.min) / 2 ^ k.bits = q at *
      rw [wrap_shift k (c0 + val s l i) q (by omega) (by omega)]
      omega
    · cases h
def sub (a b : List Int) : List Int := add a (smul (Int.negSucc 0) b)
theorem val_sub (s : Nat → Int) (a b : List Int) (i : Nat) : val s (sub a b) i = val s a i - val s b i := by
  unfold sub
  rw [val_add, val_smul, Int.negSucc_eq]
  omega
theorem diff_true {s : Nat → Int} {c0 c1 a b : Int} {l l1 : List Int} {bs : List (Int × Int)} {i : Nat} (h : span (sub l l1) bs = some (a, b)) (hw : Within s bs i) :
    c0 - c1 + a ≤ (c0 + val s l i) - (c1 + val s l1 i) ∧ (c0 + val s l i) - (c1 + val s l1 i) ≤ c0 - c1 + b := by
  obtain ⟨k1, k2⟩ := span_true (i := i) h hw
  rw [val_sub] at k1 k2
  omega
theorem or_apart {x y k : Nat} (hx : x < 2 ^ k) (hy : y % 2 ^ k = 0) : x ||| y = x + y := by
  obtain ⟨z, rfl⟩ : ∃ z, y = 2 ^ k * z := ⟨y / 2 ^ k, by have := Nat.div_add_mod y (2 ^ k); omega⟩
  rw [Nat.or_comm, ← Nat.two_pow_add_eq_or_of_lt hx z]
  omega
def wrapF (k : IntKind) (c0 : Int) (l : List Int) (bs : List (Int × Int)) : Option (Int × List Int) :=
  match norm k c0 l bs with
  | some c => some (c, l)
  | none => match norm k (c0 % kpow k) (rest (kpow k) l) bs with
    | some c => some (c, rest (kpow k) l)
    | none => none
theorem wrap_add_mul (k : IntKind) (n q : Int) : k.wrap (n + kpow k * q) = k.wrap n := by
  unfold IntKind.wrap
  rw [kpow_eq, Int.add_mul_emod_self_left]
theorem wrapF_true {s : Nat → Int} {k : IntKind} {c0 : Int} {l : List Int} {bs : List (Int × Int)} {p : Int × List Int} {i : Nat} (h : wrapF k c0 l bs = some p) (hw : Within s bs i) : k.wrap (c0 + val s l i) = p.1 + val s p.2 i := by
  unfold wrapF at h
  split at h
  · rename_i c hc
    cases h
    exact norm_true hc hw
  · split at h
    · rename_i c hc
      cases h
      rw [← norm_true hc hw]
      have e : c0 + val s l i = (c0 % kpow k + val s (rest (kpow k) l) i) + kpow k * (c0 / kpow k + val s (quo (kpow k) l) i) := by
        have h1 := val_parts s (kpow k) l i
        have h2 := Int.mul_ediv_add_emod c0 (kpow k)
        rw [Int.mul_add]
        omega
      rw [e, wrap_add_mul]
    · cases h
def divF (m c0 : Int) (l : List Int) (bs : List (Int × Int)) : Bool :=
  match span l bs with
  | none => false
  | some (a, _) => match span (rest m l) bs with
    | none => false
    | some (a', b') => decide (0 < m) && decide (0 ≤ c0 + a) && decide (0 ≤ c0 % m + a') && decide (c0 % m + b' < m)
theorem divF_true {s : Nat → Int} {m c0 : Int} {l : List Int} {bs : List (Int × Int)} {i : Nat} (h : divF m c0 l bs = true) (hw : Within s bs i) :
    0 < m ∧ 0 ≤ c0 + val s l i ∧ (c0 + val s l i) % m = c0 % m + val s (rest m l) i ∧ (c0 + val s l i) / m = c0 / m + val s (quo m l) i := by
  unfold divF at h
  split at h
  · cases h
  · rename_i a b hs
    split at h
    · cases h
    · rename_i a' b' hs'
      simp only [Bool.and_eq_true, decide_eq_true_eq] at h
      obtain ⟨⟨⟨h1, h2⟩, h3⟩, h4⟩ := h
      have := by_true hs' hw h3 h4
      have hsp := span_true (i := i) hs hw
      exact ⟨h1, by omega, this.1, this.2⟩
def modF (m c0 : Int) (l : List Int) (bs : List (Int × Int)) : Bool :=
  match span (rest m l) bs with
  | none => false
  | some (a', b') => decide (0 < m) && decide (0 ≤ c0 % m + a') && decide (c0 % m + b' < m)
theorem modF_true {s : Nat → Int} {m c0 : Int} {l : List Int} {bs : List (Int × Int)} {i : Nat} (h : modF m c0 l bs = true) (hw : Within s bs i) :
    0 < m ∧ (c0 + val s l i) % m = c0 % m + val s (rest m l) i ∧ (c0 + val s l i) / m = c0 / m + val s (quo m l) i := by
  unfold modF at h
  split at h
  · cases h
  · rename_i a' b' hs'
    simp only [Bool.and_eq_true, decide_eq_true_eq] at h
    obtain ⟨⟨h1, h3⟩, h4⟩ := h
    have := by_true hs' hw h3 h4
    exact ⟨h1, this.1, this.2⟩
def allZ : List Int → Bool
  | [] => true
  | c :: l => match c with
    | .ofNat n => match n with | 0 => allZ l | _ + 1 => false
    | .negSucc _ => false
theorem allZ_val {s : Nat → Int} : ∀ {l : List Int} {i : Nat}, allZ l = true → val s l i = 0
  | [], _, _ => rfl
  | c :: l, i, h => by
    unfold allZ at h
    split at h
    · rename_i n
      split at h
      · simp only [val]
        rw [allZ_val h]; simp
      · cases h
    · cases h
def orF (k : Nat) (c0 : Int) (l : List Int) (c1 : Int) (l1 : List Int) (bs : List (Int × Int)) : Bool :=
  match span l bs with
  | none => false
  | some (a, b) => match span l1 bs with
    | none => false
    | some (a1, _) => decide (0 ≤ c0 + a) && decide (c0 + b < 2 ^ k) && decide (0 ≤ c1 + a1) && decide (c1 % 2 ^ k = 0) && allZ (rest (2 ^ k) l1)
theorem orF_true {s : Nat → Int} {k : Nat} {c0 c1 : Int} {l l1 : List Int} {bs : List (Int × Int)} {i : Nat} (h : orF k c0 l c1 l1 bs = true) (hw : Within s bs i) :
    ∃ x y : Nat, (x : Int) = c0 + val s l i ∧ (y : Int) = c1 + val s l1 i ∧ ((x ||| y : Nat) : Int) = (c0 + c1) + val s (add l l1) i := by
  unfold orF at h
  split at h
  · cases h
  · rename_i a b hs
    split at h
    · cases h
    · rename_i a1 b1 hs1
      simp only [Bool.and_eq_true, decide_eq_true_eq] at h
      obtain ⟨⟨⟨⟨h1, h2⟩, h3⟩, h4⟩, h5⟩ := h
      obtain ⟨k1, k2⟩ := span_true (i := i) hs hw
      obtain ⟨k3, _⟩ := span_true (i := i) hs1 hw
      obtain ⟨x, hx⟩ : ∃ x : Nat, (x : Int) = c0 + val s l i := ⟨(c0 + val s l i).toNat, by omega⟩
      obtain ⟨y, hy⟩ : ∃ y : Nat, (y : Int) = c1 + val s l1 i := ⟨(c1 + val s l1 i).toNat, by omega⟩
      have hp : ((2 ^ k : Nat) : Int) = 2 ^ k := by simp
      have hxl : x < 2 ^ k := by have : (x : Int) < 2 ^ k := by omega
                                 rw [← hp] at this; omega
      have hym : y % 2 ^ k = 0 := by
        have e1 := val_parts s (2 ^ k) l1 i
        rw [allZ_val h5] at e1
        have e2 := Int.mul_ediv_add_emod c1 (2 ^ k)
        have : (y : Int) = 2 ^ k * (c1 / 2 ^ k + val s (quo (2 ^ k) l1) i) := by rw [hy, Int.mul_add]; omega
        have hz : (y : Int) % 2 ^ k = 0 := by rw [this]; simp
        rw [← hp] at hz
        omega
      refine ⟨x, y, hx, hy, ?_⟩
      rw [or_apart hxl hym, val_add]
      omega
def isPow (m : Int) : Bool := match m with
  | .ofNat n => Nat.beq (2 ^ Nat.log2 n) n
  | .negSucc _ => false
theorem isPow_true {m : Int} (h : isPow m = true) : ∃ k : Nat, m = ((2 ^ k : Nat) : Int) := by
  unfold isPow at h
  split at h
  · rename_i n
    exact ⟨Nat.log2 n, by rw [Nat.eq_of_beq_eq_true h]; rfl⟩
  · cases h
inductive Cmp where
  | lt | le | eq | ne
def Cmp.of : Cmp → Int → Int → Bool
  | .lt, a, b => decide (a < b)
  | .le, a, b => decide (a ≤ b)
  | .eq, a, b => decide (a = b)
  | .ne, a, b => decide (a ≠ b)
def cmpF (c : Cmp) (c0 : Int) (l : List Int) (c1 : Int) (l1 : List Int) (bs : List (Int × Int)) : Option Bool :=
  match span (sub l l1) bs with
  | none => none
  | some (a, b) => match c with
    | .lt => match decide (c0 - c1 + b < 0) with | true => some true | false => match decide (0 ≤ c0 - c1 + a) with | true => some false | false => none
    | .le => match decide (c0 - c1 + b ≤ 0) with | true => some true | false => match decide (0 < c0 - c1 + a) with | true => some false | false => none
    | .eq => match decide (c0 - c1 + b < 0) with
      | true => some false
      | false => match decide (0 < c0 - c1 + a) with
        | true => some false
        | false => match decide (c0 - c1 + a = 0), decide (c0 - c1 + b = 0) with | true, true => some true | _, _ => none
    | .ne => match decide (c0 - c1 + b < 0) with
      | true => some true
      | false => match decide (0 < c0 - c1 + a) with
        | true => some true
        | false => match decide (c0 - c1 + a = 0), decide (c0 - c1 + b = 0) with | true, true => some false | _, _ => none
theorem cmpF_true {s : Nat → Int} {c : Cmp} {c0 c1 : Int} {l l1 : List Int} {bs : List (Int × Int)} {r : Bool} {i : Nat} (h : cmpF c c0 l c1 l1 bs = some r) (hw : Within s bs i) :
    c.of (c0 + val s l i) (c1 + val s l1 i) = r := by
  unfold cmpF at h
  split at h
  · cases h
  · rename_i a b hs
    obtain ⟨k1, k2⟩ := diff_true (c0 := c0) (c1 := c1) (i := i) hs hw
    split at h
    · split at h
      · rename_i e; have e := of_decide_eq_true e; cases h; simp [Cmp.of]; omega
      · split at h
        · rename_i e; have e := of_decide_eq_true e; cases h; simp [Cmp.of]; omega
        · cases h
    · split at h
      · rename_i e; have e := of_decide_eq_true e; cases h; simp [Cmp.of]; omega
      · split at h
        · rename_i e; have e := of_decide_eq_true e; cases h; simp [Cmp.of]; omega
        · cases h
    · split at h
      · rename_i e; have e := of_decide_eq_true e; cases h; simp [Cmp.of]; omega
      · split at h
        · rename_i e; have e := of_decide_eq_true e; cases h; simp [Cmp.of]; omega
        · split at h
          · rename_i e1 e2; have e1 := of_decide_eq_true e1; have e2 := of_decide_eq_true e2; cases h; simp [Cmp.of]; omega
          · cases h
    · split at h
      · rename_i e; have e := of_decide_eq_true e; cases h; simp [Cmp.of]; omega
      · split at h
        · rename_i e; have e := of_decide_eq_true e; cases h; simp [Cmp.of]; omega
        · split at h
          · rename_i e1 e2; have e1 := of_decide_eq_true e1; have e2 := of_decide_eq_true e2; cases h; simp [Cmp.of]; omega
          · cases h
def cmpK (c : Cmp) (c0 : Int) (l : List Int) (c1 : Int) (l1 : List Int) (bs : List (Int × Int)) (k : Bool → Bool) : Bool :=
  match cmpF c c0 l c1 l1 bs with
  | some r => k r
  | none => match k true with | true => k false | false => false
theorem cmpK_true (s : Nat → Int) {c : Cmp} {c0 c1 : Int} {l l1 : List Int} {bs : List (Int × Int)} {k : Bool → Bool} (h : cmpK c c0 l c1 l1 bs k = true) :
    ∃ r, k r = true ∧ (Within s bs 0 → c.of (c0 + val s l 0) (c1 + val s l1 0) = r) := by
  unfold cmpK at h
  split at h
  · rename_i r hr
    exact ⟨r, h, fun hw => cmpF_true hr hw⟩
  · refine ⟨_, ?_, fun _ => rfl⟩
    split at h
    · rename_i ht
      cases c.of (c0 + val s l 0) (c1 + val s l1 0) <;> assumption
    · cases h
end Go.Ev.Lin

