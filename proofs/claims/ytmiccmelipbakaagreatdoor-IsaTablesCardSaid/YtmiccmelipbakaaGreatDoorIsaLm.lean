import Derived.Test.YtmiccmelipbakaaGreatDoorIsaDeM
set_option linter.unusedSectionVars false
set_option linter.unusedVariables false
set_option linter.unusedSimpArgs false
/-
  Plain facts on bytes that are read as instructions, one behind the other: where each begins, how many there are; bytes of two pieces.
-/
namespace Go.Ev
open Go.RowKit Go.Proofs
/-- An instruction: its seven numbers. -/
structure I7 where
  op : Int
  a : Int
  b : Int
  c : Int
  d : Int
  k : Int
  i : Int
def I7.v (x : I7) : Value := insnV x.op x.a x.b x.c x.d x.k x.i
def I7.cells (x : I7) : List Value := [.int .i64 x.op, .int .i64 x.a, .int .i64 x.b, .int .i64 x.c, .int .i64 x.d, .int .i64 x.k, .int .u32 x.i]
theorem I7.v_inj {x y : I7} (h : x.v = y.v) : x = y := by
  cases x; cases y
  unfold I7.v insnV at h
  simp only [Value.agg.injEq, Array.mk.injEq, List.cons.injEq, Value.int.injEq, true_and, and_true] at h
  obtain ⟨rfl, rfl, rfl, rfl, rfl, rfl, rfl⟩ := h
  rfl
def dI (q : Nat → Int) : I7 := ⟨q 0, q 1 % 16, q 1 / 16, q 2 % 16, q 2 / 16, kOf (decide (128 ≤ q 3)) (q 3), iOf (decide (64 ≤ q 0)) (q 4) (q 5) (q 6) (q 7)⟩
theorem dIn_eq (q : Nat → Int) : dIn q = (dI q).v := rfl
def shf (q : Nat → Int) (p : Nat) : Nat → Int := fun j => q (p + j)
/-- Where the k-th instruction begins. -/
def posN (q : Nat → Int) : Nat → Nat
  | 0 => 0
  | k + 1 => posN q k + dSz (shf q (posN q k))
def okAt (n : Nat) (q : Nat → Int) (k : Nat) : Bool := dOk (n - posN q k) (shf q (posN q k))
def itm (q : Nat → Int) (k : Nat) : I7 := dI (shf q (posN q k))
/-- n bytes begin with K instructions, and no more. -/
def RunK (n : Nat) (q : Nat → Int) (K : Nat) : Prop := (∀ k, k < K → okAt n q k = true) ∧ okAt n q K = false
theorem dSz_pos (q : Nat → Int) : 4 ≤ dSz q := by unfold dSz; split <;> omega
theorem dOk_len {n : Nat} {q : Nat → Int} (h : dOk n q = true) : 1 ≤ n ∧ dSz q ≤ n := by
  unfold dOk at h
  simp only [Bool.and_eq_true, decide_eq_true_eq] at h
  exact ⟨h.1, h.2.1⟩
theorem okAt_lt {n : Nat} {q : Nat → Int} {k : Nat} (h : okAt n q k = true) : posN q k < n ∧ posN q (k + 1) ≤ n := by
  obtain ⟨h1, h2⟩ := dOk_len h
  refine ⟨by omega, ?_⟩
  show posN q k + dSz (shf q (posN q k)) ≤ n
  omega
theorem pos_le {n : Nat} {q : Nat → Int} {K : Nat} (h : ∀ k, k < K → okAt n q k = true) : posN q K ≤ n := by
  cases K with
  | zero => exact Nat.zero_le _
  | succ K => exact (okAt_lt (h K (by omega))).2
theorem pos_ge (q : Nat → Int) : ∀ k, 4 * k ≤ posN q k
  | 0 => Nat.le_refl _
  | k + 1 => by
    have := pos_ge q k
    have := dSz_pos (shf q (posN q k))
    show 4 * (k + 1) ≤ posN q k + dSz (shf q (posN q k))
    omega
theorem RunK.unique {n : Nat} {q : Nat → Int} {K K' : Nat} (h : RunK n q K) (h' : RunK n q K') : K = K' := by
  rcases Nat.lt_trichotomy K K' with hl | rfl | hl
  · have := h'.1 K hl
    rw [h.2] at this; cases this
  · rfl
  · have := h.1 K' hl
    rw [h'.2] at this; cases this
/-- Whether bytes begin with an instruction, and with which, is told by as many as there are, and by no further ones. -/
theorem dOk_congr {n n' : Nat} {q q' : Nat → Int} (hb : ∀ j, InB (q j)) (hq : ∀ j, j < n → q' j = q j) (hn : n ≤ n') (h : dOk n q = true) : dOk n' q' = true ∧ dI q' = dI q ∧ dSz q' = dSz q := by
  obtain ⟨x, op, a, b, c, d, k, i, e1, e2, e3, e4, e5, e6⟩ := dec_is hb h
  obtain ⟨k1, k2, k3⟩ := dec_enc e2 e4 (n := n') (q := q') (fun j hj => (hq j (by omega)).trans (e6 j hj).symm) (by omega)
  exact ⟨k1, I7.v_inj (by rw [← dIn_eq, ← dIn_eq, k2, e1]), by rw [k3, e3]⟩
/-! ### Two pieces -/
def catN (N : Nat) (f g : Nat → Int) (j : Nat) : Int := if j < N then f j else g (j - N)
theorem shf_cat_hi (N : Nat) (f g : Nat → Int) (p : Nat) : shf (catN N f g) (N + p) = shf g p := by
  funext j
  unfold shf catN
  rw [if_neg (by omega)]
  congr 1; omega
section
variable {n n2 : Nat} {f g : Nat → Int} {K : Nat}
theorem cat_lo (hb : ∀ j, InB (f j)) (h : ∀ k, k < K → okAt n f k = true) : ∀ k, k ≤ K → posN (catN n f g) k = posN f k ∧ (k < K → okAt (n + n2) (catN n f g) k = true ∧ itm (catN n f g) k = itm f k)
  | k, hk => by
    have hp : posN (catN n f g) k = posN f k := by
      cases k with
      | zero => rfl
      | succ k =>
        obtain ⟨h1, _⟩ := cat_lo hb h k (by omega)
        have hok := h k (by omega)
        have hlt := okAt_lt hok
        have hc := (dOk_congr (q := shf f (posN f k)) (q' := shf (catN n f g) (posN f k)) (fun j => hb _) (fun j hj => by unfold shf catN; rw [if_pos (by omega)]) (Nat.le_refl _) hok).2.2
        show posN (catN n f g) k + dSz (shf (catN n f g) (posN (catN n f g) k)) = posN f k + dSz (shf f (posN f k))
        rw [h1, hc]
    refine ⟨hp, fun hlt' => ?_⟩
    have hok := h k hlt'
    have hlt := okAt_lt hok
    have hc := dOk_congr (n' := n + n2 - posN f k) (q := shf f (posN f k)) (q' := shf (catN n f g) (posN f k)) (fun j => hb _) (fun j hj => by unfold shf catN; rw [if_pos (by omega)]) (by omega) hok
    unfold okAt itm
    rw [hp]
    exact ⟨hc.1, hc.2.1⟩
theorem cat_hi (hb : ∀ j, InB (f j)) (h : ∀ k, k < K → okAt n f k = true) (he : posN f K = n) : ∀ k, posN (catN n f g) (K + k) = n + posN g k
  | 0 => by rw [Nat.add_zero, (cat_lo (n2 := 0) hb h K (Nat.le_refl _)).1, he]; rfl
  | k + 1 => by
    have ih := cat_hi hb h he k
    show posN (catN n f g) (K + k) + dSz (shf (catN n f g) (posN (catN n f g) (K + k))) = n + (posN g k + dSz (shf g (posN g k)))
    rw [ih, shf_cat_hi, Nat.add_assoc]
theorem ok_hi (hb : ∀ j, InB (f j)) (h : ∀ k, k < K → okAt n f k = true) (he : posN f K = n) (k : Nat) : okAt (n + n2) (catN n f g) (K + k) = okAt n2 g k ∧ itm (catN n f g) (K + k) = itm g k := by
  unfold okAt itm
  rw [cat_hi hb h he k, shf_cat_hi]
  exact ⟨by congr 1; omega, rfl⟩
theorem run_cat (hb : ∀ j, InB (f j)) (h : RunK n f K) (he : posN f K = n) {K2 : Nat} (h2 : RunK n2 g K2) : RunK (n + n2) (catN n f g) (K + K2) := by
  refine ⟨fun k hk => ?_, by rw [(ok_hi hb h.1 he K2).1]; exact h2.2⟩
  by_cases hlt : k < K
  · exact ((cat_lo hb h.1 k (by omega)).2 hlt).1
  · obtain ⟨j, rfl⟩ : ∃ j, k = K + j := ⟨k - K, by omega⟩
    rw [(ok_hi hb h.1 he j).1]
    exact h2.1 j (by omega)
end
/-- The first K instructions. -/
def items (q : Nat → Int) (K : Nat) : List I7 := (List.range K).map (itm q)
theorem items_len (q : Nat → Int) (K : Nat) : (items q K).length = K := by simp [items]
theorem items_succ (q : Nat → Int) (K : Nat) : items q (K + 1) = items q K ++ [itm q K] := by simp [items, List.range_succ]
theorem items_cat {n : Nat} {f g : Nat → Int} {K : Nat} (hb : ∀ j, InB (f j)) (h : ∀ k, k < K → okAt n f k = true) (he : posN f K = n) (K2 : Nat) : items (catN n f g) (K + K2) = items f K ++ items g K2 := by
  unfold items
  rw [List.range_add, List.map_append, List.map_map]
  congr 1
  · apply List.map_congr_left
    intro k hk
    have hk : k < K := List.mem_range.1 hk
    exact ((cat_lo (n2 := 0) hb h k (by omega)).2 hk).2
  · apply List.map_congr_left
    intro k _
    exact (ok_hi (n2 := 0) hb h he k).2
/-! ### The bytes of instructions -/
/-- An instruction that is one. -/
def I7.good (x : I7) : Prop := ∃ k, IsX k x.op x.a x.b x.c x.d x.k x.i ∧ xlen k ≠ 0
def I7.size (x : I7) : Nat := if x.op ≤ 61 then 4 else 8
def I7.byte (x : I7) (j : Nat) : Int := eB x.op x.a x.b x.c x.d x.k x.i j
theorem size_of {k : XK} {x : I7} (h : IsX k x.op x.a x.b x.c x.d x.k x.i) (hn : xlen k ≠ 0) : x.size = xlen k := by
  unfold I7.size
  cases k
  · exact absurd rfl hn
  · rw [if_pos h.2.2]; rfl
  · rw [if_neg (by have := h.2.2; omega)]; rfl
/-- The bytes of instructions, one behind the other; how many there are. -/
def bytesOf : List I7 → Nat → Int
  | [] => fun _ => 0
  | x :: l => catN x.size x.byte (bytesOf l)
def sizeAll : List I7 → Nat
  | [] => 0
  | x :: l => x.size + sizeAll l
theorem one_run {x : I7} (h : x.good) : (∀ j, InB (x.byte j)) ∧ RunK x.size x.byte 1 ∧ posN x.byte 1 = x.size ∧ itm x.byte 0 = x := by
  obtain ⟨k, hx, hn⟩ := h
  have hs := size_of hx hn
  obtain ⟨h1, h2, h3⟩ := dec_enc hx hn (n := x.size) (q := x.byte) (fun j _ => rfl) (by omega)
  have hp : posN x.byte 1 = x.size := by
    show 0 + dSz (shf x.byte 0) = x.size
    have : shf x.byte 0 = x.byte := by funext j; unfold shf; rw [Nat.zero_add]
    rw [this, h3, hs, Nat.zero_add]
  refine ⟨eB_in hx hn, ⟨fun k hk => ?_, ?_⟩, hp, ?_⟩
  · obtain rfl : k = 0 := by omega
    unfold okAt
    have : shf x.byte (posN x.byte 0) = x.byte := by funext j; unfold shf; show x.byte (0 + j) = _; rw [Nat.zero_add]
    rw [this]
    exact h1
  · unfold okAt
    rw [hp, Nat.sub_self]
    unfold dOk
    simp
  · unfold itm
    have : shf x.byte (posN x.byte 0) = x.byte := by funext j; unfold shf; show x.byte (0 + j) = _; rw [Nat.zero_add]
    rw [this]
    exact I7.v_inj (by rw [← dIn_eq, h2]; rfl)
theorem zero_run (q : Nat → Int) : RunK 0 q 0 := ⟨fun k hk => absurd hk (by omega), by unfold okAt dOk; simp [posN]⟩
theorem catN_in {N : Nat} {f g : Nat → Int} (hf : ∀ j, InB (f j)) (hg : ∀ j, InB (g j)) (j : Nat) : InB (catN N f g j) := by
  unfold catN; split
  · exact hf _
  · exact hg _
theorem all_run : ∀ {l : List I7}, (∀ x ∈ l, x.good) → (∀ j, InB (bytesOf l j)) ∧ RunK (sizeAll l) (bytesOf l) l.length ∧ posN (bytesOf l) l.length = sizeAll l ∧ items (bytesOf l) l.length = l
  | [], _ => ⟨fun _ => ⟨Int.le_refl _, by show (0 : Int) ≤ 255; omega⟩, zero_run _, rfl, rfl⟩
  | x :: l, h => by
    obtain ⟨b1, r1, p1, i1⟩ := one_run (h x (List.mem_cons_self ..))
    obtain ⟨b2, r2, p2, i2⟩ := all_run (l := l) (fun y hy => h y (List.mem_cons_of_mem _ hy))
    have hlen : (x :: l).length = 1 + l.length := by rw [List.length_cons, Nat.add_comm]
    refine ⟨catN_in b1 b2, ?_, ?_, ?_⟩
    · rw [hlen]; exact run_cat b1 r1 p1 r2
    · rw [hlen]
      show posN (catN x.size x.byte (bytesOf l)) (1 + l.length) = x.size + sizeAll l
      rw [cat_hi b1 r1.1 p1, p2]
    · rw [hlen]
      show items (catN x.size x.byte (bytesOf l)) (1 + l.length) = x :: l
      rw [items_cat b1 r1.1 p1, i2]
      show [itm x.byte 0] ++ l = x :: l
      rw [i1]; rfl
end Go.Ev
