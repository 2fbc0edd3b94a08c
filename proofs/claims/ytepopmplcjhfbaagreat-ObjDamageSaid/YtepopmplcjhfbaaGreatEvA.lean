import Derived.Test.YtepopmplcjhfbaaGreatEv0
import Derived.Below
set_option linter.unusedSectionVars false
set_option linter.unusedVariables false
set_option linter.unusedSimpArgs false
set_option linter.unnecessarySimpa false
namespace Go.Ev
open Go.RowKit
theorem fN_eq (n : Nat) (k : Nat → Bool) : fN n k = k n := by cases n <;> rfl
theorem fI_eq (n : Int) (k : Int → Bool) : fI n k = k n := by
  cases n with
  | ofNat m => exact fN_eq m fun m => k (.ofNat m)
  | negSucc m => exact fN_eq m fun m => k (.negSucc m)
theorem fIs_eq : ∀ (l : List Int) (k : List Int → Bool), fIs l k = k l
  | [], _ => rfl
  | c :: l, k => by simp only [fIs, fI_eq]; rw [fIs_eq l]
theorem fB_eq (b : Bool) (k : Bool → Bool) : fB b k = k b := by cases b <;> rfl
theorem fL_eq : ∀ (l : List Nat) (k : List Nat → Bool), fL l k = k l
  | [], _ => rfl
  | x :: l, k => by simp only [fL, fN_eq]; rw [fL_eq l]
theorem forceV_eq (a : AV) (k : AV → Bool) : forceV a k = k a := by
  cases a <;> simp only [forceV, fB_eq, fI_eq, fL_eq]
theorem forceVs_eq : ∀ (l : List AV) (k : List AV → Bool), forceVs l k = k l
  | [], _ => rfl
  | a :: l, k => by simp only [forceVs, forceV_eq]; rw [forceVs_eq l]
theorem forceW_eq (a : AV) (k : AV → Bool) : forceW a k = k a := by
  cases a <;> simp only [forceW, forceV_eq, forceVs_eq]
theorem opt_true {α : Type} {o : Option α} {k : α → Bool} (h : opt o k = true) : ∃ a, o = some a ∧ k a = true := by
  cases o with
  | none => cases h
  | some a => exact ⟨a, rfl, h⟩
theorem guardB_true {b : Bool} {k : Unit → Bool} (h : guardB b k = true) : b = true ∧ k () = true := by
  cases b with
  | false => cases h
  | true => exact ⟨rfl, h⟩
theorem nb_true {b : Bool} (h : nb b = true) : b = false := by cases b <;> simp_all [nb]
theorem nb_eq (b : Bool) : nb b = !b := by cases b <;> rfl
theorem len_eq {α : Type} : ∀ l : List α, len l = l.length
  | [] => rfl
  | _ :: l => by simp [len, len_eq l]
theorem nth_eq {α : Type} : ∀ (l : List α) (n : Nat), nth l n = l[n]?
  | [], n => by simp [nth]
  | x :: l, 0 => by simp [nth]
  | x :: l, n + 1 => by simp [nth, nth_eq l n]
theorem beq_true {a b : Nat} (h : Nat.beq a b = true) : a = b := by simpa using h
theorem beq_false {a b : Nat} (h : Nat.beq a b = false) : a ≠ b := by intro e; subst e; simp at h
theorem ble_true {a b : Nat} (h : Nat.ble a b = true) : a ≤ b := by simpa using h
theorem blt_true {a b : Nat} (h : Nat.blt a b = true) : a < b := by have := ble_true (a := a + 1) (b := b) h; omega
theorem ibeq_eq : ∀ a b : Int, ibeq a b = decide (a = b)
  | .ofNat a, .ofNat b => by
    simp only [ibeq]
    cases h : Nat.beq a b with
    | true => simp [beq_true h]
    | false => have := beq_false h; simp; omega
  | .negSucc a, .negSucc b => by
    simp only [ibeq]
    cases h : Nat.beq a b with
    | true => simp [beq_true h]
    | false => have := beq_false h; simp; omega
  | .ofNat _, .negSucc _ => by simp [ibeq]
  | .negSucc _, .ofNat _ => by simp [ibeq]
theorem ile_eq : ∀ a b : Int, ile a b = decide (a ≤ b)
  | .ofNat a, .ofNat b => by
    simp only [ile]; rw [Bool.eq_iff_iff]; simp
  | .negSucc a, .negSucc b => by
    simp only [ile]; rw [Bool.eq_iff_iff]; simp; omega
  | .negSucc a, .ofNat b => by simp only [ile]; symm; simp; omega
  | .ofNat a, .negSucc b => by simp only [ile]; symm; simp; omega
theorem kbeq_true {a b : IntKind} (h : kbeq a b = true) : a = b := by cases a <;> cases b <;> first | rfl | cases h
theorem lbeq_eq : ∀ a b : List Nat, lbeq a b = decide (a = b)
  | [], [] => by simp [lbeq]
  | a :: x, b :: y => by
    simp only [lbeq]
    cases h : Nat.beq a b with
    | true => have := beq_true h; subst this; simp [lbeq_eq x y]
    | false => have := beq_false h; simp [this]
  | [], _ :: _ => by simp [lbeq]
  | _ :: _, [] => by simp [lbeq]
theorem nonneg_some {n : Int} {m : Nat} (h : nonneg n = some m) : n = (m : Int) := by cases n <;> simp_all [nonneg]
theorem appL_eq : ∀ (a b : List Nat) (k : List Nat → Bool), appL a b k = k (a ++ b)
  | [], _, _ => rfl
  | _ :: l, b, k => by simp only [appL]; rw [appL_eq l b]; rfl
theorem catL_eq : ∀ (a b : List AV) (k : List AV → Bool), catL a b k = k (a ++ b)
  | [], _, _ => rfl
  | _ :: l, b, k => by simp only [catL]; rw [catL_eq l b]; rfl
theorem appA_eq : ∀ (a b : List AV) (k : List AV → Bool), appA a b k = k (a ++ b)
  | [], _, _ => rfl
  | _ :: l, b, k => by simp only [appA]; rw [appA_eq l b]; rfl
theorem wrap_i64 (n : Int) (h1 : -9223372036854775808 ≤ n) (h2 : n ≤ 9223372036854775807) : IntKind.wrap .i64 n = n := by
  have e : IntKind.wrap .i64 n = if n % 18446744073709551616 ≥ 9223372036854775808 then n % 18446744073709551616 - 18446744073709551616 else n % 18446744073709551616 := by
    simp [IntKind.wrap, IntKind.signed, IntKind.bits]
  rw [e]; split <;> omega
theorem wrap_u (k : IntKind) (m : Int) (n : Int) (hk : k.signed = false) (hb : (2 : Int) ^ k.bits = m) (h1 : 0 ≤ n) (h2 : n < m) : IntKind.wrap k n = n := by
  simp only [IntKind.wrap, hk, hb]
  simp
  exact Int.emod_eq_of_lt h1 h2
theorem awrapK_eq (kd : IntKind) (n : Int) (k : Int → Bool) : awrapK kd n k = k (IntKind.wrap kd n) := by
  unfold awrapK
  split
  · split
    · rename_i m h
      have := ble_true h
      rw [fN_eq, wrap_i64 _ (by simp; try omega) (by simp; try omega)]
    · rw [fI_eq]
  · split
    · rename_i m h
      have := ble_true h
      rw [fN_eq, wrap_i64 _ (by simp [Int.negSucc_eq]; omega) (by simp [Int.negSucc_eq]; omega)]
    · rw [fI_eq]
  · split
    · rename_i m h
      have := ble_true h
      rw [fN_eq, wrap_u .u64 18446744073709551616 _ rfl (by decide) (by simp) (by simp; try omega)]
    · rw [fI_eq]
  · split
    · rename_i m h
      have := ble_true h
      rw [fN_eq, wrap_u .u32 4294967296 _ rfl (by decide) (by simp) (by simp; try omega)]
    · rw [fI_eq]
  · split
    · rename_i m h
      have := ble_true h
      rw [fN_eq, wrap_u .u8 256 _ rfl (by decide) (by simp) (by simp; try omega)]
    · rw [fI_eq]
  · rw [fI_eq]
theorem T.get_lf {α : Type} (n : Nat) : (T.lf : T α).get n = none := rfl
theorem T.get_nd {α : Type} (l : T α) (v : Option α) (r : T α) (n : Nat) :
    (T.nd l v r).get n = if n = 0 then v else if n % 2 = 1 then l.get (n / 2) else r.get (n / 2 - 1) := by
  show Bool.rec (motive := fun _ => Option α) (Bool.rec (motive := fun _ => Option α) (r.get (Nat.sub (Nat.div n 2) 1)) (l.get (Nat.div n 2)) (Nat.beq (Nat.mod n 2) 1)) v (Nat.beq n 0) = _
  have e1 : Nat.mod n 2 = n % 2 := rfl
  have e2 : Nat.div n 2 = n / 2 := rfl
  have e3 : Nat.sub (n / 2) 1 = n / 2 - 1 := rfl
  rw [e1, e2, e3]
  cases h : Nat.beq n 0 with
  | true => simp [beq_true h]
  | false =>
    have h0 := beq_false h
    simp only [h0, if_false]
    cases h' : Nat.beq (n % 2) 1 with
    | true => simp [beq_true h']
    | false => simp [beq_false h']
theorem T.setK_true {α : Type} (x : Option α) : ∀ (f : Nat) (t : T α) (n : Nat) (k : T α → Bool), T.setK f t n x k = true →
    ∃ t', (∀ m, t'.get m = if m = n then x else t.get m) ∧ k t' = true := by
  intro f
  induction f with
  | zero => intro t n k h; cases h
  | succ f ih =>
    intro t n k h
    cases t with
    | lf =>
      change Bool.rec (motive := fun _ => Bool) (Bool.rec (motive := fun _ => Bool) (T.setK f .lf (n / 2 - 1) x fun r => k (.nd .lf none r)) (T.setK f .lf (n / 2) x fun l => k (.nd l none .lf)) (Nat.beq (n % 2) 1)) (k (.nd .lf x .lf)) (Nat.beq n 0) = true at h
      cases h0 : Nat.beq n 0 with
      | true =>
        rw [h0] at h
        refine ⟨_, fun m => ?_, h⟩
        rw [T.get_nd, beq_true h0]
        simp [T.get_lf]
      | false =>
        rw [h0] at h
        have hn := beq_false h0
        cases h1 : Nat.beq (n % 2) 1 with
        | true =>
          rw [h1] at h
          obtain ⟨t', ht, hk⟩ := ih _ _ _ h
          have h2 := beq_true h1
          refine ⟨_, fun m => ?_, hk⟩
          rw [T.get_nd, ht]
          simp only [T.get_lf]
          by_cases e : m = n
          · subst e; simp [hn, h2]
          · simp only [e, if_false]
            by_cases e0 : m = 0
            · simp [e0]
            · by_cases e1 : m % 2 = 1
              · have : m / 2 ≠ n / 2 := by omega
                simp [e0, e1, this]
              · simp [e0, e1]
        | false =>
          rw [h1] at h
          obtain ⟨t', ht, hk⟩ := ih _ _ _ h
          have h2 := beq_false h1
          refine ⟨_, fun m => ?_, hk⟩
          rw [T.get_nd, ht]
          simp only [T.get_lf]
          by_cases e : m = n
          · subst e; simp [hn, h2]
          · simp only [e, if_false]
            by_cases e0 : m = 0
            · simp [e0]
            · by_cases e1 : m % 2 = 1
              · simp [e0, e1]
              · have : m / 2 - 1 ≠ n / 2 - 1 := by omega
                simp [e0, e1, this]
    | nd l v r =>
      change Bool.rec (motive := fun _ => Bool) (Bool.rec (motive := fun _ => Bool) (T.setK f r (n / 2 - 1) x fun r => k (.nd l v r)) (T.setK f l (n / 2) x fun l => k (.nd l v r)) (Nat.beq (n % 2) 1)) (k (.nd l x r)) (Nat.beq n 0) = true at h
      cases h0 : Nat.beq n 0 with
      | true =>
        rw [h0] at h
        refine ⟨_, fun m => ?_, h⟩
        rw [T.get_nd, T.get_nd, beq_true h0]
        by_cases e : m = 0 <;> simp [e]
      | false =>
        rw [h0] at h
        have hn := beq_false h0
        cases h1 : Nat.beq (n % 2) 1 with
        | true =>
          rw [h1] at h
          obtain ⟨t', ht, hk⟩ := ih _ _ _ h
          have h2 := beq_true h1
          refine ⟨_, fun m => ?_, hk⟩
          rw [T.get_nd, T.get_nd, ht]
          by_cases e : m = n
          · subst e; simp [hn, h2]
          · by_cases e0 : m = 0
            · simp [e0]; omega
            · by_cases e1 : m % 2 = 1
              · have : m / 2 ≠ n / 2 := by omega
                simp [e, e0, e1, this]
              · simp [e, e0, e1]
        | false =>
          rw [h1] at h
          obtain ⟨t', ht, hk⟩ := ih _ _ _ h
          have h2 := beq_false h1
          refine ⟨_, fun m => ?_, hk⟩
          rw [T.get_nd, T.get_nd, ht]
          by_cases e : m = n
          · subst e; simp [hn, h2]
          · by_cases e0 : m = 0
            · simp [e0]; omega
            · by_cases e1 : m % 2 = 1
              · simp [e, e0, e1]
              · have : m / 2 - 1 ≠ n / 2 - 1 := by omega
                simp [e, e0, e1, this]
end Go.Ev

