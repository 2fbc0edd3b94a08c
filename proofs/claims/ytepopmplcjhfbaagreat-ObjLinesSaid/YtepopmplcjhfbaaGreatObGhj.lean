import Derived.Lib.EndianBits
import Derived.Test.YtepopmplcjhfbaaGreatObGmo
import Derived.Lib.QuietBelow
import Derived.WalkLawsBesides
set_option linter.unusedSectionVars false
set_option linter.unusedVariables false
set_option linter.unusedSimpArgs false
set_option linter.unnecessarySimpa false
/-
  Bits of an int64: bytes joined, numbers masked.
-/
namespace Go.Ev
theorem wraps_i64 (n : Int) (h₀ : 0 ≤ n) (h₁ : n < 2 ^ 63) : IntKind.i64.wrap n = n := by rw [IntKind.wrap_i64]; omega
theorem or_i64_0 (y : Int) (h0 : 0 ≤ y) (h1 : y < 256) : bits .or .i64 0 y = y := by
  have := bits_join_low .i64 63 (by decide) wraps_i64 0 0 y (by decide) (by decide) (by decide) h0 (by omega) (by omega)
  omega
theorem or_i64_8 (V : Int) : bits .or .i64 (V % 256) (V / 256 % 256 * 256) = V % 65536 := by
  rw [bits_join_low .i64 63 (by decide) wraps_i64 8 (V % 256) (V / 256 % 256 * 256) (by omega) (by omega) (by omega) (by omega) (by omega) (by omega)]
  omega
theorem or_i64_16 (V : Int) : bits .or .i64 (V % 65536) (V / 65536 % 256 * 65536) = V % 16777216 := by
  rw [bits_join_low .i64 63 (by decide) wraps_i64 16 (V % 65536) (V / 65536 % 256 * 65536) (by omega) (by omega) (by omega) (by omega) (by omega) (by omega)]
  omega
theorem or_i64_24 (V : Int) : bits .or .i64 (V % 16777216) (V / 16777216 % 256 * 16777216) = V % 4294967296 := by
  rw [bits_join_low .i64 63 (by decide) wraps_i64 24 (V % 16777216) (V / 16777216 % 256 * 16777216) (by omega) (by omega) (by omega) (by omega) (by omega) (by omega)]
  omega
theorem and_i64_8 (x : Int) : bits .and .i64 x 255 = x % 256 := by
  have h : (x % (2 : Int) ^ 64).toNat &&& 255 = (x % (2 : Int) ^ 64).toNat % 256 := Nat.and_two_pow_sub_one_eq_mod _ 8
  have e : (BitVec.ofInt 64 255).toNat = 255 := by decide
  have e2 : (BitVec.ofInt 64 x).toNat = (x % (2 : Int) ^ 64).toNat := by simp [BitVec.toNat_ofInt]
  show IntKind.i64.wrap ((BitVec.ofInt 64 x &&& BitVec.ofInt 64 255).toNat : Int) = _
  rw [BitVec.toNat_and, e, e2, h, wraps_i64 _ (by omega) (by omega)]
  omega
theorem and_i64_16 (x : Int) : bits .and .i64 x 65535 = x % 65536 := by
  have h : (x % (2 : Int) ^ 64).toNat &&& 65535 = (x % (2 : Int) ^ 64).toNat % 65536 := Nat.and_two_pow_sub_one_eq_mod _ 16
  have e : (BitVec.ofInt 64 65535).toNat = 65535 := by decide
  have e2 : (BitVec.ofInt 64 x).toNat = (x % (2 : Int) ^ 64).toNat := by simp [BitVec.toNat_ofInt]
  show IntKind.i64.wrap ((BitVec.ofInt 64 x &&& BitVec.ofInt 64 65535).toNat : Int) = _
  rw [BitVec.toNat_and, e, e2, h, wraps_i64 _ (by omega) (by omega)]
  omega
theorem and_i64_32 (x : Int) : bits .and .i64 x 4294967295 = x % 4294967296 := by
  have h : (x % (2 : Int) ^ 64).toNat &&& 4294967295 = (x % (2 : Int) ^ 64).toNat % 4294967296 := Nat.and_two_pow_sub_one_eq_mod _ 32
  have e : (BitVec.ofInt 64 4294967295).toNat = 4294967295 := by decide
  have e2 : (BitVec.ofInt 64 x).toNat = (x % (2 : Int) ^ 64).toNat := by simp [BitVec.toNat_ofInt]
  show IntKind.i64.wrap ((BitVec.ofInt 64 x &&& BitVec.ofInt 64 4294967295).toNat : Int) = _
  rw [BitVec.toNat_and, e, e2, h, wraps_i64 _ (by omega) (by omega)]
  omega
end Go.Ev

/-
  Stage 3: the program's reader of line programs: its small parts.
-/
namespace Go.Ev
open Go.RowKit Go.Proofs Go.Rw
/-- The machine's block. -/
def MacB (W : World) (M : Nat) (ba : Option Addr) (n c : Nat) (p : Int) (v : LineT) (tv : Value) : Prop :=
  W.heap[M]? = some (.cells #[.slice ba n c, .int .i64 p, .int .i64 v.sec, .int .i64 v.off, .int .i64 v.file, .int .i64 v.line, tv] 139 (0, 0))
section
variable {W : World} {M : Nat} {ba : Option Addr} {n c : Nat} {p : Int} {v : LineT} {tv : Value}
theorem MacB.cells (h : MacB W M ba n c p v tv) : W.cell? ⟨M, 0, none⟩ = some (.slice ba n c) ∧ W.cell? ⟨M, 1, none⟩ = some (.int .i64 p) ∧ W.cell? ⟨M, 2, none⟩ = some (.int .i64 v.sec) ∧ W.cell? ⟨M, 3, none⟩ = some (.int .i64 v.off) ∧ W.cell? ⟨M, 4, none⟩ = some (.int .i64 v.file) ∧ W.cell? ⟨M, 5, none⟩ = some (.int .i64 v.line) ∧ W.cell? ⟨M, 6, none⟩ = some tv := by
  unfold MacB at h
  refine ⟨?_, ?_, ?_, ?_, ?_, ?_, ?_⟩ <;> simp [World.cell?, h]
theorem MacB.frozen (h : MacB W M ba n c p v tv) (i : Nat) : W.frozen? ⟨M, i, none⟩ = false := by
  unfold MacB at h
  simp [World.frozen?, h]
theorem MacB.low (h : MacB W M ba n c p v tv) : M < W.heap.size := (Array.getElem?_eq_some_iff.1 h).1
theorem MacB.setAt (h : MacB W M ba n c p v tv) (p' : Int) : MacB (W.setCell ⟨M, 1, none⟩ (.int .i64 p')) M ba n c p' v tv := heap_setCell_same _ _ 1 _ _ _ h
theorem MacB.setSec (h : MacB W M ba n c p v tv) (x : Int) : MacB (W.setCell ⟨M, 2, none⟩ (.int .i64 x)) M ba n c p ⟨x, v.off, v.file, v.line⟩ tv := heap_setCell_same _ _ 2 _ _ _ h
theorem MacB.setOff (h : MacB W M ba n c p v tv) (x : Int) : MacB (W.setCell ⟨M, 3, none⟩ (.int .i64 x)) M ba n c p ⟨v.sec, x, v.file, v.line⟩ tv := heap_setCell_same _ _ 3 _ _ _ h
theorem MacB.setFile (h : MacB W M ba n c p v tv) (x : Int) : MacB (W.setCell ⟨M, 4, none⟩ (.int .i64 x)) M ba n c p ⟨v.sec, v.off, x, v.line⟩ tv := heap_setCell_same _ _ 4 _ _ _ h
theorem MacB.setLine (h : MacB W M ba n c p v tv) (x : Int) : MacB (W.setCell ⟨M, 5, none⟩ (.int .i64 x)) M ba n c p ⟨v.sec, v.off, v.file, x⟩ tv := heap_setCell_same _ _ 5 _ _ _ h
theorem MacB.setTab (h : MacB W M ba n c p v tv) (t : Value) : MacB (W.setCell ⟨M, 6, none⟩ t) M ba n c p v t := heap_setCell_same _ _ 6 _ _ _ h
theorem MacB.other (h : MacB W M ba n c p v tv) {a : Addr} (hne : a.block ≠ M) (x : Value) : MacB (W.setCell a x) M ba n c p v tv := (heap_setCell_other W a M x (Ne.symm hne)).trans h
theorem MacB.alloc (h : MacB W M ba n c p v tv) (A : Obj) : MacB (W.alloc A) M ba n c p v tv := (heap_alloc_old W A h.low).trans h
theorem MacB.below {W' : World} (h : MacB W M ba n c p v tv) (hb : Below W.heap.size W W') : MacB W' M ba n c p v tv := (hb.block M h.low).trans h
end
def fltV (a b : Int) : PanicEntry := { v := .iface 119 (.agg #[.int .i64 a, .int .i64 b]), recovered := false }
/-- Reading fails. -/
def Flt (base : Nat) (w : World) (e : Ending) (w' : World) : Prop := ∃ a b : Int, e = .panicked [fltV a b] ∧ Below base w w'
theorem must_yes {w : World} (a b : Int) : Calls Tryz.prog 172 #[.bool true, .int .i64 a, .int .i64 b] w fun e w' => e = .returned (.tuple #[]) ∧ w' = w := by
  go_enter Tryz.func172, Tryz.ntmps172
  go_wp2
  exact ⟨rfl, _, results_none rfl _ _ _, rfl, rfl⟩
theorem must_no {w : World} (a b : Int) : Calls Tryz.prog 172 #[.bool false, .int .i64 a, .int .i64 b] w fun e w' => e = .panicked [fltV a b] ∧ w' = w := by
  go_enter Tryz.func172, Tryz.ntmps172
  go_wp2
  exact ⟨rfl, rfl, rfl⟩
theorem isAtEnd_c {w : World} {M : Nat} {ba : Option Addr} {n c : Nat} {p : Int} {v : LineT} {tv : Value} (h : MacB w M ba n c p v tv) :
    Calls Tryz.prog 104 #[.pointer (some ⟨M, 0, none⟩)] w fun e w' => e = .returned (.bool (p == (n : Int))) ∧ ∃ k, w' = w.drewN k := by
  obtain ⟨c0, c1, -⟩ := h.cells
  go_enter Tryz.func104, Tryz.ntmps104
  go_wp2_with fail
  go_quiet (fail)
  go_wp2
  go_ret
  exact ⟨rfl, _, rfl⟩
def leadV (r : Option (Nat × Nat)) : Value := .tuple #[.int .i64 ((r.getD (0, 0)).1 : Nat), .int .i64 ((r.getD (0, 0)).2 : Nat)]
def LdR (r : Option (Nat × Nat)) (w : World) (e : Ending) (w' : World) : Prop := e = .returned (leadV r) ∧ ∃ k, w' = w.drewN k
theorem leadGo_drop {l : List Nat} {i acc : Nat} (hi : i < 5) {c : Nat} (hc : l[i]? = some c) : leadGo i acc (l.drop i) = if c < 128 then (if (c = 0 ∧ 0 < i) ∨ 4294967295 < acc + c % 128 * 128 ^ i then none else some (acc + c % 128 * 128 ^ i, i + 1)) else leadGo (i + 1) (acc + c % 128 * 128 ^ i) (l.drop (i + 1)) := by
  have hl := (List.getElem?_eq_some_iff.1 hc).1
  have e : l[i] = c := (List.getElem?_eq_some_iff.1 hc).2
  rw [List.drop_eq_getElem_cons hl, e, leadGo, if_neg (by omega)]
theorem leadGo_end {l : List Nat} {i acc : Nat} (h : l.length ≤ i ∨ 5 ≤ i) : leadGo i acc (l.drop i) = none := by
  cases hd : l.drop i with
  | nil => rfl
  | cons c r =>
    rcases h with h | h
    · rw [List.drop_eq_nil_of_le h] at hd; cases hd
    · rw [leadGo, if_pos h]
theorem join_0 (y : Int) (h0 : 0 ≤ y) (h1 : y < 128) : bits .or .i64 0 y = y := or_i64_0 y h0 (by omega)
theorem join_7 (lo hi : Int) (h0 : 0 ≤ lo) (h1 : lo < 128) (h2 : 0 ≤ hi) (h3 : hi < 128) : bits .or .i64 lo (hi * 128) = lo + hi * 128 :=
  bits_join_low .i64 63 (by decide) wraps_i64 7 lo (hi * 128) (by omega) (by omega) (by omega) (by omega) (by omega) (by omega)
theorem join_14 (lo hi : Int) (h0 : 0 ≤ lo) (h1 : lo < 16384) (h2 : 0 ≤ hi) (h3 : hi < 128) : bits .or .i64 lo (hi * 16384) = lo + hi * 16384 :=
  bits_join_low .i64 63 (by decide) wraps_i64 14 lo (hi * 16384) (by omega) (by omega) (by omega) (by omega) (by omega) (by omega)
theorem join_21 (lo hi : Int) (h0 : 0 ≤ lo) (h1 : lo < 2097152) (h2 : 0 ≤ hi) (h3 : hi < 128) : bits .or .i64 lo (hi * 2097152) = lo + hi * 2097152 :=
  bits_join_low .i64 63 (by decide) wraps_i64 21 lo (hi * 2097152) (by omega) (by omega) (by omega) (by omega) (by omega) (by omega)
theorem join_28 (lo hi : Int) (h0 : 0 ≤ lo) (h1 : lo < 268435456) (h2 : 0 ≤ hi) (h3 : hi < 128) : bits .or .i64 lo (hi * 268435456) = lo + hi * 268435456 :=
  bits_join_low .i64 63 (by decide) wraps_i64 28 lo (hi * 268435456) (by omega) (by omega) (by omega) (by omega) (by omega) (by omega)
theorem joinK {k A c : Nat} (hk : k < 5) (hA : A < 128 ^ k) : bits .or .i64 (A : Int) (wrap64 ((c : Int) % 128 * 2 ^ (7 * k))) = ((A + c % 128 * 128 ^ k : Nat) : Int) := by
  have hw : ∀ z : Int, 0 ≤ z → z < 9223372036854775808 → wrap64 z = z := fun z h0 h1 => by unfold wrap64; omega
  match k, hk with
  | 0, _ =>
    have : A = 0 := by simpa using hA
    subst this
    rw [show ((c : Int) % 128 * 2 ^ (7 * 0)) = (c : Int) % 128 by omega, hw _ (by omega) (by omega)]
    have := join_0 ((c : Int) % 128) (by omega) (by omega)
    rw [show ((0 : Nat) : Int) = 0 by rfl, this]
    omega
  | 1, _ =>
    rw [show ((c : Int) % 128 * 2 ^ (7 * 1)) = (c : Int) % 128 * 128 by omega, hw _ (by omega) (by omega), join_7 _ _ (by omega) (by omega) (by omega) (by omega)]
    omega
  | 2, _ =>
    rw [show ((c : Int) % 128 * 2 ^ (7 * 2)) = (c : Int) % 128 * 16384 by omega, hw _ (by omega) (by omega), join_14 _ _ (by omega) (by omega) (by omega) (by omega)]
    omega
  | 3, _ =>
    rw [show ((c : Int) % 128 * 2 ^ (7 * 3)) = (c : Int) % 128 * 2097152 by omega, hw _ (by omega) (by omega), join_21 _ _ (by omega) (by omega) (by omega) (by omega)]
    omega
  | 4, _ =>
    rw [show ((c : Int) % 128 * 2 ^ (7 * 4)) = (c : Int) % 128 * 268435456 by omega, hw _ (by omega) (by omega), join_28 _ _ (by omega) (by omega) (by omega) (by omega)]
    omega
theorem joinK_lt {k A c : Nat} (hk : k < 5) (hA : A < 128 ^ k) : A + c % 128 * 128 ^ k < 128 ^ (k + 1) := by
  match k, hk with
  | 0, _ => omega
  | 1, _ => omega
  | 2, _ => omega
  | 3, _ => omega
  | 4, _ => omega
set_option maxRecDepth 100000 in
set_option maxHeartbeats 2000000 in
theorem lead_c {w : World} {a : Option Addr} {c2 : Nat} (l : List Nat) (hb : BytesAt w a l.length (fun j => ((l.getD j 0 : Nat) : Int))) (hl : ∀ x ∈ l, x < 256) (hn : l.length ≤ 140737488351232) (hc : l.length ≤ c2) :
    Calls Tryz.prog 238 #[.slice a l.length c2] w (LdR (leadF l) w) := by
  obtain ⟨R, hR0⟩ : ∃ R, R = leadF l := ⟨_, rfl⟩
  rw [← hR0]
  have hR := Lib.hid (show leadGo 0 0 (l.drop 0) = R by rw [hR0]; rfl)
  clear hR0
  by_cases h5 : l.length ≤ 5
  · have h5' : (l.length : Int) ≤ 5 := by omega
    go_enter Tryz.func238, Tryz.ntmps238
    go_wp2_with fail
    go_loopw [13, 2] (fun i acc wr => ∃ (k A : Nat), k ≤ l.length ∧ k ≤ 5 ∧ i = .int .i64 k ∧ acc = .int .i64 A ∧ A < 128 ^ k ∧ wr = w ∧ leadGo k A (l.drop k) = R) (fun i _ _ => l.length - (intOf i).toNat)
    case atStart => exact ⟨0, 0, by omega, by omega, rfl, rfl, by decide, rfl, hR.out⟩
    case round =>
      obtain ⟨k, A, hk, hk5, rfl, rfl, hA, rfl, hRk⟩ := hrel
      have hRk := Lib.hid hRk
      by_cases hlt : k < l.length
      · have hkl : k < l.length := by omega
        obtain ⟨b, o, rfl, hcell⟩ : ∃ b o, a = some ⟨b, o, none⟩ ∧ ∀ j, j < l.length → wr.cell? ⟨b, o + j, none⟩ = some (.int .u8 ((l.getD j 0 : Nat) : Int)) := by
          rcases hb with ⟨_, h0⟩ | h
          · omega
          · exact h
        obtain ⟨c, hcx⟩ : ∃ c, l[k]? = some c := ⟨l[k], by simp [hkl]⟩
        have h0 : wr.cell? ⟨b, o + k, none⟩ = some (.int .u8 (c : Int)) := by
          have := hcell k hkl
          rwa [show l.getD k 0 = c by simp [List.getD, hcx]] at this
        have hc256 := hl c (List.mem_of_getElem? hcx)
        have hdr := leadGo_drop (acc := A) (by omega) hcx
        have hj := joinK (c := c) (k := k) (by omega) hA
        have hNl := joinK_lt (c := c) (k := k) (by omega) hA
        obtain ⟨N, hN⟩ : ∃ N : Nat, N = A + c % 128 * 128 ^ k := ⟨_, rfl⟩
        rw [← hN] at hj hNl hdr
        rw [hRk.out] at hdr
        have hlt2 : (k : Int) < (l.length : Int) := by omega
        have hlt3 : (k : Int) < (l.length : Int) := by omega
        have hNl := Lib.hid hNl
        have hz0 := Lib.hid (show k = 0 → c < 128 → A = 0 ∧ N = c from fun h h' => by subst h; rw [hN]; omega)
        clear hN hA hcell hcx hb hl
        by_cases hc1 : c < 128
        · rw [if_pos hc1] at hdr
          by_cases hc0 : c = 0 ∧ 0 < k
          · rw [if_pos (.inl hc0)] at hdr
            have hRn := Lib.hid hdr
            clear hdr
            obtain ⟨rfl, hk0⟩ := hc0
            have hkd : decide (0 < k) = true := decide_eq_true hk0
            have hkd2 : decide ((0 : Int) < (k : Int)) = true := decide_eq_true (by omega)
            go_wp2
            go_ret2
            exact ⟨by rw [hRn.out]; rfl, 0, rfl⟩
          · have hcb : ((c : Int) == 0) = false ∨ k = 0 := by
              by_cases h : c = 0
              · exact .inr (by omega)
              · exact .inl (beq_eq_false_iff_ne.2 (by omega))
            by_cases hbig : 4294967295 < N
            · rw [if_pos (.inr hbig)] at hdr
              have hRn := Lib.hid hdr
              clear hdr hc0
              have hbd : decide ((4294967295 : Int) < (N : Int)) = true := decide_eq_true (by omega)
              rcases hcb with hcb | rfl
              · go_wp2
                all_goals go_ret2
                all_goals exact ⟨by rw [hRn.out]; rfl, 0, rfl⟩
              · exfalso
                obtain ⟨_, h2⟩ := hz0.out rfl hc1
                omega
            · rw [if_neg (fun h => h.elim hc0 hbig)] at hdr
              have hRn := Lib.hid hdr
              clear hdr hc0
              have hbd : decide ((4294967295 : Int) < (N : Int)) = false := decide_eq_false (by omega)
              rcases hcb with hcb | rfl
              · go_wp2
                all_goals go_ret2
                all_goals exact ⟨by rw [hRn.out]; rfl, 0, rfl⟩
              · obtain ⟨rfl, rfl⟩ := hz0.out rfl hc1
                have h0' : wr.cell? ⟨b, o, none⟩ = some (.int .u8 (N : Int)) := h0
                have hl0 : (0 : Int) < (l.length : Int) := by omega
                by_cases hcz : N = 0
                · subst hcz
                  have h0' : wr.cell? ⟨b, o, none⟩ = some (.int .u8 0) := h0'
                  have e1 : bits .or .i64 0 0 = 0 := by decide +kernel
                  have e2 : bits .or .i64 0 (wrap64 0) = 0 := by decide +kernel
                  go_wp2
                  all_goals go_ret2
                  all_goals exact ⟨by rw [hRn.out]; rfl, 0, rfl⟩
                · have hcb : ((N : Int) == 0) = false := beq_eq_false_iff_ne.2 (by omega)
                  have e1 := join_0 (N : Int) (by omega) (by omega)
                  have e2 : (N : Int) % 128 = (N : Int) := by omega
                  have e3 : wrap64 (N : Int) = (N : Int) := by unfold wrap64; omega
                  have e4 : wrap64 ((N : Int) % 128) = (N : Int) := by rw [e2]; exact e3
                  have e5 : (N : Int) % 256 = (N : Int) := by omega
                  go_wp2
                  all_goals go_ret2
                  all_goals exact ⟨by rw [hRn.out]; rfl, 0, rfl⟩
        · rw [if_neg hc1] at hdr
          have hRn := Lib.hid hdr
          clear hdr
          go_wp2
          go_roundw
          case rel => exact ⟨k + 1, N, by omega, by omega, by go_num, rfl, hNl.out, by trivial, hRn.out.symm⟩
          case measure => simp [intOf]; omega
      · have hk6 : k = l.length := by omega
        have hend := leadGo_end (l := l) (i := k) (acc := A) (by omega)
        have hRn := Lib.hid (show R = none from hRk.out.symm.trans hend)
        go_wp2
        go_ret2
        exact ⟨by rw [hRn.out]; rfl, 0, rfl⟩
  · have h5' : ¬ (l.length : Int) ≤ 5 := by omega
    have h6 : (5 : Int) < (l.length : Int) := by omega
    go_enter Tryz.func238, Tryz.ntmps238
    go_wp2_with fail
    go_loopw [13, 2] (fun i acc wr => ∃ (k A : Nat), k ≤ 5 ∧ k ≤ 5 ∧ i = .int .i64 k ∧ acc = .int .i64 A ∧ A < 128 ^ k ∧ wr = w ∧ leadGo k A (l.drop k) = R) (fun i _ _ => 5 - (intOf i).toNat)
    case atStart => exact ⟨0, 0, by omega, by omega, rfl, rfl, by decide, rfl, hR.out⟩
    case round =>
      obtain ⟨k, A, hk, hk5, rfl, rfl, hA, rfl, hRk⟩ := hrel
      have hRk := Lib.hid hRk
      by_cases hlt : k < 5
      · have hkl : k < l.length := by omega
        obtain ⟨b, o, rfl, hcell⟩ : ∃ b o, a = some ⟨b, o, none⟩ ∧ ∀ j, j < l.length → wr.cell? ⟨b, o + j, none⟩ = some (.int .u8 ((l.getD j 0 : Nat) : Int)) := by
          rcases hb with ⟨_, h0⟩ | h
          · omega
          · exact h
        obtain ⟨c, hcx⟩ : ∃ c, l[k]? = some c := ⟨l[k], by simp [hkl]⟩
        have h0 : wr.cell? ⟨b, o + k, none⟩ = some (.int .u8 (c : Int)) := by
          have := hcell k hkl
          rwa [show l.getD k 0 = c by simp [List.getD, hcx]] at this
        have hc256 := hl c (List.mem_of_getElem? hcx)
        have hdr := leadGo_drop (acc := A) (by omega) hcx
        have hj := joinK (c := c) (k := k) (by omega) hA
        have hNl := joinK_lt (c := c) (k := k) (by omega) hA
        obtain ⟨N, hN⟩ : ∃ N : Nat, N = A + c % 128 * 128 ^ k := ⟨_, rfl⟩
        rw [← hN] at hj hNl hdr
        rw [hRk.out] at hdr
        have hlt2 : (k : Int) < 5 := by omega
        have hlt3 : (k : Int) < (l.length : Int) := by omega
        have hNl := Lib.hid hNl
        have hz0 := Lib.hid (show k = 0 → c < 128 → A = 0 ∧ N = c from fun h h' => by subst h; rw [hN]; omega)
        clear hN hA hcell hcx hb hl
        by_cases hc1 : c < 128
        · rw [if_pos hc1] at hdr
          by_cases hc0 : c = 0 ∧ 0 < k
          · rw [if_pos (.inl hc0)] at hdr
            have hRn := Lib.hid hdr
            clear hdr
            obtain ⟨rfl, hk0⟩ := hc0
            have hkd : decide (0 < k) = true := decide_eq_true hk0
            have hkd2 : decide ((0 : Int) < (k : Int)) = true := decide_eq_true (by omega)
            go_wp2
            go_ret2
            exact ⟨by rw [hRn.out]; rfl, 0, rfl⟩
          · have hcb : ((c : Int) == 0) = false ∨ k = 0 := by
              by_cases h : c = 0
              · exact .inr (by omega)
              · exact .inl (beq_eq_false_iff_ne.2 (by omega))
            by_cases hbig : 4294967295 < N
            · rw [if_pos (.inr hbig)] at hdr
              have hRn := Lib.hid hdr
              clear hdr hc0
              have hbd : decide ((4294967295 : Int) < (N : Int)) = true := decide_eq_true (by omega)
              rcases hcb with hcb | rfl
              · go_wp2
                all_goals go_ret2
                all_goals exact ⟨by rw [hRn.out]; rfl, 0, rfl⟩
              · exfalso
                obtain ⟨_, h2⟩ := hz0.out rfl hc1
                omega
            · rw [if_neg (fun h => h.elim hc0 hbig)] at hdr
              have hRn := Lib.hid hdr
              clear hdr hc0
              have hbd : decide ((4294967295 : Int) < (N : Int)) = false := decide_eq_false (by omega)
              rcases hcb with hcb | rfl
              · go_wp2
                all_goals go_ret2
                all_goals exact ⟨by rw [hRn.out]; rfl, 0, rfl⟩
              · obtain ⟨rfl, rfl⟩ := hz0.out rfl hc1
                have h0' : wr.cell? ⟨b, o, none⟩ = some (.int .u8 (N : Int)) := h0
                have hl0 : (0 : Int) < (l.length : Int) := by omega
                by_cases hcz : N = 0
                · subst hcz
                  have h0' : wr.cell? ⟨b, o, none⟩ = some (.int .u8 0) := h0'
                  have e1 : bits .or .i64 0 0 = 0 := by decide +kernel
                  have e2 : bits .or .i64 0 (wrap64 0) = 0 := by decide +kernel
                  go_wp2
                  all_goals go_ret2
                  all_goals exact ⟨by rw [hRn.out]; rfl, 0, rfl⟩
                · have hcb : ((N : Int) == 0) = false := beq_eq_false_iff_ne.2 (by omega)
                  have e1 := join_0 (N : Int) (by omega) (by omega)
                  have e2 : (N : Int) % 128 = (N : Int) := by omega
                  have e3 : wrap64 (N : Int) = (N : Int) := by unfold wrap64; omega
                  have e4 : wrap64 ((N : Int) % 128) = (N : Int) := by rw [e2]; exact e3
                  have e5 : (N : Int) % 256 = (N : Int) := by omega
                  go_wp2
                  all_goals go_ret2
                  all_goals exact ⟨by rw [hRn.out]; rfl, 0, rfl⟩
        · rw [if_neg hc1] at hdr
          have hRn := Lib.hid hdr
          clear hdr
          go_wp2
          go_roundw
          case rel => exact ⟨k + 1, N, by omega, by omega, by go_num, rfl, hNl.out, by trivial, hRn.out.symm⟩
          case measure => simp [intOf]; omega
      · have hk6 : k = 5 := by omega
        have hend := leadGo_end (l := l) (i := k) (acc := A) (by omega)
        have hRn := Lib.hid (show R = none from hRk.out.symm.trans hend)
        go_wp2
        go_ret2
        exact ⟨by rw [hRn.out]; rfl, 0, rfl⟩
end Go.Ev

/-
  Stage 3: the program's reader of line programs: numbers.
-/
namespace Go.Ev
open Go.RowKit Go.Proofs Go.Rw
theorem wrap_in {z : Int} (h0 : -9223372036854775808 ≤ z) (h1 : z ≤ 9223372036854775807) : wrap64 z = z := by unfold wrap64; omega
/-- The bytes of a program, in a world. -/
def AllAt (W : World) (b o n : Nat) (all : List Nat) : Prop := all.length = n ∧ (∀ x ∈ all, x < 256) ∧ ∀ j, j < n → W.cell? ⟨b, o + j, none⟩ = some (.int .u8 ((all.getD j 0 : Nat) : Int))
def NumR (M p : Nat) (r : Option (Nat × Nat)) (w : World) (e : Ending) (w' : World) : Prop :=
  (r = none ∧ ∃ x y : Int, e = .panicked [fltV x y] ∧ ∃ k, w' = w.drewN k) ∨ (∃ x s : Nat, r = some (x, s) ∧ e = .returned (.int .i64 (x : Int)) ∧ ∃ k, w' = (w.setCell ⟨M, 1, none⟩ (.int .i64 ((p + s : Nat) : Int))).drewN k)
theorem leadF_le {l : List Nat} {x s : Nat} (h : leadF l = some (x, s)) : 0 < s ∧ s ≤ l.length ∧ x ≤ 4294967295 := by
  have := leadGo_le l 0 0 x s h
  omega
set_option maxRecDepth 100000 in
set_option maxHeartbeats 400000 in
theorem upTo_c {w : World} {M b o n c p : Nat} {v : LineT} {tv : Value} {all : List Nat} (h : MacB w M (some ⟨b, o, none⟩) n c (p : Int) v tv) (hA : AllAt w b o n all) (hbM : b ≠ M) (hp : p ≤ n) (hnc : n ≤ c) (hc : n ≤ 140737488351232) :
    Calls Tryz.prog 227 #[.pointer (some ⟨M, 0, none⟩), .int .i64 4294967295] w (NumR M p (leadF (all.drop p)) w) := by
  obtain ⟨c0, c1, -⟩ := h.cells
  have f1 := h.frozen 1
  obtain ⟨a1, a2, a3⟩ := hA
  obtain ⟨R, hR⟩ : ∃ R, R = leadF (all.drop p) := ⟨_, rfl⟩
  rw [← hR]
  have hl := fun (W : World) (a : Option Addr) (c2 : Nat) (hb : BytesAt W a (all.drop p).length (fun j => (((all.drop p).getD j 0 : Nat) : Int))) (hc2 : (all.drop p).length ≤ c2) => lead_c (all.drop p) hb (fun x hx => a2 x (List.mem_of_mem_drop hx)) (by rw [List.length_drop]; omega) hc2
  have hlen : (all.drop p).length = n - p := by rw [List.length_drop, a1]
  rw [← hR, hlen] at hl
  have hpn : (p : Int) ≤ (n : Int) := by omega
  by_cases hcp : c = p
  · subst hcp
    have hnc2 : n = c := by omega
    subst hnc2
    rw [Nat.sub_self] at hl hlen
    obtain rfl : R = none := by rw [hR, List.drop_eq_nil_of_le (by omega)]; rfl
    have hcl := show Calls Tryz.prog 238 #[.slice (some ⟨b, o, none⟩) 0 0] w fun e w' => e = .returned (.tuple #[.int .i64 0, .int .i64 0]) ∧ ∃ k, w' = w.drewN k from hl w _ 0 (.inr ⟨b, o, rfl, fun j hj => by omega⟩) (Nat.le_refl _)
    clear a2 a3 hR hl
    go_enter Tryz.func227, Tryz.ntmps227
    go_wp2_with fail
    refine hcl.mono ?_
    rintro e w1 ⟨rfl, q1, rfl⟩
    go_wp2_with (go_at_call 172; refine (must_no _ _).mono ?_; rintro e w2 ⟨rfl, rfl⟩)
    exact ⟨rfl, .inl ⟨rfl, _, _, rfl, _, rfl⟩⟩
  · have ha3 : ∀ j, j < n - p → w.cell? ⟨b, o + p + j, none⟩ = some (.int .u8 (((all.drop p).getD j 0 : Nat) : Int)) := fun j hj => by
      have := a3 (p + j) (by omega)
      rw [← Nat.add_assoc] at this
      rw [this]
      simp [List.getD, List.getElem?_drop]
    cases R with
    | none =>
      have hcl := show Calls Tryz.prog 238 #[.slice (some ⟨b, o + p, none⟩) (n - p) (c - p)] w fun e w' => e = .returned (.tuple #[.int .i64 0, .int .i64 0]) ∧ ∃ k, w' = w.drewN k from hl w _ _ (.inr ⟨b, o + p, rfl, ha3⟩) (by omega)
      clear a2 a3 hR hl ha3
      go_enter Tryz.func227, Tryz.ntmps227
      go_wp2_with fail
      refine hcl.mono ?_
      rintro e w1 ⟨rfl, q1, rfl⟩
      go_wp2_with (go_at_call 172; refine (must_no _ _).mono ?_; rintro e w2 ⟨rfl, rfl⟩)
      exact ⟨rfl, .inl ⟨rfl, _, _, rfl, _, rfl⟩⟩
    | some r =>
      obtain ⟨x, s⟩ := r
      have hcl := show Calls Tryz.prog 238 #[.slice (some ⟨b, o + p, none⟩) (n - p) (c - p)] w fun e w' => e = .returned (.tuple #[.int .i64 (x : Int), .int .i64 (s : Int)]) ∧ ∃ k, w' = w.drewN k from hl w _ _ (.inr ⟨b, o + p, rfl, ha3⟩) (by omega)
      obtain ⟨hs0, hs1, hx⟩ := leadF_le hR.symm
      rw [hlen] at hs1
      have hsd : decide ((0 : Int) < (s : Int)) = true := decide_eq_true (by omega)
      have hsd2 : decide (0 < s) = true := decide_eq_true (by omega)
      have hxd : decide ((x : Int) ≤ 4294967295) = true := decide_eq_true (by omega)
      obtain ⟨q, hq⟩ : ∃ q : Nat, q = p + s := ⟨_, rfl⟩
      have hw3 : wrap64 ((p : Int) + (s : Int)) = (q : Int) := by rw [wrap_in (by omega) (by omega)]; omega
      have hw4 : (p : Int) + (s : Int) = (q : Int) := by omega
      have hq2 := Lib.hid hq
      clear hq
      clear a2 a3 hR hl ha3
      go_enter Tryz.func227, Tryz.ntmps227
      go_wp2_with fail
      refine hcl.mono ?_
      rintro e w1 ⟨rfl, q1, rfl⟩
      go_wp2_with (go_at_call 172; refine (must_yes _ _).mono ?_; rintro e w2 ⟨rfl, rfl⟩)
      go_ret
      exact .inr ⟨x, s, rfl, rfl, q1, by rw [← hq2.out]; rfl⟩
theorem rnumber_c {w : World} {M b o n c p : Nat} {v : LineT} {tv : Value} {all : List Nat} (h : MacB w M (some ⟨b, o, none⟩) n c (p : Int) v tv) (hA : AllAt w b o n all) (hbM : b ≠ M) (hp : p ≤ n) (hnc : n ≤ c) (hc : n ≤ 140737488351232) :
    Calls Tryz.prog 191 #[.pointer (some ⟨M, 0, none⟩)] w (NumR M p (leadF (all.drop p)) w) := by
  have hu := upTo_c h hA hbM hp hnc hc
  generalize leadF (all.drop p) = R at hu
  clear hA
  go_enter Tryz.func191, Tryz.ntmps191
  go_wp2_with fail
  refine hu.mono ?_
  rintro e w1 (⟨rfl, x, y, rfl, k, rfl⟩ | ⟨x, s, rfl, rfl, k, rfl⟩)
  · go_wp2
    exact ⟨rfl, .inl ⟨rfl, _, _, rfl, _, rfl⟩⟩
  · go_wp2
    go_ret
    exact .inr ⟨x, s, rfl, rfl, k, rfl⟩
def SigR (M p : Nat) (r : Option (Nat × Nat)) (w : World) (e : Ending) (w' : World) : Prop :=
  (r = none ∧ ∃ x y : Int, e = .panicked [fltV x y] ∧ ∃ k, w' = w.drewN k) ∨ (∃ x s : Nat, r = some (x, s) ∧ e = .returned (.int .i64 (unzig x)) ∧ ∃ k, w' = (w.setCell ⟨M, 1, none⟩ (.int .i64 ((p + s : Nat) : Int))).drewN k)
set_option maxRecDepth 100000 in
theorem rsigned_c {w : World} {M b o n c p : Nat} {v : LineT} {tv : Value} {all : List Nat} (h : MacB w M (some ⟨b, o, none⟩) n c (p : Int) v tv) (hA : AllAt w b o n all) (hbM : b ≠ M) (hp : p ≤ n) (hnc : n ≤ c) (hc : n ≤ 140737488351232) :
    Calls Tryz.prog 192 #[.pointer (some ⟨M, 0, none⟩)] w (SigR M p (leadF (all.drop p)) w) := by
  have hu := rnumber_c h hA hbM hp hnc hc
  have hx := fun x s (e : leadF (all.drop p) = some (x, s)) => (leadF_le e).2.2
  generalize leadF (all.drop p) = R at hu hx
  clear hA
  go_enter Tryz.func192, Tryz.ntmps192
  go_wp2_with fail
  refine hu.mono ?_
  rintro e w1 (⟨rfl, x, y, rfl, k, rfl⟩ | ⟨x, s, rfl, rfl, k, rfl⟩)
  · go_wp2
    exact ⟨rfl, .inl ⟨rfl, _, _, rfl, _, rfl⟩⟩
  · have hx := hx x s rfl
    have e0 : (x : Int).tmod 2 = (x : Int) % 2 := Int.tmod_eq_emod_of_nonneg (by omega)
    obtain ⟨z, hz⟩ : ∃ z : Int, z = unzig x := ⟨_, rfl⟩
    by_cases hm : x % 2 = 1
    · have e1 : ((x : Int) % 2 == 1) = true := beq_iff_eq.2 (by omega)
      have hz1 : z = -(((x + 1) / 2 : Nat) : Int) := by rw [hz]; exact if_pos hm
      have e3 : (-((x : Int) + 1)).tdiv 2 = z := by
        rw [Int.neg_tdiv, Int.tdiv_eq_ediv_of_nonneg (by omega)]; omega
      have e4 : wrap64 ((x : Int) + 1) = (x : Int) + 1 := wrap_in (by omega) (by omega)
      have e5 : wrap64 (-((x : Int) + 1)) = -((x : Int) + 1) := wrap_in (by omega) (by omega)
      have e6 : wrap64 z = z := wrap_in (by omega) (by omega)
      have hz := Lib.hid hz
      clear hz1
      go_wp2
      go_ret
      exact .inr ⟨x, s, rfl, by rw [← hz.out]; first | rfl | (show Ending.returned (Value.int IntKind.i64 (wrap64 z)) = _; rw [e6]), k, rfl⟩
    · have e1 : ((x : Int) % 2 == 1) = false := beq_eq_false_iff_ne.2 (by omega)
      have hz1 : z = ((x / 2 : Nat) : Int) := by rw [hz]; exact if_neg hm
      have e3 : (x : Int).tdiv 2 = z := by rw [Int.tdiv_eq_ediv_of_nonneg (by omega)]; omega
      have e6 : wrap64 z = z := wrap_in (by omega) (by omega)
      have hz := Lib.hid hz
      clear hz1
      go_wp2
      go_ret
      exact .inr ⟨x, s, rfl, by rw [← hz.out]; first | rfl | (show Ending.returned (Value.int IntKind.i64 (wrap64 z)) = _; rw [e6]), k, rfl⟩
end Go.Ev

/-
  Stage 3: the program's reader of line programs: the next byte; may an entry be appended?
-/
namespace Go.Ev
open Go.RowKit Go.Proofs Go.Rw
def TkR (M b o p : Nat) (w : World) (e : Ending) (w' : World) : Prop := e = .returned (.slice (some ⟨b, o + p, none⟩) 1 1) ∧ ∃ k, w' = (w.setCell ⟨M, 1, none⟩ (.int .i64 ((p + 1 : Nat) : Int))).drewN k
set_option maxRecDepth 100000 in
set_option maxHeartbeats 400000 in
theorem take1_c {w : World} {M b o n c p : Nat} {v : LineT} {tv : Value} (h : MacB w M (some ⟨b, o, none⟩) n c (p : Int) v tv) (hp : p < n) (hnc : n ≤ c) (hc : n ≤ 140737488351232) :
    Calls Tryz.prog 174 #[.pointer (some ⟨M, 0, none⟩), .int .i64 1] w (TkR M b o p w) := by
  obtain ⟨c0, c1, -⟩ := h.cells
  have f1 := h.frozen 1
  obtain ⟨q, hq⟩ : ∃ q : Nat, q = p + 1 := ⟨_, rfl⟩
  have e1 : (p : Int) + 1 = (q : Int) := by omega
  have e2 : wrap64 ((p : Int) + 1) = (q : Int) := by rw [wrap_in (by omega) (by omega)]; omega
  have e3 : decide ((1 : Int) ≤ (n : Int) - (p : Int)) = true := decide_eq_true (by omega)
  have hq2 := Lib.hid hq
  have hpq : p < q := by omega
  have hqc : q ≤ c := by omega
  have hqc' : (q : Int) ≤ (c : Int) := by omega
  have hpq' : (p : Int) ≤ (q : Int) := by omega
  have hqp : q - p = 1 := by omega
  have hqn : ¬ q = p := by omega
  clear hq
  go_enter Tryz.func174, Tryz.ntmps174
  go_wp2_with (go_at_call 172; refine (must_yes _ _).mono ?_; rintro e w2 ⟨rfl, rfl⟩)
  go_quiet (fail)
  go_wp2
  go_ret
  exact ⟨rfl, _, by rw [← hq2.out]⟩
def flat (tab : List LineT) : List Value := tab.flatMap LineT.cells
theorem flat_len (tab : List LineT) : (flat tab).length = tab.length * 4 := by
  induction tab with
  | nil => rfl
  | cons x l ih =>
    unfold flat at *
    rw [List.flatMap_cons, List.length_append, ih, List.length_cons]
    simp [LineT.cells]
    omega
theorem flat_get : ∀ (tab : List LineT) (k : Nat) (x : LineT), tab[k]? = some x → ∀ (j : Nat) (u : Value), x.cells[j]? = some u → (flat tab)[k * 4 + j]? = some u
  | [], k, x, h, _, _, _ => by simp at h
  | y :: l, 0, x, h, j, u, hj => by
    cases h
    unfold flat
    rw [List.flatMap_cons, Nat.zero_mul, Nat.zero_add, List.getElem?_append_left (by have := (List.getElem?_eq_some_iff.1 hj).1; simpa using this)]
    exact hj
  | y :: l, k + 1, x, h, j, u, hj => by
    have := flat_get l k x (by simpa using h) j u hj
    unfold flat at *
    rw [List.flatMap_cons, List.getElem?_append_right (by simp [LineT.cells]; omega)]
    rw [show (k + 1) * 4 + j - (LineT.cells y).length = k * 4 + j by simp [LineT.cells]; omega]
    exact this
theorem flat_snoc (tab : List LineT) (x : LineT) : flat (tab ++ [x]) = flat tab ++ x.cells := by simp [flat]
theorem rows_of_own {W : World} {base : Nat} {tv : Value} {tab : List LineT} (h : W.ownsRow base 48 4 tv tab.length (flat tab)) : RowsAt W tv LineT.cells 4 tab := by
  rcases h.2 with ⟨rfl, h0⟩ | ⟨g, cap, cur, rfl, _, hg, _⟩
  · have : tab = [] := List.eq_nil_of_length_eq_zero h0
    subst this
    exact ⟨none, 0, rfl, .inl rfl⟩
  · refine ⟨_, cap, rfl, .inr ⟨g, 0, rfl, fun k x hk j u hj => ?_⟩⟩
    have := h.cells (g := g) rfl (k * 4 + j) u (flat_get tab k x hk j u hj)
    rw [cell_add] at this
    rw [Nat.add_assoc]
    exact this
set_option maxRecDepth 100000 in
set_option maxHeartbeats 1000000 in
theorem canApp_c {w : World} {M n c : Nat} {ba : Option Addr} {p : Int} {v : LineT} {tv : Value} {tab : List LineT} (h : MacB w M ba n c p v tv) (hT : RowsAt w tv LineT.cells 4 tab) (hr : ∀ x ∈ tab, RngOk x) (hl : tab.length ≤ 4000) :
    Calls Tryz.prog 193 #[.pointer (some ⟨M, 0, none⟩)] w fun e w' => e = .returned (.bool (canAppB tab v)) ∧ Below w.heap.size w w' := by
  obtain ⟨-, -, c2, c3, c4, c5, c6⟩ := h.cells
  obtain ⟨ta, tc, rfl⟩ := rows_slice hT
  have t2 := fun d os => cell_regrown c2 d os
  have t3 := fun d os => cell_regrown c3 d os
  have t4 := fun d os => cell_regrown c4 d os
  have t5 := fun d os => cell_regrown c5 d os
  have t6 := fun d os => cell_regrown c6 d os
  clear h
  obtain ⟨vs, vo, vf, vl⟩ := v
  dsimp only at c2 c3 c4 c5 t2 t3 t4 t5
  obtain ⟨R, hR⟩ : ∃ R, R = canAppB tab ⟨vs, vo, vf, vl⟩ := ⟨_, rfl⟩
  rw [← hR]
  by_cases k1 : tab.length < 4000
  · have hd1 : decide ((tab.length : Int) < 4000) = true := decide_eq_true (by omega)
    have hent := fun W => entry_c (w := W) vs vo vf vl
    by_cases k2 : EntOk ⟨vs, vo, vf, vl⟩
    · rw [decide_eq_true k2] at hent
      by_cases k3 : tab.length = 0
      · have hRt : R = true := by
          have : tab = [] := List.eq_nil_of_length_eq_zero k3
          rw [hR, this]
          unfold canAppB aheadB
          simp [k2]
        have hRt := Lib.hid hRt
        have hd3 : ((tab.length : Int) == 0) = true := beq_iff_eq.2 (by omega)
        clear hR k2 k3
        go_enter Tryz.func193, Tryz.ntmps193
        go_wp2_with fail
        refine wp_region_quiet_below (by kernel_rfl) (by kernel_rfl) ?_
        repeat (go_big_quiet_step (exact Calls.regrown_of (hent _)))
        refine wpQuiet_nil ?_
        intro _ hw'
        obtain ⟨⟨dq, osq⟩, hw''⟩ := hw'
        subst hw''
        have hb2 := below_regrown w dq osq
        go_wp2
        go_ret
        exact ⟨by rw [hRt.out]; rfl, hb2⟩
      · obtain ⟨y, hy⟩ : ∃ y, tab[tab.length - 1]? = some y := ⟨tab[tab.length - 1], List.getElem?_eq_getElem (by omega)⟩
        have hlast : tab.getLast? = some y := by rw [List.getLast?_eq_getElem?]; exact hy
        have hyr := hr y (List.mem_of_getElem? hy)
        obtain ⟨b, of, rfl⟩ := rows_some2 hT (k := tab.length - 1) (by omega)
        obtain ⟨p0, p1, p2, p3⟩ := rows_line hT hy
        have hd3 : ((tab.length : Int) == 0) = false := beq_eq_false_iff_ne.2 (by omega)
        have hk1 : (0 : Int) < (tab.length : Int) := by omega
        have hkw : wrap64 ((tab.length : Int) - 1) = ((tab.length - 1 : Nat) : Int) := by rw [wrap_in (by omega) (by omega)]; omega
        have hki : (tab.length : Int) - 1 = ((tab.length - 1 : Nat) : Int) := by omega
        have hkl : ((tab.length - 1 : Nat) : Int) < (tab.length : Int) := by omega
        obtain ⟨ys, yo, yf, yl⟩ := y
        unfold RngOk at hyr
        have hvr := k2.1
        unfold RngOk at hvr
        dsimp only at p0 p1 p2 p3 hyr hvr
        have u0 := fun d os => cell_regrown p0 d os
        have u1 := fun d os => cell_regrown p1 d os
        have u2 := fun d os => cell_regrown p2 d os
        have u3 := fun d os => cell_regrown p3 d os
        by_cases k4 : ys < vs ∨ (ys = vs ∧ yo + 1 ≤ vo)
        · have hRt : R = true := by
            rw [hR]
            unfold canAppB aheadB
            rw [hlast]
            simp only [Bool.and_eq_true, decide_eq_true_eq]
            exact ⟨k1, k2, by omega⟩
          have hRt := Lib.hid hRt
          clear hR k2 hlast hy
          go_enter Tryz.func193, Tryz.ntmps193
          go_wp2_with fail
          refine wp_region_quiet_below (by kernel_rfl) (by kernel_rfl) ?_
          repeat (go_big_quiet_step (first | exact Calls.regrown_of (hent _) | exact Calls.regrown_of (startOf_c _ _ _ _) | exact Calls.regrown_of (ahead_yes k4 (by omega) (by omega))))
          refine wpQuiet_nil ?_
          intro _ hw'
          obtain ⟨⟨dq, osq⟩, hw''⟩ := hw'
          subst hw''
          have hb2 := below_regrown w dq osq
          go_wp2
          go_ret
          exact ⟨by rw [hRt.out]; rfl, hb2⟩
        · have hRt : R = false := by
            rw [hR]
            unfold canAppB aheadB
            rw [hlast]
            rw [← Bool.not_eq_true]
            simp only [Bool.and_eq_true, decide_eq_true_eq]
            rintro ⟨_, _, h⟩
            exact k4 (by omega)
          have hRt := Lib.hid hRt
          clear hR k2 hlast hy
          go_enter Tryz.func193, Tryz.ntmps193
          go_wp2_with fail
          refine wp_region_quiet_below (by kernel_rfl) (by kernel_rfl) ?_
          repeat (go_big_quiet_step (first | exact Calls.regrown_of (hent _) | exact Calls.regrown_of (startOf_c _ _ _ _) | exact Calls.regrown_of (ahead_no k4 (by omega) (by omega))))
          refine wpQuiet_nil ?_
          intro _ hw'
          obtain ⟨⟨dq, osq⟩, hw''⟩ := hw'
          subst hw''
          have hb2 := below_regrown w dq osq
          go_wp2
          go_ret
          exact ⟨by rw [hRt.out]; rfl, hb2⟩
    · rw [decide_eq_false k2] at hent
      have hRt := Lib.hid (show R = false by rw [hR]; unfold canAppB; simp [k2])
      clear hR k2
      go_enter Tryz.func193, Tryz.ntmps193
      go_wp2_with fail
      refine wp_region_quiet_below (by kernel_rfl) (by kernel_rfl) ?_
      repeat (go_big_quiet_step (exact Calls.regrown_of (hent _)))
      refine wpQuiet_nil ?_
      intro _ hw'
      obtain ⟨⟨dq, osq⟩, hw''⟩ := hw'
      subst hw''
      have hb2 := below_regrown w dq osq
      go_wp2
      go_ret
      exact ⟨by rw [hRt.out]; rfl, hb2⟩
  · have hd1 : decide ((tab.length : Int) < 4000) = false := decide_eq_false (by omega)
    have hRt := Lib.hid (show R = false by rw [hR]; unfold canAppB; simp [k1])
    clear hR
    go_enter Tryz.func193, Tryz.ntmps193
    go_wp2_with fail
    refine wp_region_quiet_below (by kernel_rfl) (by kernel_rfl) ?_
    repeat (go_big_quiet_step (fail))
    refine wpQuiet_nil ?_
    intro _ hw'
    obtain ⟨⟨dq, osq⟩, hw''⟩ := hw'
    subst hw''
    have hb2 := below_regrown w dq osq
    go_wp2
    go_ret
    exact ⟨by rw [hRt.out]; rfl, hb2⟩
end Go.Ev

