import Derived.Lib.EndianBits
set_option linter.unusedSectionVars false
set_option linter.unusedVariables false
set_option linter.unusedSimpArgs false
/-
  Bits of an int64: bytes joined, numbers masked.
-/
namespace Go.Ev
theorem wraps_i64 (n : Int) (h₀ : 0 ≤ n) (h₁ : n < 2 ^ 63) : IntKind.i64.wrap n = n := by rw [IntKind.wrap_i64]; omega
theorem or_i64_0 (y : Int) (h0 : 0 ≤ y) (h1 : y < 256) : bits .or .i64 0 y = y := by
  have := bits_join_low .i64 63 (by decide) wraps_i64 0 0 y (by decide) (by decide) (by decide) h0 (by omega) (by omega)
  omega
theorem or_i64_8 (V : Int) : bits .or .i64 (V % 256) (V / 256 % 256 * 256) = V % 65536 := by
  rw [bits_join_low .i64 63 (by decide) wraps_i64 8 (V % 256) (V / 256 % 256 * 256) (by omega) (by omega) (by omega) (by omega) (by omega) (by omega)]
  omega
theorem or_i64_16 (V : Int) : bits .or .i64 (V % 65536) (V / 65536 % 256 * 65536) = V % 16777216 := by
  rw [bits_join_low .i64 63 (by decide) wraps_i64 16 (V % 65536) (V / 65536 % 256 * 65536) (by omega) (by omega) (by omega) (by omega) (by omega) (by omega)]
  omega
theorem or_i64_24 (V : Int) : bits .or .i64 (V % 16777216) (V / 16777216 % 256 * 16777216) = V % 4294967296 := by
  rw [bits_join_low .i64 63 (by decide) wraps_i64 24 (V % 16777216) (V / 16777216 % 256 * 16777216) (by omega) (by omega) (by omega) (by omega) (by omega) (by omega)]
  omega
theorem and_i64_8 (x : Int) : bits .and .i64 x 255 = x % 256 := by
  have h : (x % (2 : Int) ^ 64).toNat &&& 255 = (x % (2 : Int) ^ 64).toNat % 256 := Nat.and_two_pow_sub_one_eq_mod _ 8
  have e : (BitVec.ofInt 64 255).toNat = 255 := by decide
  have e2 : (BitVec.ofInt 64 x).toNat = (x % (2 : Int) ^ 64).toNat := by simp [BitVec.toNat_ofInt]
  show IntKind.i64.wrap ((BitVec.ofInt 64 x &&& BitVec.ofInt 64 255).toNat : Int) = _
  rw [BitVec.toNat_and, e, e2, h, wraps_i64 _ (by omega) (by omega)]
  omega
theorem and_i64_16 (x : Int) : bits .and .i64 x 65535 = x % 65536 := by
  have h : (x % (2 : Int) ^ 64).toNat &&& 65535 = (x % (2 : Int) ^ 64).toNat % 65536 := Nat.and_two_pow_sub_one_eq_mod _ 16
  have e : (BitVec.ofInt 64 65535).toNat = 65535 := by decide
  have e2 : (BitVec.ofInt 64 x).toNat = (x % (2 : Int) ^ 64).toNat := by simp [BitVec.toNat_ofInt]
  show IntKind.i64.wrap ((BitVec.ofInt 64 x &&& BitVec.ofInt 64 65535).toNat : Int) = _
  rw [BitVec.toNat_and, e, e2, h, wraps_i64 _ (by omega) (by omega)]
  omega
theorem and_i64_32 (x : Int) : bits .and .i64 x 4294967295 = x % 4294967296 := by
  have h : (x % (2 : Int) ^ 64).toNat &&& 4294967295 = (x % (2 : Int) ^ 64).toNat % 4294967296 := Nat.and_two_pow_sub_one_eq_mod _ 32
  have e : (BitVec.ofInt 64 4294967295).toNat = 4294967295 := by decide
  have e2 : (BitVec.ofInt 64 x).toNat = (x % (2 : Int) ^ 64).toNat := by simp [BitVec.toNat_ofInt]
  show IntKind.i64.wrap ((BitVec.ofInt 64 x &&& BitVec.ofInt 64 4294967295).toNat : Int) = _
  rw [BitVec.toNat_and, e, e2, h, wraps_i64 _ (by omega) (by omega)]
  omega
end Go.Ev
