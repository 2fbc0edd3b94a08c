import Derived.Test.YtmiccmelipbakaaGreatDoorProg
import Derived.Lib.SmallJoins
import Derived.WalkKit
import Derived.ProofKit
import Derived.OpenShut
import Derived.Carry
set_option linter.unusedSectionVars false
set_option linter.unusedVariables false
set_option linter.unusedSimpArgs false
/-
  An instruction as an argument: its seven numbers; and what the arguments read as behind a call that adds blocks alone.
-/
namespace Go.Ev
open Go.ChangeShapes Go.WideShapes Go.ChangeAt Go.RowKit Go.Proofs

/-- An instruction, as a value. -/
def insnV (op a b c d k i : Int) : Value := .agg #[.int .i64 op, .int .i64 a, .int .i64 b, .int .i64 c, .int .i64 d, .int .i64 k, .int .u32 i]
def inI64 (n : Int) : Prop := -9223372036854775808 ≤ n ∧ n ≤ 9223372036854775807
def inU32 (n : Int) : Prop := 0 ≤ n ∧ n ≤ 4294967295
theorem inI64_wf {n : Int} (h : (Lit.int .i64 n).wf = true) : inI64 n := by
  simpa [Lit.wf, IntKind.min, IntKind.max, IntKind.signed, IntKind.bits, inI64] using h
theorem inU32_wf {n : Int} (h : (Lit.int .u32 n).wf = true) : inU32 n := by
  simpa [Lit.wf, IntKind.min, IntKind.max, IntKind.signed, IntKind.bits, inU32] using h
theorem array7 {α : Type} {cs : Array α} (h : cs.size = 7) : ∃ c0 c1 c2 c3 c4 c5 c6, cs = #[c0, c1, c2, c3, c4, c5, c6] := by
  obtain ⟨l⟩ := cs
  match l, h with
  | [c0, c1, c2, c3, c4, c5, c6], _ => exact ⟨c0, c1, c2, c3, c4, c5, c6, rfl⟩
section
variable {H : Type} {enc : TypeId × Value → H} {w : World} {base : Nat} {spare : Nat → Bool} {held : Bool}
theorem one_int {fuel : Nat} {t : TypeId} {k : IntKind} {v : Value} {y : DataW H × List MemPlace} (ht : Tryz.prog.underlying t = some (.int k)) (h : DataW.trod enc Tryz.prog w base spare held fuel t [v] = some y) :
    ∃ n, v = .int k n ∧ (Lit.int k n).wf = true := by
  obtain ⟨n, h1, _, h3⟩ := DataW.trod_int ht h
  simp only [List.cons.injEq, and_true] at h1
  exact ⟨n, h1, h3⟩
theorem cells24 : Tryz.prog.cellsOf 24 = 7 := by kernel_rfl
theorem cells3 : Tryz.prog.cellsOf 3 = 1 := by kernel_rfl
theorem cells22 : Tryz.prog.cellsOf 22 = 1 := by kernel_rfl
set_option maxRecDepth 100000 in
theorem open_insn {r : Reach} {b0 : Nat} {v : Value} {d : DataW H} {p : List MemPlace} (hv : Value.okWide Tryz.prog w r b0 24 v) (h : DataW.Trod enc Tryz.prog w base spare held 24 v d p) :
    ∃ o x0 x1 x2 x3 x4 x5, v = insnV o x0 x1 x2 x3 x4 x5 ∧ inI64 o ∧ inI64 x0 ∧ inI64 x1 ∧ inI64 x2 ∧ inI64 x3 ∧ inI64 x4 ∧ inU32 x5 := by
  obtain ⟨cs, rfl, hsz⟩ := okWide_struct Tryz.underlying24 hv
  obtain ⟨c0, c1, c2, c3, c4, c5, c6, rfl⟩ := array7 (hsz.trans cells24)
  obtain ⟨fuel, hf⟩ := h
  obtain ⟨xs, n, _, _, _, hlen, hel⟩ := DataW.trod_struct Tryz.underlying24 hf
  match xs, hlen with
  | [y0, y1, y2, y3, y4, y5, y6], _ =>
    have h0 := hel 0 _ rfl
    have h1 := hel 1 _ rfl
    have h2 := hel 2 _ rfl
    have h3 := hel 3 _ rfl
    have h4 := hel 4 _ rfl
    have h5 := hel 5 _ rfl
    have h6 := hel 6 _ rfl
    simp only [cells3, cells22, Value.cells] at h0 h1 h2 h3 h4 h5 h6
    obtain ⟨n0, rfl, w0⟩ := one_int Tryz.underlying3 (show DataW.trod _ _ _ _ _ _ n 3 [c0] = some y0 from h0)
    obtain ⟨n1, rfl, w1⟩ := one_int Tryz.underlying3 (show DataW.trod _ _ _ _ _ _ n 3 [c1] = some y1 from h1)
    obtain ⟨n2, rfl, w2⟩ := one_int Tryz.underlying3 (show DataW.trod _ _ _ _ _ _ n 3 [c2] = some y2 from h2)
    obtain ⟨n3, rfl, w3⟩ := one_int Tryz.underlying3 (show DataW.trod _ _ _ _ _ _ n 3 [c3] = some y3 from h3)
    obtain ⟨n4, rfl, w4⟩ := one_int Tryz.underlying3 (show DataW.trod _ _ _ _ _ _ n 3 [c4] = some y4 from h4)
    obtain ⟨n5, rfl, w5⟩ := one_int Tryz.underlying3 (show DataW.trod _ _ _ _ _ _ n 3 [c5] = some y5 from h5)
    obtain ⟨n6, rfl, w6⟩ := one_int Tryz.underlying22 (show DataW.trod _ _ _ _ _ _ n 22 [c6] = some y6 from h6)
    exact ⟨n0, n1, n2, n3, n4, n5, n6, rfl, inI64_wf w0, inI64_wf w1, inI64_wf w2, inI64_wf w3, inI64_wf w4, inI64_wf w5, inU32_wf w6⟩
end
/-- Arguments read behind the call as they read before it. -/
theorem trodAll_below {H : Type} {enc : TypeId × Value → H} {P : Program} (hl : laidOutB P = true) {W W' : World} (hb : Below W.heap.size W W') :
    ∀ {ts : List TypeId} {vs : List Value} {ds : List (DataW H)} {ps : List MemPlace}, (ts.all fun t => P.readableRec t && decide (t < P.types.size)) = true → DataW.TrodAll enc P W 0 (fun _ => true) true ts vs ds ps →
      DataW.TrodAll enc P W' 0 (fun b => decide (b < W.heap.size)) true ts vs ds ps
  | [], _, _, _, _, h => by
    obtain ⟨rfl, rfl, rfl⟩ := trodAll_nil h
    exact trodAll_mk0
  | t :: ts, _, _, _, ht, h => by
    have hlt := DataW.TrodAll.lt h
    obtain ⟨v, vs, d, ds, p, q, rfl, rfl, rfl, h1, h2⟩ := trodAll_cons h
    simp only [List.all_cons, Bool.and_eq_true, decide_eq_true_eq] at ht
    exact trodAll_cons_mk (Below.trod hl ht.1.1 ht.1.2 h1 hb fun x hx => hlt x (List.mem_append_left _ hx)) (trodAll_below hl hb (by simpa using ht.2) h2)
end Go.Ev
