import Derived.Test.YtepopmplcjhfbaaGreatObRow
import Derived.Test.YtepopmplcjhfbaaGreatObBase
import Derived.Lib.SmallJoins
import Derived.WalkKit
set_option linter.unusedSectionVars false
set_option linter.unusedVariables false
set_option linter.unusedSimpArgs false
set_option linter.unnecessarySimpa false
/-
  Stage 3: an object as an argument.
-/
namespace Go.Ev
open Go.ChangeShapes Go.WideShapes Go.ChangeAt Go.RowKit Go.Proofs Go.Deep Go.Rw
def inI64 (n : Int) : Prop := -9223372036854775808 ≤ n ∧ n ≤ 9223372036854775807
def inU32 (n : Int) : Prop := 0 ≤ n ∧ n ≤ 4294967295
theorem inI64_wf {n : Int} (h : (Lit.int .i64 n).wf = true) : inI64 n := by
  simpa [Lit.wf, IntKind.min, IntKind.max, IntKind.signed, IntKind.bits, inI64] using h
theorem inU32_wf {n : Int} (h : (Lit.int .u32 n).wf = true) : inU32 n := by
  simpa [Lit.wf, IntKind.min, IntKind.max, IntKind.signed, IntKind.bits, inU32] using h
structure SecT where
  name : ByteArray
  rights : Int
  align : Int
  ba : Option Addr
  bn : Nat
  bc : Nat
  zero : Int
structure SymT where
  name : ByteArray
  sec : Int
  val : Int
  size : Int
  bind : Int
  kind : Int
structure RelT where
  sec : Int
  off : Int
  kind : Int
  sym : Int
  add : Int
structure LineT where
  sec : Int
  off : Int
  file : Int
  line : Int
instance : Inhabited SecT := ⟨⟨⟨#[]⟩, 0, 0, none, 0, 0, 0⟩⟩
instance : Inhabited SymT := ⟨⟨⟨#[]⟩, 0, 0, 0, 0, 0⟩⟩
instance : Inhabited RelT := ⟨⟨0, 0, 0, 0, 0⟩⟩
instance : Inhabited LineT := ⟨⟨0, 0, 0, 0⟩⟩
def SecT.cells (s : SecT) : List Value := [.string s.name, .int .i64 s.rights, .int .i64 s.align, .slice s.ba s.bn s.bc, .int .i64 s.zero]
def SymT.cells (s : SymT) : List Value := [.string s.name, .int .i64 s.sec, .int .u32 s.val, .int .i64 s.size, .int .i64 s.bind, .int .i64 s.kind]
def RelT.cells (s : RelT) : List Value := [.int .i64 s.sec, .int .i64 s.off, .int .i64 s.kind, .int .i64 s.sym, .int .i64 s.add]
def LineT.cells (s : LineT) : List Value := [.int .i64 s.sec, .int .i64 s.off, .int .i64 s.file, .int .i64 s.line]
def fileCells (s : ByteArray) : List Value := [.string s]
def SecT.R (s : SecT) : Prop := inI64 s.rights ∧ inI64 s.align ∧ s.bn ≤ 140737488351232 ∧ inI64 s.zero ∧ s.name.size ≤ 140737488351232
def SymT.R (s : SymT) : Prop := inI64 s.sec ∧ inU32 s.val ∧ inI64 s.size ∧ inI64 s.bind ∧ inI64 s.kind ∧ s.name.size ≤ 140737488351232
def RelT.R (s : RelT) : Prop := inI64 s.sec ∧ inI64 s.off ∧ inI64 s.kind ∧ inI64 s.sym ∧ inI64 s.add
def LineT.R (s : LineT) : Prop := inI64 s.sec ∧ inI64 s.off ∧ inI64 s.file ∧ inI64 s.line
def fileR (s : ByteArray) : Prop := s.size ≤ 140737488351232
structure ObjT where
  secs : List SecT
  syms : List SymT
  rels : List RelT
  files : List ByteArray
  lines : List LineT
def ObjT.R (o : ObjT) : Prop := (∀ s ∈ o.secs, s.R) ∧ (∀ s ∈ o.syms, s.R) ∧ (∀ s ∈ o.rels, s.R) ∧ (∀ s ∈ o.files, fileR s) ∧ (∀ s ∈ o.lines, s.R) ∧
  o.secs.length ≤ 140737488351232 ∧ o.syms.length ≤ 140737488351232 ∧ o.rels.length ≤ 140737488351232 ∧ o.files.length ≤ 140737488351232 ∧ o.lines.length ≤ 140737488351232
/-- An object in a world. -/
def ObjAt (W : World) (v : Value) (o : ObjT) : Prop := ∃ s1 s2 s3 s4 s5, v = .agg #[s1, s2, s3, s4, s5] ∧ RowsAt W s1 SecT.cells 5 o.secs ∧ RowsAt W s2 SymT.cells 6 o.syms ∧ RowsAt W s3 RelT.cells 5 o.rels ∧ RowsAt W s4 fileCells 1 o.files ∧ RowsAt W s5 LineT.cells 4 o.lines
theorem ObjAt.below {W W' : World} {v : Value} {o : ObjT} (h : ObjAt W v o) (hb : Below W.heap.size W W') : ObjAt W' v o := by
  obtain ⟨s1, s2, s3, s4, s5, rfl, h1, h2, h3, h4, h5⟩ := h
  exact ⟨s1, s2, s3, s4, s5, rfl, h1.below hb, h2.below hb, h3.below hb, h4.below hb, h5.below hb⟩
theorem cells3 : Tryz.prog.cellsOf 3 = 1 := by kernel_rfl
theorem cells9 : Tryz.prog.cellsOf 9 = 1 := by kernel_rfl
theorem cells38 : Tryz.prog.cellsOf 38 = 1 := by kernel_rfl
theorem cells34 : Tryz.prog.cellsOf 34 = 1 := by kernel_rfl
theorem cells22 : Tryz.prog.cellsOf 22 = 1 := by kernel_rfl
theorem cells23 : Tryz.prog.cellsOf 23 = 1 := by kernel_rfl
theorem cells24 : Tryz.prog.cellsOf 24 = 1 := by kernel_rfl
theorem cells25 : Tryz.prog.cellsOf 25 = 1 := by kernel_rfl
theorem cells26 : Tryz.prog.cellsOf 26 = 1 := by kernel_rfl
theorem cells66 : Tryz.prog.cellsOf 66 = 5 := by kernel_rfl
theorem cells68 : Tryz.prog.cellsOf 68 = 6 := by kernel_rfl
theorem cells94 : Tryz.prog.cellsOf 94 = 5 := by kernel_rfl
theorem cells48 : Tryz.prog.cellsOf 48 = 4 := by kernel_rfl
theorem cells28 : Tryz.prog.cellsOf 28 = 5 := by kernel_rfl
theorem bytes5' : Tryz.prog.bytesOf 5 = 1 := by kernel_rfl
section
variable {H : Type} {enc : TypeId × Value → H} {w : World} {n : Nat}
abbrev Rd (enc : TypeId × Value → H) (w : World) (n : Nat) (t : TypeId) (cs : List Value) (y : DataW H × List MemPlace) : Prop := DataW.trod enc Tryz.prog w 0 (fun _ => true) true n t cs = some y
theorem one_int {t : TypeId} {k : IntKind} {v : Value} {y : DataW H × List MemPlace} (ht : Tryz.prog.underlying t = some (.int k)) (h : Rd enc w n t [v] y) : ∃ z, v = .int k z ∧ (Lit.int k z).wf = true := by
  obtain ⟨z, h1, _, h3⟩ := DataW.trod_int ht h
  simp only [List.cons.injEq, and_true] at h1
  exact ⟨z, h1, h3⟩
theorem one_str {v : Value} {y : DataW H × List MemPlace} (h : Rd enc w n 9 [v] y) (hw : ∀ k ∈ y.1.weights Tryz.prog 9, k ≤ reachBytes) : ∃ s : ByteArray, v = .string s ∧ s.size ≤ 140737488351232 := by
  obtain ⟨s, h1, h2, h3⟩ := DataW.trod_string Tryz.underlying9 h
  simp only [List.cons.injEq, and_true] at h1
  refine ⟨s, h1, ?_⟩
  have := hw s.data.toList.length (by rw [h2]; simp [DataW.weights])
  simpa [reachBytes] using this
theorem one_bytes {v : Value} {y : DataW H × List MemPlace} (h : Rd enc w n 34 [v] y) (hw : ∀ k ∈ y.1.weights Tryz.prog 34, k ≤ reachBytes) : ∃ a len c, v = .slice a len c ∧ len ≤ 140737488351232 := by
  rcases open_slice Tryz.underlying34 h with ⟨hcs, _⟩ | ⟨a, len, cap, m, n, D, Pl, hcs, _, hl, hm, hmm, rfl, hx⟩
  · exact ⟨none, 0, 0, by simpa using hcs, by omega⟩
  · refine ⟨some a, len, cap, by simpa using hcs, ?_⟩
    simp only [if_true] at hmm
    subst hmm
    have := hw ((len + (m - len)) * Tryz.prog.bytesOf 5) (by simp [DataW.weights, Tryz.underlying34])
    rw [bytes5'] at this
    unfold reachBytes at this
    omega
set_option maxRecDepth 100000 in
theorem read_line {cs : List Value} {y : DataW H × List MemPlace} (hl : cs.length = 4) (h : Rd enc w n 48 cs y) : ∃ x : LineT, cs = x.cells ∧ x.R := by
  match cs, hl with
  | [c0, c1, c2, c3], _ =>
    obtain ⟨xs, n, _, rfl, _, hlen, hel⟩ := DataW.trod_struct Tryz.underlying48 h
    match xs, hlen with
    | [y0, y1, y2, y3], _ =>
      have h0 := hel 0 _ rfl
      have h1 := hel 1 _ rfl
      have h2 := hel 2 _ rfl
      have h3 := hel 3 _ rfl
      (try simp only [cells3] at h0); (try simp only [cells3] at h1); (try simp only [cells3] at h2); (try simp only [cells3] at h3)
      obtain ⟨n0, rfl, w0⟩ := one_int Tryz.underlying3 (show Rd enc w n 3 [c0] y0 from h0)
      obtain ⟨n1, rfl, w1⟩ := one_int Tryz.underlying3 (show Rd enc w n 3 [c1] y1 from h1)
      obtain ⟨n2, rfl, w2⟩ := one_int Tryz.underlying3 (show Rd enc w n 3 [c2] y2 from h2)
      obtain ⟨n3, rfl, w3⟩ := one_int Tryz.underlying3 (show Rd enc w n 3 [c3] y3 from h3)
      exact ⟨⟨n0, n1, n2, n3⟩, rfl, inI64_wf w0, inI64_wf w1, inI64_wf w2, inI64_wf w3⟩
set_option maxRecDepth 100000 in
theorem read_rel {cs : List Value} {y : DataW H × List MemPlace} (hl : cs.length = 5) (h : Rd enc w n 94 cs y) : ∃ x : RelT, cs = x.cells ∧ x.R := by
  match cs, hl with
  | [c0, c1, c2, c3, c4], _ =>
    obtain ⟨xs, n, _, rfl, _, hlen, hel⟩ := DataW.trod_struct Tryz.underlying94 h
    match xs, hlen with
    | [y0, y1, y2, y3, y4], _ =>
      have h0 := hel 0 _ rfl
      have h1 := hel 1 _ rfl
      have h2 := hel 2 _ rfl
      have h3 := hel 3 _ rfl
      have h4 := hel 4 _ rfl
      (try simp only [cells3] at h0); (try simp only [cells3] at h1); (try simp only [cells3] at h2); (try simp only [cells3] at h3); (try simp only [cells3] at h4)
      obtain ⟨n0, rfl, w0⟩ := one_int Tryz.underlying3 (show Rd enc w n 3 [c0] y0 from h0)
      obtain ⟨n1, rfl, w1⟩ := one_int Tryz.underlying3 (show Rd enc w n 3 [c1] y1 from h1)
      obtain ⟨n2, rfl, w2⟩ := one_int Tryz.underlying3 (show Rd enc w n 3 [c2] y2 from h2)
      obtain ⟨n3, rfl, w3⟩ := one_int Tryz.underlying3 (show Rd enc w n 3 [c3] y3 from h3)
      obtain ⟨n4, rfl, w4⟩ := one_int Tryz.underlying3 (show Rd enc w n 3 [c4] y4 from h4)
      exact ⟨⟨n0, n1, n2, n3, n4⟩, rfl, inI64_wf w0, inI64_wf w1, inI64_wf w2, inI64_wf w3, inI64_wf w4⟩
set_option maxRecDepth 100000 in
theorem read_sec {cs : List Value} {y : DataW H × List MemPlace} (hl : cs.length = 5) (h : Rd enc w n 66 cs y) (hw : ∀ k ∈ y.1.weights Tryz.prog 66, k ≤ reachBytes) : ∃ x : SecT, cs = x.cells ∧ x.R := by
  match cs, hl with
  | [c0, c1, c2, c3, c4], _ =>
    obtain ⟨xs, n, _, rfl, _, hlen, hel⟩ := DataW.trod_struct Tryz.underlying66 h
    match xs, hlen with
    | [y0, y1, y2, y3, y4], _ =>
      have h0 := hel 0 _ rfl
      have h1 := hel 1 _ rfl
      have h2 := hel 2 _ rfl
      have h3 := hel 3 _ rfl
      have h4 := hel 4 _ rfl
      have w0 := fun k hk => hw k (weights_field Tryz.underlying66 (i := 0) rfl (d := y0.1) rfl k hk)
      have w3 := fun k hk => hw k (weights_field Tryz.underlying66 (i := 3) rfl (d := y3.1) rfl k hk)
      (try simp only [cells9] at h0); (try simp only [cells3] at h1); (try simp only [cells3] at h2); (try simp only [cells34] at h3); (try simp only [cells3] at h4)
      obtain ⟨n0, rfl, w0⟩ := one_str (show Rd enc w n 9 [c0] y0 from h0) w0
      obtain ⟨n1, rfl, w1⟩ := one_int Tryz.underlying3 (show Rd enc w n 3 [c1] y1 from h1)
      obtain ⟨n2, rfl, w2⟩ := one_int Tryz.underlying3 (show Rd enc w n 3 [c2] y2 from h2)
      obtain ⟨a3, n3, m3, rfl, w3⟩ := one_bytes (show Rd enc w n 34 [c3] y3 from h3) w3
      obtain ⟨n4, rfl, w4⟩ := one_int Tryz.underlying3 (show Rd enc w n 3 [c4] y4 from h4)
      exact ⟨⟨n0, n1, n2, a3, n3, m3, n4⟩, rfl, inI64_wf w1, inI64_wf w2, w3, inI64_wf w4, w0⟩
set_option maxRecDepth 100000 in
theorem read_sym {cs : List Value} {y : DataW H × List MemPlace} (hl : cs.length = 6) (h : Rd enc w n 68 cs y) (hw : ∀ k ∈ y.1.weights Tryz.prog 68, k ≤ reachBytes) : ∃ x : SymT, cs = x.cells ∧ x.R := by
  match cs, hl with
  | [c0, c1, c2, c3, c4, c5], _ =>
    obtain ⟨xs, n, _, rfl, _, hlen, hel⟩ := DataW.trod_struct Tryz.underlying68 h
    match xs, hlen with
    | [y0, y1, y2, y3, y4, y5], _ =>
      have h0 := hel 0 _ rfl
      have h1 := hel 1 _ rfl
      have h2 := hel 2 _ rfl
      have h3 := hel 3 _ rfl
      have h4 := hel 4 _ rfl
      have h5 := hel 5 _ rfl
      have w0 := fun k hk => hw k (weights_field Tryz.underlying68 (i := 0) rfl (d := y0.1) rfl k hk)
      (try simp only [cells9] at h0); (try simp only [cells3] at h1); (try simp only [cells38] at h2); (try simp only [cells3] at h3); (try simp only [cells3] at h4); (try simp only [cells3] at h5)
      obtain ⟨n0, rfl, w0⟩ := one_str (show Rd enc w n 9 [c0] y0 from h0) w0
      obtain ⟨n1, rfl, w1⟩ := one_int Tryz.underlying3 (show Rd enc w n 3 [c1] y1 from h1)
      obtain ⟨n2, rfl, w2⟩ := one_int Tryz.underlying38 (show Rd enc w n 38 [c2] y2 from h2)
      obtain ⟨n3, rfl, w3⟩ := one_int Tryz.underlying3 (show Rd enc w n 3 [c3] y3 from h3)
      obtain ⟨n4, rfl, w4⟩ := one_int Tryz.underlying3 (show Rd enc w n 3 [c4] y4 from h4)
      obtain ⟨n5, rfl, w5⟩ := one_int Tryz.underlying3 (show Rd enc w n 3 [c5] y5 from h5)
      exact ⟨⟨n0, n1, n2, n3, n4, n5⟩, rfl, inI64_wf w1, inU32_wf w2, inI64_wf w3, inI64_wf w4, inI64_wf w5, w0⟩
end
end Go.Ev

/-
  Stage 3: an object as an argument, opened.
-/
namespace Go.Ev
open Go.ChangeShapes Go.WideShapes Go.ChangeAt Go.RowKit Go.Proofs Go.Deep Go.Rw
theorem bytes66 : 1 ≤ Tryz.prog.bytesOf 66 := by rw [show Tryz.prog.bytesOf 66 = 64 by kernel_rfl]; omega
theorem bytes68 : 1 ≤ Tryz.prog.bytesOf 68 := by rw [show Tryz.prog.bytesOf 68 = 56 by kernel_rfl]; omega
theorem bytes94 : 1 ≤ Tryz.prog.bytesOf 94 := by rw [show Tryz.prog.bytesOf 94 = 40 by kernel_rfl]; omega
theorem bytes48 : 1 ≤ Tryz.prog.bytesOf 48 := by rw [show Tryz.prog.bytesOf 48 = 32 by kernel_rfl]; omega
theorem bytes9 : 1 ≤ Tryz.prog.bytesOf 9 := by rw [show Tryz.prog.bytesOf 9 = 16 by kernel_rfl]; omega
theorem len_le {n b : Nat} (hb : 1 ≤ b) (h : n * b ≤ reachBytes) : n ≤ 140737488351232 := by
  have : n * 1 ≤ n * b := Nat.mul_le_mul_left n hb
  unfold reachBytes at h
  omega
set_option maxRecDepth 100000 in
/-- An object as an argument. -/
theorem open_obj {H : Type} {enc : TypeId × Value → H} {W : World} {r : Go.Reach} {b0 : Nat} {v : Value} {d : DataW H} {p : List MemPlace} (hv : Value.okWide Tryz.prog W r b0 28 v) (h : DataW.Trod enc Tryz.prog W 0 (fun _ => true) true 28 v d p)
    (hw : ∀ k ∈ d.weights Tryz.prog 28, k ≤ reachBytes) : ∃ o : ObjT, ObjAt W v o ∧ o.R := by
  obtain ⟨cs, rfl, hsz⟩ := okWide_struct Tryz.underlying28 hv
  obtain ⟨l⟩ := cs
  have hsz : l.length = 5 := hsz.trans cells28
  obtain ⟨fuel, hf⟩ := h
  obtain ⟨xs, n, _, hd, _, hlen, hel⟩ := DataW.trod_struct Tryz.underlying28 hf
  match l, hsz, xs, hlen with
  | [c0, c1, c2, c3, c4], _, [y0, y1, y2, y3, y4], _ =>
    obtain rfl : d = .agg [y0.1, y1.1, y2.1, y3.1, y4.1] := (Prod.mk.inj hd).1
    have h0 := hel 0 _ rfl
    have h1 := hel 1 _ rfl
    have h2 := hel 2 _ rfl
    have h3 := hel 3 _ rfl
    have h4 := hel 4 _ rfl
    have w0 := fun k hk => hw k (weights_field Tryz.underlying28 (i := 0) rfl (d := y0.1) rfl k hk)
    have w1 := fun k hk => hw k (weights_field Tryz.underlying28 (i := 1) rfl (d := y1.1) rfl k hk)
    have w2 := fun k hk => hw k (weights_field Tryz.underlying28 (i := 2) rfl (d := y2.1) rfl k hk)
    have w3 := fun k hk => hw k (weights_field Tryz.underlying28 (i := 3) rfl (d := y3.1) rfl k hk)
    have w4 := fun k hk => hw k (weights_field Tryz.underlying28 (i := 4) rfl (d := y4.1) rfl k hk)
    simp only [Value.cells] at h0 h1 h2 h3 h4
    (try simp only [cells22] at h0); (try simp only [cells23] at h1); (try simp only [cells24] at h2); (try simp only [cells25] at h3); (try simp only [cells26] at h4)
    obtain ⟨l0, r0, q0, b0⟩ := open_rows Tryz.underlying22 cells66 (by omega) SecT.cells SecT.R (show Rd enc W n 22 [c0] y0 from h0) w0 (fun n cs y hl h hw => read_sec hl h hw)
    obtain ⟨l1, r1, q1, b1⟩ := open_rows Tryz.underlying23 cells68 (by omega) SymT.cells SymT.R (show Rd enc W n 23 [c1] y1 from h1) w1 (fun n cs y hl h hw => read_sym hl h hw)
    obtain ⟨l2, r2, q2, b2⟩ := open_rows Tryz.underlying24 cells94 (by omega) RelT.cells RelT.R (show Rd enc W n 24 [c2] y2 from h2) w2 (fun n cs y hl h hw => read_rel hl h)
    obtain ⟨l3, r3, q3, b3⟩ := open_rows (α := ByteArray) Tryz.underlying25 cells9 (by omega) fileCells fileR (show Rd enc W n 25 [c3] y3 from h3) w3 (fun n cs y hl h hw => by
      match cs, hl with
      | [c], _ =>
        obtain ⟨s, rfl, hs⟩ := one_str h hw
        exact ⟨s, rfl, hs⟩)
    obtain ⟨l4, r4, q4, b4⟩ := open_rows Tryz.underlying26 cells48 (by omega) LineT.cells LineT.R (show Rd enc W n 26 [c4] y4 from h4) w4 (fun n cs y hl h hw => read_line hl h)
    exact ⟨⟨l0, l1, l2, l3, l4⟩, ⟨c0, c1, c2, c3, c4, rfl, r0, r1, r2, r3, r4⟩, q0, q1, q2, q3, q4, len_le bytes66 b0, len_le bytes68 b1, len_le bytes94 b2, len_le bytes9 b3, len_le bytes48 b4⟩
/-- The cells of an element of a slice of records. -/
theorem rows_at {α : Type} {W : World} {b o c : Nat} {n : Nat} {f : α → List Value} {size : Nat} {l : List α} (h : RowsAt W (.slice (some ⟨b, o, none⟩) n c) f size l) {k : Nat} {x : α} (hk : l[k]? = some x) {j : Nat} {u : Value} (hj : (f x)[j]? = some u) : W.cell? ⟨b, o + k * size + j, none⟩ = some u := by
  obtain ⟨a', c', e, h1⟩ := h
  cases e
  rcases h1 with rfl | ⟨b', o', e, h2⟩
  · simp at hk
  · cases e
    exact h2 k x hk j u hj
theorem rows_some {α : Type} {W : World} {s : Value} {f : α → List Value} {size : Nat} {l : List α} (h : RowsAt W s f size l) {k : Nat} (hk : k < l.length) : ∃ b o c, s = .slice (some ⟨b, o, none⟩) l.length c := by
  obtain ⟨a', c', rfl, h1⟩ := h
  rcases h1 with rfl | ⟨b', o', rfl, h2⟩
  · simp at hk
  · exact ⟨b', o', c', rfl⟩
end Go.Ev

