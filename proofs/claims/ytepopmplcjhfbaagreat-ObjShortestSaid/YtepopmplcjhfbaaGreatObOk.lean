import Derived.Test.YtepopmplcjhfbaaGreatObOj
import Derived.WalkKit
set_option linter.unusedSectionVars false
set_option linter.unusedVariables false
set_option linter.unusedSimpArgs false
set_option linter.unnecessarySimpa false
/-
  Stage 3: an object as an argument, opened.
-/
namespace Go.Ev
open Go.ChangeShapes Go.WideShapes Go.ChangeAt Go.RowKit Go.Proofs Go.Deep Go.Rw
theorem bytes66 : 1 ≤ Tryz.prog.bytesOf 66 := by rw [show Tryz.prog.bytesOf 66 = 64 by kernel_rfl]; omega
theorem bytes68 : 1 ≤ Tryz.prog.bytesOf 68 := by rw [show Tryz.prog.bytesOf 68 = 56 by kernel_rfl]; omega
theorem bytes94 : 1 ≤ Tryz.prog.bytesOf 94 := by rw [show Tryz.prog.bytesOf 94 = 40 by kernel_rfl]; omega
theorem bytes48 : 1 ≤ Tryz.prog.bytesOf 48 := by rw [show Tryz.prog.bytesOf 48 = 32 by kernel_rfl]; omega
theorem bytes9 : 1 ≤ Tryz.prog.bytesOf 9 := by rw [show Tryz.prog.bytesOf 9 = 16 by kernel_rfl]; omega
theorem len_le {n b : Nat} (hb : 1 ≤ b) (h : n * b ≤ reachBytes) : n ≤ 140737488351232 := by
  have : n * 1 ≤ n * b := Nat.mul_le_mul_left n hb
  unfold reachBytes at h
  omega
set_option maxRecDepth 100000 in
/-- An object as an argument. -/
theorem open_obj {H : Type} {enc : TypeId × Value → H} {W : World} {r : Go.Reach} {b0 : Nat} {v : Value} {d : DataW H} {p : List MemPlace} (hv : Value.okWide Tryz.prog W r b0 28 v) (h : DataW.Trod enc Tryz.prog W 0 (fun _ => true) true 28 v d p)
    (hw : ∀ k ∈ d.weights Tryz.prog 28, k ≤ reachBytes) : ∃ o : ObjT, ObjAt W v o ∧ o.R := by
  obtain ⟨cs, rfl, hsz⟩ := okWide_struct Tryz.underlying28 hv
  obtain ⟨l⟩ := cs
  have hsz : l.length = 5 := hsz.trans cells28
  obtain ⟨fuel, hf⟩ := h
  obtain ⟨xs, n, _, hd, _, hlen, hel⟩ := DataW.trod_struct Tryz.underlying28 hf
  match l, hsz, xs, hlen with
  | [c0, c1, c2, c3, c4], _, [y0, y1, y2, y3, y4], _ =>
    obtain rfl : d = .agg [y0.1, y1.1, y2.1, y3.1, y4.1] := (Prod.mk.inj hd).1
    have h0 := hel 0 _ rfl
    have h1 := hel 1 _ rfl
    have h2 := hel 2 _ rfl
    have h3 := hel 3 _ rfl
    have h4 := hel 4 _ rfl
    have w0 := fun k hk => hw k (weights_field Tryz.underlying28 (i := 0) rfl (d := y0.1) rfl k hk)
    have w1 := fun k hk => hw k (weights_field Tryz.underlying28 (i := 1) rfl (d := y1.1) rfl k hk)
    have w2 := fun k hk => hw k (weights_field Tryz.underlying28 (i := 2) rfl (d := y2.1) rfl k hk)
    have w3 := fun k hk => hw k (weights_field Tryz.underlying28 (i := 3) rfl (d := y3.1) rfl k hk)
    have w4 := fun k hk => hw k (weights_field Tryz.underlying28 (i := 4) rfl (d := y4.1) rfl k hk)
    simp only [Value.cells] at h0 h1 h2 h3 h4
    (try simp only [cells22] at h0); (try simp only [cells23] at h1); (try simp only [cells24] at h2); (try simp only [cells25] at h3); (try simp only [cells26] at h4)
    obtain ⟨l0, r0, q0, b0⟩ := open_rows Tryz.underlying22 cells66 (by omega) SecT.cells SecT.R (show Rd enc W n 22 [c0] y0 from h0) w0 (fun n cs y hl h hw => read_sec hl h hw)
    obtain ⟨l1, r1, q1, b1⟩ := open_rows Tryz.underlying23 cells68 (by omega) SymT.cells SymT.R (show Rd enc W n 23 [c1] y1 from h1) w1 (fun n cs y hl h hw => read_sym hl h hw)
    obtain ⟨l2, r2, q2, b2⟩ := open_rows Tryz.underlying24 cells94 (by omega) RelT.cells RelT.R (show Rd enc W n 24 [c2] y2 from h2) w2 (fun n cs y hl h hw => read_rel hl h)
    obtain ⟨l3, r3, q3, b3⟩ := open_rows (α := ByteArray) Tryz.underlying25 cells9 (by omega) fileCells fileR (show Rd enc W n 25 [c3] y3 from h3) w3 (fun n cs y hl h hw => by
      match cs, hl with
      | [c], _ =>
        obtain ⟨s, rfl, hs⟩ := one_str h hw
        exact ⟨s, rfl, hs⟩)
    obtain ⟨l4, r4, q4, b4⟩ := open_rows Tryz.underlying26 cells48 (by omega) LineT.cells LineT.R (show Rd enc W n 26 [c4] y4 from h4) w4 (fun n cs y hl h hw => read_line hl h)
    exact ⟨⟨l0, l1, l2, l3, l4⟩, ⟨c0, c1, c2, c3, c4, rfl, r0, r1, r2, r3, r4⟩, q0, q1, q2, q3, q4, len_le bytes66 b0, len_le bytes68 b1, len_le bytes94 b2, len_le bytes9 b3, len_le bytes48 b4⟩
/-- The cells of an element of a slice of records. -/
theorem rows_at {α : Type} {W : World} {b o c : Nat} {n : Nat} {f : α → List Value} {size : Nat} {l : List α} (h : RowsAt W (.slice (some ⟨b, o, none⟩) n c) f size l) {k : Nat} {x : α} (hk : l[k]? = some x) {j : Nat} {u : Value} (hj : (f x)[j]? = some u) : W.cell? ⟨b, o + k * size + j, none⟩ = some u := by
  obtain ⟨a', c', e, h1⟩ := h
  cases e
  rcases h1 with rfl | ⟨b', o', e, h2⟩
  · simp at hk
  · cases e
    exact h2 k x hk j u hj
theorem rows_some {α : Type} {W : World} {s : Value} {f : α → List Value} {size : Nat} {l : List α} (h : RowsAt W s f size l) {k : Nat} (hk : k < l.length) : ∃ b o c, s = .slice (some ⟨b, o, none⟩) l.length c := by
  obtain ⟨a', c', rfl, h1⟩ := h
  rcases h1 with rfl | ⟨b', o', rfl, h2⟩
  · simp at hk
  · exact ⟨b', o', c', rfl⟩
end Go.Ev
