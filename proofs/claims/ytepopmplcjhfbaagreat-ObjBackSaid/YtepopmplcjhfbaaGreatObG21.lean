import Derived.Test.YtepopmplcjhfbaaGreatObG09
import Derived.Test.YtepopmplcjhfbaaGreatObG11
import Derived.Test.YtepopmplcjhfbaaGreatObG06
import Derived.Test.YtepopmplcjhfbaaGreatObG00
import Derived.Shelf.Abstract
import Derived.Laws.EntriesVeiled
import Derived.Test.YtepopmplcjhfbaaGreatObG08
import Derived.WalkKit
import Derived.Test.YtepopmplcjhfbaaGreatObG20
set_option linter.unusedSectionVars false
set_option linter.unusedVariables false
set_option linter.unusedSimpArgs false
set_option linter.unnecessarySimpa false
namespace Go.Ev
open Go.RowKit Go.Proofs Go.Rw
theorem objEq_refl (C : SecT → ByteArray) (a : ObjT) : ObjEq C a a := ⟨⟨rfl, fun k x y hx hy => by rw [hx] at hy; cases hy; exact ⟨rfl, rfl, rfl, rfl, rfl⟩⟩, rfl, rfl, rfl, rfl⟩
def TrueC (w : World) (e : Ending) (w' : World) : Prop := e = .returned (.bool true) ∧ Below w.heap.size w w'
end Go.Ev

namespace Go.Ev
open Go.ChangeShapes Go.WideShapes Go.ChangeAt Go.RowKit Go.Proofs Go.Deep Go.Rw
section
variable {H : Type} {enc : TypeId × Value → H} {w : World} {n : Nat}
theorem cellsB : Tryz.prog.cellsOf 5 = 1 := by kernel_rfl
theorem one_bytesC {v : Value} {y : DataW H × List MemPlace} (h : Rd enc w n 34 [v] y) (hw : ∀ k ∈ y.1.weights Tryz.prog 34, k ≤ reachBytes) : ∃ a len c, v = .slice a len c ∧ len ≤ 140737488351232 ∧ ∃ B, SecIn w a len B := by
  obtain ⟨a0, len0, c0, rfl, hle⟩ := one_bytes h hw
  refine ⟨a0, len0, c0, rfl, hle, ?_⟩
  rcases open_ints Tryz.underlying34 Tryz.underlying5 cellsB h with ⟨hcs, _⟩ | ⟨a, len, cap, zs, hcs, _, hl, hm, hz, hd, hcell, hwz⟩
  · simp at hcs
    obtain ⟨rfl, rfl, rfl⟩ := hcs
    exact ⟨_, .inl ⟨rfl, rfl⟩⟩
  · simp at hcs
    obtain ⟨rfl, rfl, rfl⟩ := hcs
    simp only [if_true] at hz
    by_cases h0 : len0 = 0
    · exact ⟨_, .inl ⟨h0, rfl⟩⟩
    · have hsp : a.spot = none := by
        have := hcell 0 (by omega)
        have e : a.add 0 = a := by unfold Addr.add; simp
        rw [e] at this
        cases hsp : a.spot with
        | none => rfl
        | some p =>
          unfold World.cell? at this
          split at this
          · rw [hsp] at this; cases this
          · cases this
      obtain ⟨blk, off, spot⟩ := a
      dsimp only at hsp
      subst hsp
      have hin : ∀ j, InB (zs.getD j 0) := fun j => by
        by_cases h : j < zs.length
        · have : zs.getD j 0 = zs[j] := by simp [List.getD, h]
          rw [this]
          have := hwz _ (List.getElem_mem h)
          simpa [Lit.wf, IntKind.min, IntKind.max, IntKind.signed, IntKind.bits, InB] using this
        · have : zs.getD j 0 = 0 := by simp [List.getD, List.getElem?_eq_none (Nat.le_of_not_lt h)]
          rw [this]
          exact ⟨Int.le_refl _, by omega⟩
      exact ⟨_, .inr ⟨blk, off, fun j => zs.getD j 0, rfl, rfl, hin, fun j hj => by rw [← hcell j (by omega), cell_add]⟩⟩
def SecRB (W : World) (x : SecT) : Prop := x.R ∧ ∃ B, SecIn W x.ba x.bn B
set_option maxRecDepth 100000 in
theorem read_secB {cs : List Value} {y : DataW H × List MemPlace} (hl : cs.length = 5) (h : Rd enc w n 66 cs y) (hw : ∀ k ∈ y.1.weights Tryz.prog 66, k ≤ reachBytes) : ∃ x : SecT, cs = x.cells ∧ SecRB w x := by
  match cs, hl with
  | [c0, c1, c2, c3, c4], _ =>
    obtain ⟨xs, n, _, rfl, _, hlen, hel⟩ := DataW.trod_struct Tryz.underlying66 h
    match xs, hlen with
    | [y0, y1, y2, y3, y4], _ =>
      have h0 := hel 0 _ rfl
      have h1 := hel 1 _ rfl
      have h2 := hel 2 _ rfl
      have h3 := hel 3 _ rfl
      have h4 := hel 4 _ rfl
      have w0 := fun k hk => hw k (weights_field Tryz.underlying66 (i := 0) rfl (d := y0.1) rfl k hk)
      have w3 := fun k hk => hw k (weights_field Tryz.underlying66 (i := 3) rfl (d := y3.1) rfl k hk)
      (try simp only [cells9] at h0); (try simp only [cells3] at h1); (try simp only [cells3] at h2); (try simp only [cells34] at h3); (try simp only [cells3] at h4)
      obtain ⟨n0, rfl, w0⟩ := one_str (show Rd enc w n 9 [c0] y0 from h0) w0
      obtain ⟨n1, rfl, w1⟩ := one_int Tryz.underlying3 (show Rd enc w n 3 [c1] y1 from h1)
      obtain ⟨n2, rfl, w2⟩ := one_int Tryz.underlying3 (show Rd enc w n 3 [c2] y2 from h2)
      obtain ⟨a3, n3, m3, rfl, w3, hB⟩ := one_bytesC (show Rd enc w n 34 [c3] y3 from h3) w3
      obtain ⟨n4, rfl, w4⟩ := one_int Tryz.underlying3 (show Rd enc w n 3 [c4] y4 from h4)
      exact ⟨⟨n0, n1, n2, a3, n3, m3, n4⟩, rfl, ⟨inI64_wf w1, inI64_wf w2, w3, inI64_wf w4, w0⟩, hB⟩
end
set_option maxRecDepth 100000 in
theorem open_objB {H : Type} {enc : TypeId × Value → H} {W : World} {r : Go.Reach} {b0 : Nat} {v : Value} {d : DataW H} {p : List MemPlace} (hv : Value.okWide Tryz.prog W r b0 28 v) (h : DataW.Trod enc Tryz.prog W 0 (fun _ => true) true 28 v d p)
    (hw : ∀ k ∈ d.weights Tryz.prog 28, k ≤ reachBytes) : ∃ o : ObjT, ObjAt W v o ∧ o.R ∧ ∀ x ∈ o.secs, ∃ B, SecIn W x.ba x.bn B := by
  obtain ⟨cs, rfl, hsz⟩ := okWide_struct Tryz.underlying28 hv
  obtain ⟨l⟩ := cs
  have hsz : l.length = 5 := hsz.trans cells28
  obtain ⟨fuel, hf⟩ := h
  obtain ⟨xs, n, _, hd, _, hlen, hel⟩ := DataW.trod_struct Tryz.underlying28 hf
  match l, hsz, xs, hlen with
  | [c0, c1, c2, c3, c4], _, [y0, y1, y2, y3, y4], _ =>
    obtain rfl : d = .agg [y0.1, y1.1, y2.1, y3.1, y4.1] := (Prod.mk.inj hd).1
    have h0 := hel 0 _ rfl
    have h1 := hel 1 _ rfl
    have h2 := hel 2 _ rfl
    have h3 := hel 3 _ rfl
    have h4 := hel 4 _ rfl
    have w0 := fun k hk => hw k (weights_field Tryz.underlying28 (i := 0) rfl (d := y0.1) rfl k hk)
    have w1 := fun k hk => hw k (weights_field Tryz.underlying28 (i := 1) rfl (d := y1.1) rfl k hk)
    have w2 := fun k hk => hw k (weights_field Tryz.underlying28 (i := 2) rfl (d := y2.1) rfl k hk)
    have w3 := fun k hk => hw k (weights_field Tryz.underlying28 (i := 3) rfl (d := y3.1) rfl k hk)
    have w4 := fun k hk => hw k (weights_field Tryz.underlying28 (i := 4) rfl (d := y4.1) rfl k hk)
    simp only [Value.cells] at h0 h1 h2 h3 h4
    (try simp only [cells22] at h0); (try simp only [cells23] at h1); (try simp only [cells24] at h2); (try simp only [cells25] at h3); (try simp only [cells26] at h4)
    obtain ⟨l0, r0, q0, b0⟩ := open_rows Tryz.underlying22 cells66 (by omega) SecT.cells (SecRB W) (show Rd enc W n 22 [c0] y0 from h0) w0 (fun n cs y hl h hw => read_secB hl h hw)
    obtain ⟨l1, r1, q1, b1⟩ := open_rows Tryz.underlying23 cells68 (by omega) SymT.cells SymT.R (show Rd enc W n 23 [c1] y1 from h1) w1 (fun n cs y hl h hw => read_sym hl h hw)
    obtain ⟨l2, r2, q2, b2⟩ := open_rows Tryz.underlying24 cells94 (by omega) RelT.cells RelT.R (show Rd enc W n 24 [c2] y2 from h2) w2 (fun n cs y hl h hw => read_rel hl h)
    obtain ⟨l3, r3, q3, b3⟩ := open_rows (α := ByteArray) Tryz.underlying25 cells9 (by omega) fileCells fileR (show Rd enc W n 25 [c3] y3 from h3) w3 (fun n cs y hl h hw => by
      match cs, hl with
      | [c], _ =>
        obtain ⟨s, rfl, hs⟩ := one_str h hw
        exact ⟨s, rfl, hs⟩)
    obtain ⟨l4, r4, q4, b4⟩ := open_rows Tryz.underlying26 cells48 (by omega) LineT.cells LineT.R (show Rd enc W n 26 [c4] y4 from h4) w4 (fun n cs y hl h hw => read_line hl h)
    exact ⟨⟨l0, l1, l2, l3, l4⟩, ⟨c0, c1, c2, c3, c4, rfl, r0, r1, r2, r3, r4⟩, ⟨fun s hs => (q0 s hs).1, q1, q2, q3, q4, len_le bytes66 b0, len_le bytes68 b1, len_le bytes94 b2, len_le bytes9 b3, len_le bytes48 b4⟩, fun x hx => (q0 x hx).2⟩
open Classical in
noncomputable def secStr (W : World) (x : SecT) : ByteArray := if h : ∃ B, SecIn W x.ba x.bn B then Classical.choose h else ⟨#[]⟩
theorem secStr_in {W : World} {x : SecT} (h : ∃ B, SecIn W x.ba x.bn B) : SecIn W x.ba x.bn (secStr W x) := by
  unfold secStr
  rw [dif_pos h]
  exact Classical.choose_spec h
end Go.Ev

namespace Go.Ev
open Go.RowKit Go.Proofs Go.Rw
theorem fileAt_row {w : World} {base c n : Nat} {a : Option Addr} {L : List Int} (h : w.ownsRow base 5 1 (.slice a n c) n (byL L)) (hL : ∀ z ∈ L, 0 ≤ z ∧ z < 256) : FileAt w a n (toN L) := by
  have hl : L.length = n := by have := h.1; rw [byL_length] at this; omega
  refine ⟨by rw [toN_len]; exact hl, fun x hx => ?_, ?_⟩
  · obtain ⟨z, hz, rfl⟩ := List.mem_map.1 hx
    have := hL z hz
    omega
  · have := owns_bytes h
    have e : (fun j => (((toN L).getD j 0 : Nat) : Int)) = fun j => L.getD j 0 := funext fun j => toN_get hL j
    rw [e]
    exact this
theorem fileAt_arg {w : World} {a : Option Addr} {n : Nat} {q : Nat → Int} (hb : BytesAt w a n q) (hi : ∀ j, InB (q j)) : ∃ all, FileAt w a n all := by
  have e : ∀ j, j < n → ((((List.range n).map fun j => (q j).toNat).getD j 0 : Nat) : Int) = q j := fun j hj => by
    have h3 := hi j
    unfold InB at h3
    have e : (((List.range n).map fun j => (q j).toNat).getD j 0 : Nat) = (q j).toNat := by simp [List.getD, hj]
    rw [e, Int.toNat_of_nonneg h3.1]
  refine ⟨(List.range n).map fun j => (q j).toNat, by simp, fun x hx => ?_, ?_⟩
  · obtain ⟨j, _, rfl⟩ := List.mem_map.1 hx
    have := hi j
    unfold InB at this
    omega
  · rcases hb with h | ⟨b, o, rfl, h⟩
    · exact .inl h
    · exact .inr ⟨b, o, rfl, fun j hj => (h j hj).trans (by dsimp only; rw [e j hj])⟩
theorem FileAt.below {w w' : World} {a : Option Addr} {n : Nat} {all : List Nat} (h : FileAt w a n all) (hb : Below w.heap.size w w') : FileAt w' a n all := ⟨h.1, h.2.1, h.2.2.below hb⟩
theorem FileAt.sec {w : World} {a : Option Addr} {n : Nat} {all : List Nat} (h : FileAt w a n all) : ∃ X, SecIn w a n X ∧ toN (strI X) = all := by
  rcases h.2.2 with ⟨rfl, rfl⟩ | ⟨b, o, rfl, hc⟩
  · have : all = [] := List.eq_nil_of_length_eq_zero h.1
    subst this
    exact ⟨strOf 0 (fun _ => 0), .inl ⟨rfl, rfl⟩, strI_strOf2 rfl (fun _ => ⟨by omega, by omega⟩) (fun j hj => by omega)⟩
  · exact secIn_of h.1 h.2.1 hc
theorem obj_shape {w : World} {v : Value} {o : ObjT} (h : ObjAt w v o) : ∃ (r1 : Option Addr) (n1 k1 : Nat) (r2 : Option Addr) (n2 k2 : Nat) (r3 : Option Addr) (n3 k3 : Nat) (r4 : Option Addr) (n4 k4 : Nat) (r5 : Option Addr) (n5 k5 : Nat), v = .agg #[.slice r1 n1 k1, .slice r2 n2 k2, .slice r3 n3 k3, .slice r4 n4 k4, .slice r5 n5 k5] := by
  obtain ⟨t1, t2, t3, t4, t5, rfl, q1, q2, q3, q4, q5⟩ := h
  obtain ⟨r1, k1, rfl⟩ := rows_slice q1
  obtain ⟨r2, k2, rfl⟩ := rows_slice q2
  obtain ⟨r3, k3, rfl⟩ := rows_slice q3
  obtain ⟨r4, k4, rfl⟩ := rows_slice q4
  obtain ⟨r5, k5, rfl⟩ := rows_slice q5
  exact ⟨_, _, _, _, _, _, _, _, _, _, _, _, _, _, _, rfl⟩
def nilObj : ObjT := ⟨[], [], [], [], []⟩
theorem nilObj_at (w : World) : ObjAt w (.agg #[.slice none 0 0, .slice none 0 0, .slice none 0 0, .slice none 0 0, .slice none 0 0]) nilObj :=
  ⟨_, _, _, _, _, rfl, ⟨none, 0, rfl, .inl rfl⟩, ⟨none, 0, rfl, .inl rfl⟩, ⟨none, 0, rfl, .inl rfl⟩, ⟨none, 0, rfl, .inl rfl⟩, ⟨none, 0, rfl, .inl rfl⟩⟩
theorem nilObj_R : nilObj.R := by unfold ObjT.R nilObj; simp
theorem nil_same (w : World) : Calls Tryz.prog 20 #[.agg #[.slice none 0 0, .slice none 0 0, .slice none 0 0, .slice none 0 0, .slice none 0 0], .agg #[.slice none 0 0, .slice none 0 0, .slice none 0 0, .slice none 0 0, .slice none 0 0]] w (BelR true w) := by
  have := rsame_c (C := fun _ => ⟨#[]⟩) (nilObj_at w) (nilObj_at w) nilObj_R nilObj_R (fun _ h => by cases h) (fun _ h => by cases h)
  rwa [dec_yes (objEq_refl _ _)] at this
theorem fileL_len {o : ObjT} {C : SecT → ByteArray} (h : ObjOk o) (hR : o.R) (hb : ∀ x ∈ o.secs, (C x).size = x.bn) : (fileL o C).length ≤ 2000000 := by
  obtain ⟨l1, l2, l3, l4, l5, l6⟩ := below_len h hR hb
  have m1 := listL_len (secL2 C) o.secs (by have := h.1.1; omega)
  have m2 := listL_len symL o.syms (by have := h.2.1.1; omega)
  have m3 := listL_len relL o.rels (by have := h.2.2.1.1; omega)
  have m4 := listL_len textL o.files (by have := h.2.2.2.1.1; omega)
  unfold fileL bodyL
  simp only [List.length_append, List.length_cons, List.length_nil, wordL]
  omega
theorem fileL_in {o : ObjT} {C : SecT → ByteArray} (h : ObjOk o) : ∀ z ∈ fileL o C, 0 ≤ z ∧ z < 256 := fun z hz => by
  unfold fileL at hz
  rcases List.mem_append.1 hz with hz | hz
  · have := bodyL_in h z hz
    unfold InB at this
    omega
  · have hs := sumL_in (bodyL o C)
    simp only [wordL, List.mem_cons, List.not_mem_nil, or_false] at hz
    rcases hz with rfl | rfl | rfl | rfl <;> omega
set_option maxRecDepth 100000 in
set_option maxHeartbeats 8000000 in
theorem back_calls {w : World} {v : Value} {o : ObjT} {C : SecT → ByteArray} (h : ObjAt w v o) (hR : o.R) (hC : ∀ x ∈ o.secs, SecIn w x.ba x.bn (C x)) {ba : Option Addr} {n c : Nat} {q : Nat → Int} (hb : BytesAt w ba n q) (hi : ∀ j, InB (q j)) (hnc : n ≤ c) (hc : c ≤ 140737488351232) :
    Calls Tryz.prog 7 #[v, .slice ba n c] w (TrueC w) := by
  obtain ⟨s1, s2, s3, s4, s5, rfl, k1, k2, k3, k4, k5⟩ := id h
  obtain ⟨W, hW⟩ : ∃ W, W = w.alloc (.cells #[s1, s2, s3, s4, s5] 28) := ⟨_, rfl⟩
  have hbW : Below w.heap.size w W := by rw [hW]; exact one_below _ _
  have hB1 : W.heap[w.heap.size]? = some (.cells #[s1, s2, s3, s4, s5] 28 (0, 0)) := by rw [hW]; exact heap_alloc_new w _
  have hWl : w.heap.size < W.heap.size := by rw [hW, World.size_alloc]; omega
  have up : ∀ W', Below W.heap.size W W' → Below w.heap.size w W' := fun W' hW' => hbW.trans (hW'.mono (by omega))
  have cells : ∀ W', Below W.heap.size W W' → W'.cell? ⟨w.heap.size, 0, none⟩ = some s1 ∧ W'.cell? ⟨w.heap.size, 1, none⟩ = some s2 ∧ W'.cell? ⟨w.heap.size, 2, none⟩ = some s3 ∧ W'.cell? ⟨w.heap.size, 3, none⟩ = some s4 ∧ W'.cell? ⟨w.heap.size, 4, none⟩ = some s5 := fun W' hW' => by
    have e1 := (hW'.block _ hWl).trans hB1
    refine ⟨?_, ?_, ?_, ?_, ?_⟩ <;> simp [World.cell?, e1]
  have hsm := fun W' (hW' : Below W.heap.size W W') => small_b (h.below (up W' hW')) hR
  have hpb := fun W' (hW' : Below W.heap.size W W') => pbytes_c (h.below (up W' hW')) hR (fun x hx => (hC x hx).below (up W' hW'))
  obtain ⟨all, hF⟩ := fileAt_arg hb hi
  have hrd := fun W' (hW' : Below W.heap.size W W') => read_c (c := c) (hF.below (up W' hW')) hnc (by omega)
  have h256 := hF.2.1
  obtain ⟨M2, hM2⟩ : ∃ M, M = objF all := ⟨_, rfl⟩
  rw [← hM2] at hrd
  replace hM2 := Lib.hid hM2
  replace hF := Lib.hid hF
  replace hb := Lib.hid hb
  have hsz : ∀ x ∈ o.secs, (C x).size = x.bn := fun x hx => secIn_size (hC x hx)
  have hW0 := Below.refl W.heap.size W
  clear hB1 k1 k2 k3 k4 k5
  go_enter Tryz.func7, Tryz.ntmps7
  go_wp2_with fail
  rw [← hW]
  clear hW
  refine (sane_calls _).mono ?_
  rintro e w1 ⟨rfl, hb1⟩
  obtain ⟨e10, e11, e12, e13, e14⟩ := cells _ hb1
  go_wp2_with fail
  refine (hsm _ hb1).mono ?_
  rintro e w2 ⟨r, rfl, hb2⟩
  have hB2 := bel_then hb1 (Nat.le_refl _) hb2
  cases r with
  | false =>
    go_wp2
    go_ret
    exact ⟨rfl, up _ hB2⟩
  | true =>
  by_cases z2 : (20000 : Int) < (n : Int)
  · go_wp2
    go_ret
    exact ⟨rfl, up _ hB2⟩
  have z2d : decide ((20000 : Int) < (n : Int)) = false := decide_eq_false z2
  obtain ⟨e20, e21, e22, e23, e24⟩ := cells _ hB2
  clear e10 e11 e12 e13 e14
  go_wp2_with fail
  refine (hpb _ hB2).mono ?_
  rintro e w3 ⟨hb3, hbr⟩
  have hB3 := bel_then hB2 (Nat.le_refl _) hb3
  obtain ⟨e30, e31, e32, e33, e34⟩ := cells _ hB3
  clear e20 e21 e22 e23 e24
  rcases hbr with ⟨hno, rfl⟩ | ⟨hok, v3, rfl, hown⟩
  · clear hno
    go_wp2_with fail
    refine (hrd _ hB3).mono ?_
    rintro e w7 ⟨hb7, hm7⟩
    have hB7 := bel_then hB3 (Nat.le_refl _) hb7
    cases hM7 : M2 with
    | error x =>
      rw [hM7] at hm7
      have hm7 : e = .returned (.tuple #[.agg #[.slice none 0 0, .slice none 0 0, .slice none 0 0, .slice none 0 0, .slice none 0 0], .int .i64 (x.1 : Int), .int .i64 x.2]) := hm7
      subst hm7
      have hx0 : x.2 ≠ 0 := objF_err (hM2.out.symm.trans hM7)
      have hxd : (x.2 != 0) = true := bne_iff_ne.2 hx0
      clear hM7 hx0
      go_wp2_with fail
      refine (nil_same _).mono ?_
      rintro e w8 ⟨rfl, hb8⟩
      have hB8 := bel_then (hB7.alloc hB7.size _) (Nat.le_refl _) hb8
      go_wp2
      go_ret
      exact ⟨rfl, up _ hB8⟩
    | ok y =>
      rw [hM7] at hm7
      obtain ⟨v7, ob, rfl, hOb, hRR, hrl, o2, o3, o4, o5⟩ := hm7
      obtain ⟨m, tab⟩ := y
      dsimp only at hrl o2 o3 o4 o5
      have hmb : ∀ mm ∈ m.secs, ∀ y ∈ mm.bs, y < 256 := by
        obtain ⟨-, -, -, -, hall⟩ := objF_back h256 (hM2.out.symm.trans hM7)
        intro mm hmm y hy
        refine h256 y ?_
        rw [hall]
        refine List.mem_append_left _ ?_
        unfold rawL lstL
        refine List.mem_append_right _ (List.mem_append_left _ (List.mem_append_right _ (List.mem_flatMap.2 ⟨mm, hmm, ?_⟩)))
        unfold secML cntL
        simp [hy]
      have hD : ∀ x ∈ ob.secs, SecIn w7 x.ba x.bn (secStr w7 x) := fun x hx => by
        refine secStr_in ?_
        obtain ⟨i, hi', rfl⟩ := List.getElem_of_mem hx
        have hi2 : i < m.secs.length := by rw [← hrl.1]; exact hi'
        exact secRel_in (hrl.2 i ob.secs[i] m.secs[i] (by simp [hi']) (by simp [hi2])) (hmb _ (List.getElem_mem hi2))
      obtain ⟨hokb, hfl⟩ := file_back h256 (hM2.out.symm.trans hM7) hrl hD o2 o3 o4 o5
      obtain ⟨r1, n1, k1, r2, n2, k2, r3, n3, k3, r4, n4, k4, r5, n5, k5, rfl⟩ := obj_shape hOb
      have hb8 := one_below w7 (.cells #[.slice r1 n1 k1, .slice r2 n2 k2, .slice r3 n3 k3, .slice r4 n4 k4, .slice r5 n5 k5] 28)
      have hB8 := bel_then hB7 (Nat.le_refl _) hb8
      have hpb2 := pbytes_c (hOb.below hb8) hRR (fun x hx => (hD x hx).below hb8)
      have hlen := fileL_len hokb hRR (fun x hx => secIn_size (hD x hx))
      have hin := fileL_in (C := secStr w7) hokb
      clear hrl hmb hD hM7 o2 o3 o4 o5
      replace hOb := Lib.hid hOb
      replace hRR := Lib.hid hRR
      replace hfl := Lib.hid hfl
      have g0 := new_cell w7 #[.slice r1 n1 k1, .slice r2 n2 k2, .slice r3 n3 k3, .slice r4 n4 k4, .slice r5 n5 k5] 28 0 (.slice r1 n1 k1) rfl
      have g1 := new_cell w7 #[.slice r1 n1 k1, .slice r2 n2 k2, .slice r3 n3 k3, .slice r4 n4 k4, .slice r5 n5 k5] 28 1 (.slice r2 n2 k2) rfl
      have g2 := new_cell w7 #[.slice r1 n1 k1, .slice r2 n2 k2, .slice r3 n3 k3, .slice r4 n4 k4, .slice r5 n5 k5] 28 2 (.slice r3 n3 k3) rfl
      have g3 := new_cell w7 #[.slice r1 n1 k1, .slice r2 n2 k2, .slice r3 n3 k3, .slice r4 n4 k4, .slice r5 n5 k5] 28 3 (.slice r4 n4 k4) rfl
      have g4 := new_cell w7 #[.slice r1 n1 k1, .slice r2 n2 k2, .slice r3 n3 k3, .slice r4 n4 k4, .slice r5 n5 k5] 28 4 (.slice r5 n5 k5) rfl
      go_wp2_with fail
      refine hpb2.mono ?_
      rintro e w9 ⟨hb9, (⟨hno9, -⟩ | ⟨-, v9, rfl, hown9⟩)⟩
      · exact absurd hokb hno9
      have hB9 := bel_then hB8 (Nat.le_refl _) hb9
      obtain ⟨va9, vc9, rfl⟩ := own_shape hown9
      obtain ⟨X9, hX9, hXl⟩ := secIn_own hown9 hin
      obtain ⟨Y9, hY9, hYl⟩ := (hF.out.below (up _ hB9)).sec
      have heq := bequal_x (c1 := vc9) (c2 := c) hX9 hY9
      rw [dec_yes (show X9 = Y9 by rw [strI_inj, hXl, hYl]; exact hfl.out)] at heq
      clear hX9 hY9 hXl hYl hown9 hpb2 g0 g1 g2 g3 g4
      generalize (fileL ob (secStr w7)).length = L9 at heq
      go_wp2_with fail
      refine heq.mono ?_
      rintro e w10 ⟨rfl, rfl⟩
      go_wp2
      go_ret
      exact ⟨rfl, up _ hB9⟩
  obtain ⟨va3, vc3, rfl⟩ := own_shape hown
  have hin3 := fileL_in (C := C) hok
  have hlen3 := fileL_len hok hR hsz
  have hcap3 := own_capped hown
  have hF3 := fileAt_row hown hin3
  have hrd3 := read_c (c := vc3) hF3 hcap3 (by omega)
  rw [objF_fwd hok hR hsz] at hrd3
  clear hown hF3 hcap3 hin3
  replace hlen3 := Lib.hid hlen3
  obtain ⟨L3, hL3⟩ : ∃ L, L = (fileL o C).length := ⟨_, rfl⟩
  rw [← hL3] at hrd3 ⊢
  clear hL3 hlen3
  go_wp2_with fail
  refine hrd3.mono ?_
  rintro e w4 ⟨hb4, v4, ob, rfl, hOb, hRR, hrl, o2, o3, o4, o5⟩
  have hB4 := bel_then hB3 (Nat.le_refl _) hb4
  obtain ⟨r1, n1, k1, r2, n2, k2, r3, n3, k3, r4, n4, k4, r5, n5, k5, rfl⟩ := obj_shape hOb
  dsimp only at hrl o2 o3 o4 o5
  have hb5 := one_below w4 (.cells #[.slice r1 n1 k1, .slice r2 n2 k2, .slice r3 n3 k3, .slice r4 n4 k4, .slice r5 n5 k5] 28)
  have hB5 := bel_then hB4 (Nat.le_refl _) hb5
  have hC4 := fun x hx => (hC x hx).below (up _ hB4)
  have hD4 : ∀ x ∈ o.secs, SecIn w4 x.ba x.bn (secStr w4 x) := fun x hx => secStr_in ⟨_, hC4 x hx⟩
  have hmb4 : ∀ mm ∈ (rawOf o C).secs, ∀ y ∈ mm.bs, y < 256 := fun mm hmm y hy => by
    obtain ⟨x, hx, rfl⟩ := List.mem_map.1 hmm
    obtain ⟨z, hz, rfl⟩ := List.mem_map.1 hy
    have := strI_in _ z hz
    unfold InB at this
    omega
  have hD5 : ∀ x ∈ ob.secs, SecIn w4 x.ba x.bn (secStr w4 x) := fun x hx => by
    refine secStr_in ?_
    obtain ⟨i, hi', rfl⟩ := List.getElem_of_mem hx
    have hi2 : i < (rawOf o C).secs.length := by rw [← hrl.1]; exact hi'
    exact secRel_in (hrl.2 i ob.secs[i] (rawOf o C).secs[i] (by simp [hi']) (by simp [hi2])) (hmb4 _ (List.getElem_mem hi2))
  have heq4 := objEq_read hok hC4 hD4 hD5 hrl o2 o3 o4 o5
  have hsame := rsame_c (h.below (up _ hB5)) (hOb.below hb5) hR hRR (fun x hx => (hD4 x hx).below hb5) (fun x hx => (hD5 x hx).below hb5)
  rw [dec_yes heq4] at hsame
  have hchk := fun W' (hW' : Below W.heap.size W W') => pcheck_c (h.below (up W' hW')) hR
  rw [dec_yes hok] at hchk
  have he0 : errV true = 0 := rfl
  unfold ErrR at hchk
  rw [he0] at hchk
  clear hC4 hD4 hmb4 hD5 heq4 hrl o2 o3 o4 o5 hOb hRR he0
  obtain ⟨e40, e41, e42, e43, e44⟩ := cells _ hB5
  have g0 := new_cell w4 #[.slice r1 n1 k1, .slice r2 n2 k2, .slice r3 n3 k3, .slice r4 n4 k4, .slice r5 n5 k5] 28 0 (.slice r1 n1 k1) rfl
  have g1 := new_cell w4 #[.slice r1 n1 k1, .slice r2 n2 k2, .slice r3 n3 k3, .slice r4 n4 k4, .slice r5 n5 k5] 28 1 (.slice r2 n2 k2) rfl
  have g2 := new_cell w4 #[.slice r1 n1 k1, .slice r2 n2 k2, .slice r3 n3 k3, .slice r4 n4 k4, .slice r5 n5 k5] 28 2 (.slice r3 n3 k3) rfl
  have g3 := new_cell w4 #[.slice r1 n1 k1, .slice r2 n2 k2, .slice r3 n3 k3, .slice r4 n4 k4, .slice r5 n5 k5] 28 3 (.slice r4 n4 k4) rfl
  have g4 := new_cell w4 #[.slice r1 n1 k1, .slice r2 n2 k2, .slice r3 n3 k3, .slice r4 n4 k4, .slice r5 n5 k5] 28 4 (.slice r5 n5 k5) rfl
  clear e30 e31 e32 e33 e34
  go_wp2_with fail
  refine hsame.mono ?_
  rintro e w5 ⟨rfl, hb6⟩
  have hB6 := bel_then hB5 (Nat.le_refl _) hb6
  obtain ⟨e50, e51, e52, e53, e54⟩ := cells _ hB6
  clear g0 g1 g2 g3 g4 e40 e41 e42 e43 e44
  go_wp2_with fail
  refine (hchk _ hB6).mono ?_
  rintro e w6 ⟨rfl, hb66⟩
  have hB66 := bel_then hB6 (Nat.le_refl _) hb66
  clear hsame hchk e50 e51 e52 e53 e54
  go_wp2_with fail
  refine (hrd _ hB66).mono ?_
  rintro e w7 ⟨hb7, hm7⟩
  have hB7 := bel_then hB66 (Nat.le_refl _) hb7
  cases hM7 : M2 with
  | error x =>
    rw [hM7] at hm7
    have hm7 : e = .returned (.tuple #[.agg #[.slice none 0 0, .slice none 0 0, .slice none 0 0, .slice none 0 0, .slice none 0 0], .int .i64 (x.1 : Int), .int .i64 x.2]) := hm7
    subst hm7
    have hx0 : x.2 ≠ 0 := objF_err (hM2.out.symm.trans hM7)
    have hxd : (x.2 != 0) = true := bne_iff_ne.2 hx0
    clear hM7 hx0
    go_wp2_with fail
    refine (nil_same _).mono ?_
    rintro e w8 ⟨rfl, hb8⟩
    have hB8 := bel_then (hB7.alloc hB7.size _) (Nat.le_refl _) hb8
    go_wp2
    go_ret
    exact ⟨rfl, up _ hB8⟩
  | ok y =>
    rw [hM7] at hm7
    obtain ⟨v7, ob, rfl, hOb, hRR, hrl, o2, o3, o4, o5⟩ := hm7
    obtain ⟨m, tab⟩ := y
    dsimp only at hrl o2 o3 o4 o5
    have hmb : ∀ mm ∈ m.secs, ∀ y ∈ mm.bs, y < 256 := by
      obtain ⟨-, -, -, -, hall⟩ := objF_back h256 (hM2.out.symm.trans hM7)
      intro mm hmm y hy
      refine h256 y ?_
      rw [hall]
      refine List.mem_append_left _ ?_
      unfold rawL lstL
      refine List.mem_append_right _ (List.mem_append_left _ (List.mem_append_right _ (List.mem_flatMap.2 ⟨mm, hmm, ?_⟩)))
      unfold secML cntL
      simp [hy]
    have hD : ∀ x ∈ ob.secs, SecIn w7 x.ba x.bn (secStr w7 x) := fun x hx => by
      refine secStr_in ?_
      obtain ⟨i, hi', rfl⟩ := List.getElem_of_mem hx
      have hi2 : i < m.secs.length := by rw [← hrl.1]; exact hi'
      exact secRel_in (hrl.2 i ob.secs[i] m.secs[i] (by simp [hi']) (by simp [hi2])) (hmb _ (List.getElem_mem hi2))
    obtain ⟨hokb, hfl⟩ := file_back h256 (hM2.out.symm.trans hM7) hrl hD o2 o3 o4 o5
    obtain ⟨r1, n1, k1, r2, n2, k2, r3, n3, k3, r4, n4, k4, r5, n5, k5, rfl⟩ := obj_shape hOb
    have hb8 := one_below w7 (.cells #[.slice r1 n1 k1, .slice r2 n2 k2, .slice r3 n3 k3, .slice r4 n4 k4, .slice r5 n5 k5] 28)
    have hB8 := bel_then hB7 (Nat.le_refl _) hb8
    have hpb2 := pbytes_c (hOb.below hb8) hRR (fun x hx => (hD x hx).below hb8)
    have hlen := fileL_len hokb hRR (fun x hx => secIn_size (hD x hx))
    have hin := fileL_in (C := secStr w7) hokb
    clear hrl hmb hD hM7 o2 o3 o4 o5
    replace hOb := Lib.hid hOb
    replace hRR := Lib.hid hRR
    replace hfl := Lib.hid hfl
    have g0 := new_cell w7 #[.slice r1 n1 k1, .slice r2 n2 k2, .slice r3 n3 k3, .slice r4 n4 k4, .slice r5 n5 k5] 28 0 (.slice r1 n1 k1) rfl
    have g1 := new_cell w7 #[.slice r1 n1 k1, .slice r2 n2 k2, .slice r3 n3 k3, .slice r4 n4 k4, .slice r5 n5 k5] 28 1 (.slice r2 n2 k2) rfl
    have g2 := new_cell w7 #[.slice r1 n1 k1, .slice r2 n2 k2, .slice r3 n3 k3, .slice r4 n4 k4, .slice r5 n5 k5] 28 2 (.slice r3 n3 k3) rfl
    have g3 := new_cell w7 #[.slice r1 n1 k1, .slice r2 n2 k2, .slice r3 n3 k3, .slice r4 n4 k4, .slice r5 n5 k5] 28 3 (.slice r4 n4 k4) rfl
    have g4 := new_cell w7 #[.slice r1 n1 k1, .slice r2 n2 k2, .slice r3 n3 k3, .slice r4 n4 k4, .slice r5 n5 k5] 28 4 (.slice r5 n5 k5) rfl
    go_wp2_with fail
    refine hpb2.mono ?_
    rintro e w9 ⟨hb9, (⟨hno9, -⟩ | ⟨-, v9, rfl, hown9⟩)⟩
    · exact absurd hokb hno9
    have hB9 := bel_then hB8 (Nat.le_refl _) hb9
    obtain ⟨va9, vc9, rfl⟩ := own_shape hown9
    obtain ⟨X9, hX9, hXl⟩ := secIn_own hown9 hin
    obtain ⟨Y9, hY9, hYl⟩ := (hF.out.below (up _ hB9)).sec
    have heq := bequal_x (c1 := vc9) (c2 := c) hX9 hY9
    rw [dec_yes (show X9 = Y9 by rw [strI_inj, hXl, hYl]; exact hfl.out)] at heq
    clear hX9 hY9 hXl hYl hown9 hpb2 g0 g1 g2 g3 g4
    generalize (fileL ob (secStr w7)).length = L9 at heq
    go_wp2_with fail
    refine heq.mono ?_
    rintro e w10 ⟨rfl, rfl⟩
    go_wp2
    go_ret
    exact ⟨rfl, up _ hB9⟩
end Go.Ev

