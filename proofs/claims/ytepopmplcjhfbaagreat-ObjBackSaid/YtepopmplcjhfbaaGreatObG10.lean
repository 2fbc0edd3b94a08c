import Derived.Test.YtepopmplcjhfbaaGreatObG09
import Derived.Lib.Hide
import Derived.Test.YtepopmplcjhfbaaGreatObG01
import Derived.Lib.ConvBytes
set_option linter.unusedSectionVars false
set_option linter.unusedVariables false
set_option linter.unusedSimpArgs false
set_option linter.unnecessarySimpa false
namespace Go.Ev
open Go.RowKit Go.Proofs Go.Rw
section
variable {α : Type} (f : α → List Value) (size : Nat)
def flatR (l : List α) : List Value := l.flatMap f
theorem flatR_get (hf : ∀ x, (f x).length = size) : ∀ (l : List α) (k : Nat) (x : α), l[k]? = some x → ∀ (j : Nat) (u : Value), (f x)[j]? = some u → (flatR f l)[k * size + j]? = some u
  | [], k, x, h, _, _, _ => by simp at h
  | y :: l, 0, x, h, j, u, hj => by
    cases h
    unfold flatR
    rw [List.flatMap_cons, Nat.zero_mul, Nat.zero_add, List.getElem?_append_left (by have := (List.getElem?_eq_some_iff.1 hj).1; simpa using this)]
    exact hj
  | y :: l, k + 1, x, h, j, u, hj => by
    have := flatR_get hf l k x (by simpa using h) j u hj
    unfold flatR at *
    rw [List.flatMap_cons, List.getElem?_append_right (by rw [hf, Nat.succ_mul]; omega)]
    rw [show (k + 1) * size + j - (f y).length = k * size + j by rw [hf, Nat.succ_mul]; omega]
    exact this
theorem flatR_snoc (l : List α) (x : α) : flatR f (l ++ [x]) = flatR f l ++ f x := by simp [flatR]
theorem rows_of_ownR {W : World} {base e n : Nat} {v : Value} {l : List α} (hf : ∀ x, (f x).length = size) (h : W.ownsRow base e size v n (flatR f l)) (hn : n = l.length) : RowsAt W v f size l := by
  subst hn
  rcases h.2 with ⟨rfl, h0⟩ | ⟨g, cap, cur, rfl, _, hg, _⟩
  · have : l = [] := List.eq_nil_of_length_eq_zero h0
    subst this
    exact ⟨none, 0, rfl, .inl rfl⟩
  · refine ⟨_, cap, rfl, .inr ⟨g, 0, rfl, fun k x hk j u hj => ?_⟩⟩
    have := h.cells (g := g) rfl (k * size + j) u (flatR_get f size hf l k x hk j u hj)
    rw [cell_add] at this
    rw [Nat.add_assoc]
    exact this
end
theorem owns_keep {w W : World} {base e size n : Nat} {v : Value} {xs : List Value} (h : w.ownsRow base e size v n xs) (hb : Below w.heap.size w W) : W.ownsRow base e size v n xs := by
  refine ⟨h.1, h.2.imp id fun ⟨g, cap, cur, e1, h1, h2, h3⟩ => ⟨g, cap, cur, e1, h1, (hb.block g ?_).trans h2, h3⟩⟩
  by_cases hlt : g < w.heap.size
  · exact hlt
  · rw [Array.getElem?_eq_none (by omega)] at h2
    cases h2
theorem own_shape {w : World} {base e size n : Nat} {v : Value} {xs : List Value} (h : w.ownsRow base e size v n xs) : ∃ a c, v = .slice a n c := by
  rcases h.2 with ⟨rfl, h0⟩ | ⟨g, cap, cur, rfl, _⟩
  · exact ⟨none, 0, by rw [h0]⟩
  · exact ⟨_, cap, rfl⟩
theorem info_any {t sz by_ : Nat} (h : (Tryz.prog.info? t).map (fun i => (i.zero.map fun z => z.cells.size, i.size, i.bytes)) = some (some sz, sz, by_)) : ∃ i z, Tryz.prog.info? t = some i ∧ i.zero = some z ∧ i.size = sz ∧ i.bytes = by_ ∧ z.cells.size = sz := by
  cases hi : Tryz.prog.info? t with
  | none => rw [hi] at h; cases h
  | some i =>
    rw [hi] at h
    simp only [Option.map_some, Option.some.injEq, Prod.mk.injEq] at h
    obtain ⟨h1, h2, h3⟩ := h
    cases hz : i.zero with
    | none => rw [hz] at h1; cases h1
    | some z =>
      rw [hz] at h1
      simp only [Option.map_some, Option.some.injEq] at h1
      exact ⟨i, z, rfl, hz, h2, h3, h1⟩
theorem info68 : (Tryz.prog.info? 68).map (fun i => (i.zero.map fun z => z.cells.size, i.size, i.bytes)) = some (some 6, 6, 56) := by kernel_rfl
theorem symC_len (x : SymT) : x.cells.length = 6 := rfl
theorem relC_len (x : RelT) : x.cells.length = 5 := rfl
theorem secC_len (x : SecT) : x.cells.length = 5 := rfl
theorem symC_one (x : SymT) : ∀ u ∈ x.cells, u.oneCell' = true := fun u hu => by
  simp only [SymT.cells, List.mem_cons, List.not_mem_nil, or_false] at hu
  rcases hu with rfl | rfl | rfl | rfl | rfl | rfl <;> rfl
theorem relC_one (x : RelT) : ∀ u ∈ x.cells, u.oneCell' = true := fun u hu => by
  simp only [RelT.cells, List.mem_cons, List.not_mem_nil, or_false] at hu
  rcases hu with rfl | rfl | rfl | rfl | rfl <;> rfl
theorem secC_one (x : SecT) : ∀ u ∈ x.cells, u.oneCell' = true := fun u hu => by
  simp only [SecT.cells, List.mem_cons, List.not_mem_nil, or_false] at hu
  rcases hu with rfl | rfl | rfl | rfl | rfl <;> rfl
def namesL (o : ObjT) : List SymT := o.rels.map fun r => o.syms.getD r.sym.toNat default
theorem take_snoc {α : Type} {l : List α} {k : Nat} {x : α} (hx : l[k]? = some x) : l.take (k + 1) = l.take k ++ [x] := by rw [List.take_add_one, hx]; rfl
end Go.Ev

namespace Go.Ev
open Go.RowKit Go.Proofs Go.Rw
def SrcB (w : World) (a : Option Addr) (n : Nat) (ys : List Int) : Prop := ys.length = n ∧ (∀ y ∈ ys, InB y) ∧ (a = none → n = 0) ∧ ∀ ad, a = some ad → ∀ j u, (byL ys)[j]? = some u → w.cell? (ad.add j) = some u
theorem SrcB.below {w w' : World} {a : Option Addr} {n : Nat} {ys : List Int} (h : SrcB w a n ys) (hb : Below w.heap.size w w') : SrcB w' a n ys :=
  ⟨h.1, h.2.1, h.2.2.1, fun ad ha j u hj => (hb.cell (low_of_cell (h.2.2.2 ad ha j u hj))).trans (h.2.2.2 ad ha j u hj)⟩
theorem byL_oneCell (ys : List Int) : ∀ u ∈ byL ys, u.oneCell' = true := fun u hu => by
  obtain ⟨y, _, rfl⟩ := List.mem_map.1 hu
  rfl
theorem byL_length (ys : List Int) : (byL ys).length = ys.length := by simp [byL]
theorem byL_append (xs ys : List Int) : byL (xs ++ ys) = byL xs ++ byL ys := by simp [byL]
theorem run_append_none (w : World) (a : Option Addr) (n c k : Nat) (h : n ≤ c) (ty : TypeId) : (Builtin.append_ #[34, 34] ty #[.slice a n c, .slice none 0 k]).run Tryz.prog w = .ok (.slice a n c) w := by
  obtain ⟨i0, hi, hz0, hz1, hz2⟩ := info_parts infoW
  cases a <;> simp [Builtin.append_, run_underlying Tryz.underlying34, run_underlying Tryz.underlying5, sizeOf, typeInfo, hi, Builtin.lenOf, Builtin.firstCells, h, storeCells]
theorem wpList_append_none {w : World} {ops : Array Oper} {rest : List Oper} {o : Oper} {a : Act} {Q : Exit → Act → World → Prop} (hgd : o.guard = none) (s x : Operand)
    (ho : o.op = .call { callee := .builtin .append, args := #[s, x], argTypes := #[34, 34] }) {va : Option Addr} {n c k : Nat} (hs : a.eval s = .slice va n c) (hx : a.eval x = .slice none 0 k) (hle : n ≤ c)
    (h : wpList Tryz.prog ops Q rest (a.put o.dst (.slice va n c)) w) : wpList Tryz.prog ops Q (o :: rest) a w := by
  refine wpList_plain hgd fun _ hK => ?_
  have hr := run_append_none w va n c k hle o.type
  unfold Oper.wp execOp
  simp only [ho, resolve, invoke, builtin, Sem.run_bind, Sem.run_pure, Result.andThen_ok, List.map_toArray, List.map_cons, List.map_nil, hs, hx, hr]
  exact hK _ _ h
theorem own_capped {w : World} {base e size n c : Nat} {a : Option Addr} {xs : List Value} (h : w.ownsRow base e size (.slice a n c) n xs) : n ≤ c := by
  rcases h.2 with ⟨h0, h1⟩ | ⟨g, cap, cur, h0, _, _, h1, _⟩
  · cases h0; omega
  · cases h0
    exact h1
set_option maxRecDepth 100000 in
set_option maxHeartbeats 2000000 in
theorem bytesN_c {w : World} {base g n c : Nat} {a : Option Addr} {ob : Option Nat} {xs : List Value} {ys : List Int} (h : WrS w base g ob xs) (hs : SrcB w a n ys) (hbase : base ≤ w.heap.size) (hn : xs.length ≤ 10000000) (hm : n ≤ 10000000) :
    Calls Tryz.prog 76 #[.pointer (some ⟨g, 0, none⟩), .slice a n c] w (WrR base g ob (xs ++ byL ys) w) := by
  have hlt := h.lt
  obtain ⟨v, hg, hown, hob, hne⟩ := h
  have c0 : w.cell? ⟨g, 0, none⟩ = some v := by simp [World.cell?, hg]
  have f0 : w.frozen? ⟨g, 0, none⟩ = false := by simp [World.frozen?, hg]
  obtain ⟨i0, hi, hz0, hz1, hz2⟩ := info_parts infoW
  obtain ⟨hs1, hs2, hs0, hs3⟩ := hs
  cases a with
  | none =>
    obtain rfl : n = 0 := hs0 rfl
    obtain rfl : ys = [] := List.eq_nil_of_length_eq_zero hs1
    obtain ⟨va, vc, rfl⟩ := own_shape hown
    have hcap := own_capped hown
    have hres := Lib.hid (show WrS (w.setCell ⟨g, 0, none⟩ (.slice va xs.length vc)) base g ob (xs ++ byL []) ∧ Wst w (w.setCell ⟨g, 0, none⟩ (.slice va xs.length vc)) g ob ob by
      refine ⟨⟨_, heap_setCell_same _ _ 0 _ _ _ hg, ?_, hob, hne⟩, ⟨rfl, rfl, rfl, by simp, fun k hk hkg _ => heap_setCell_other w ⟨g, 0, none⟩ k _ hkg, .inl rfl⟩⟩
      rw [show xs ++ byL [] = xs by simp [byL]]
      exact hown.kept (w' := w.setCell ⟨g, 0, none⟩ _) (row := some g) ⟨rfl, rfl, rfl, by simp, fun k _ hne => heap_setCell_other w ⟨g, 0, none⟩ k _ (fun e => hne (by rw [e]))⟩ (.inr (by rw [hob]; exact hne)))
    clear hown hs3 hs2 hs1
    go_enter Tryz.func76, Tryz.ntmps76
    go_wp2_with (at_builtin; refine wpList_append_none rfl _ _ rfl rfl rfl hcap ?_)
    refine bodyPost_end (results_none rfl _ _ _) rfl ?_
    exact ⟨rfl, ob, hres.out.1, hres.out.2⟩
  | some ad =>
    have hv1 := hs3 ad rfl
    have hl := byL_length ys
    have ho := byL_oneCell ys
    clear hs3
    go_enter Tryz.func76, Tryz.ntmps76
    go_wp2_with (at_builtin; refine wpList_append_fresh rfl _ _ 34 rfl base 5 i0 (.int .u8 0) 1 1 Tryz.underlying34 hi hz0 hz1 hz2 rfl (by decide) v xs.length xs rfl hown ad n c (byL ys) rfl (by omega) hv1 ho (by unfold maxLen; omega) (by omega) hbase ?_)
    intro v' w1 hown1 hgr hfr
    have hg1 : w1.heap[g]? = some (.cells #[v] 98 (0, 0)) := (hgr.block g hlt.1 (by first | (rw [hob]; exact fun e => hne e.symm) | exact fun e => hne e.symm)).trans hg
    have c1 : w1.cell? ⟨g, 0, none⟩ = some v := by simp [World.cell?, hg1]
    have f1 : w1.frozen? ⟨g, 0, none⟩ = false := by simp [World.frozen?, hg1]
    have hgg : v'.ownBlock ≠ some g := by
      rcases hfr with e | ⟨k, e, hk⟩
      · rw [e]; simpa [hob] using hne
      · rw [e]; intro e'; cases e'; omega
    have hst : Wst w (w1.setCell ⟨g, 0, none⟩ v') g ob v'.ownBlock := ⟨hgr.os, hgr.tape, hgr.output, Nat.le_trans hgr.size (by simp), fun k hk hkg hko => (heap_setCell_other w1 ⟨g, 0, none⟩ k v' hkg).trans (hgr.block k hk (fun e => hko (by first | (rw [hob] at e; exact e.symm) | exact e.symm))), by simpa [hob] using hfr⟩
    have hwr : WrS (w1.setCell ⟨g, 0, none⟩ v') base g v'.ownBlock (xs ++ byL ys) := by
      refine ⟨v', heap_setCell_same _ _ 0 _ _ _ hg1, ?_, rfl, hgg⟩
      rw [List.length_append, hl, hs1]
      exact hown1.kept (w' := w1.setCell ⟨g, 0, none⟩ v') (row := some g) ⟨rfl, rfl, rfl, by simp, fun k _ hne => heap_setCell_other w1 ⟨g, 0, none⟩ k v' (fun e => hne (by rw [e]))⟩ (.inr hgg)
    obtain ⟨a', c', rfl⟩ := own_shape hown1
    have hst := Lib.hid hst
    have hwr := Lib.hid hwr
    clear hown1 hgr hfr hv1 ho
    go_wp2
    refine bodyPost_end (results_none rfl _ _ _) rfl ?_
    exact ⟨rfl, _, hwr.out, hst.out⟩
end Go.Ev

namespace Go.Ev
open Go.RowKit Go.Proofs Go.Rw
theorem add_blk (a : Addr) (i : Nat) : (a.add i).block = a.block := by unfold Addr.add; split <;> rfl
theorem SrcB.wst {w w' : World} {a : Option Addr} {n g : Nat} {ob ob' : Option Nat} {ys : List Int} (h : SrcB w a n ys) (hS : Wst w w' g ob ob') (hd : ∀ ad, a = some ad → 0 < n → ad.block ≠ g ∧ ob ≠ some ad.block) : SrcB w' a n ys :=
  ⟨h.1, h.2.1, h.2.2.1, fun ad ha j u hj => by
    have hp : 0 < n := by have := (List.getElem?_eq_some_iff.1 hj).1; rw [byL_length, h.1] at this; omega
    exact hS.cell (h.2.2.2 ad ha j u hj) (by rw [add_blk]; exact (hd ad ha hp).1) (by rw [add_blk]; exact (hd ad ha hp).2)⟩
theorem WrS.keep {W W' : World} {base g : Nat} {ob : Option Nat} {xs : List Value} (h : WrS W base g ob xs) (hb : Below W.heap.size W W') : WrS W' base g ob xs := by
  have hlt := h.lt.1
  obtain ⟨v, h1, h2, h3, h4⟩ := h
  exact ⟨v, (hb.block g hlt).trans h1, owns_keep h2 hb, h3, h4⟩
theorem wst_below {w w' : World} (h : Below w.heap.size w w') (g : Nat) (ob : Option Nat) : Wst w w' g ob ob := ⟨h.os, h.tape, h.output, h.size, fun k hk _ _ => h.block k hk, .inl rfl⟩
theorem bytesWorld_below (w : World) (s : ByteArray) : Below w.heap.size w (Lib.bytesWorld w 5 s) := ⟨rfl, rfl, rfl, by rw [Lib.bytesWorld_size]; omega, fun k hk => Lib.bytesWorld_at_old w 5 s k hk⟩
def strI (s : ByteArray) : List Int := s.data.toList.map fun b => (b.toNat : Int)
theorem strI_len (s : ByteArray) : (strI s).length = s.size := by simp [strI]
theorem strI_in (s : ByteArray) : ∀ y ∈ strI s, InB y := fun y hy => by
  obtain ⟨b, _, rfl⟩ := List.mem_map.1 hy
  have := b.toNat_lt
  exact ⟨by omega, by omega⟩
theorem srcB_conv (w : World) (s : ByteArray) : SrcB (Lib.bytesWorld w 5 s) (some ⟨w.heap.size, 0, none⟩) s.size (strI s) := by
  refine ⟨strI_len s, strI_in s, fun h => (by cases h), fun ad ha j u hj => ?_⟩
  cases ha
  rw [cell_add, Nat.zero_add]
  have hjl : j < s.size := by
    have := (List.getElem?_eq_some_iff.1 hj).1
    rwa [byL_length, strI_len] at this
  rw [Lib.bytesWorld_cell w 5 s j hjl]
  unfold byL strI at hj
  rw [List.map_map, List.getElem?_map] at hj
  cases hb : s.data.toList[j]? with
  | none => rw [hb] at hj; cases hj
  | some b =>
    rw [hb] at hj
    rw [List.getD, hb]
    exact hj
set_option maxRecDepth 100000 in
set_option maxHeartbeats 1000000 in
theorem counted_c {w : World} {base g n c : Nat} {a : Option Addr} {ob : Option Nat} {xs : List Value} {ys : List Int} (h : WrS w base g ob xs) (hs : SrcB w a n ys) (hd : ∀ ad, a = some ad → 0 < n → ad.block ≠ g ∧ ob ≠ some ad.block) (hbase : base ≤ w.heap.size) (hn : xs.length ≤ 4000000) (hm : n ≤ 1000000) :
    Calls Tryz.prog 85 #[.pointer (some ⟨g, 0, none⟩), .slice a n c] w (WrR base g ob (xs ++ byL (numL n ++ ys)) w) := by
  have h := Lib.hid h
  have hnl := numL_len 8 n (by omega)
  have hlen : (xs ++ byL (numL n)).length ≤ 10000000 := by rw [List.length_append, byL_length]; omega
  go_enter Tryz.func85, Tryz.ntmps85
  go_wp2_with (first | (go_at_call 170; refine (number_c h.out hbase (by omega) (by omega)).mono ?_; rintro e w1 ⟨rfl, ob1, hW1, hS1⟩; have hW1 := Lib.hid hW1) | (go_at_call 76; refine (bytesN_c hW1.out (hs.wst hS1 hd) (Nat.le_trans hbase hS1.size) hlen (by omega)).mono ?_; rintro e w2 ⟨rfl, ob2, hW2, hS2⟩; have hW2 := Lib.hid hW2))
  refine bodyPost_end (results_none rfl _ _ _) rfl ?_
  exact ⟨rfl, ob2, by rw [byL_append, ← List.append_assoc]; exact hW2.out, hS1.trans hS2⟩
def textL (s : ByteArray) : List Int := numL s.size ++ strI s
set_option maxRecDepth 100000 in
set_option maxHeartbeats 1000000 in
theorem text_c {w : World} {base g : Nat} {ob : Option Nat} {xs : List Value} (s : ByteArray) (h : WrS w base g ob xs) (hbase : base ≤ w.heap.size) (hn : xs.length ≤ 4000000) (hm : s.size ≤ 1000000) :
    Calls Tryz.prog 84 #[.pointer (some ⟨g, 0, none⟩), .string s] w (WrR base g ob (xs ++ byL (textL s)) w) := by
  have hconv := Lib.run_convert_string_bytes (P := Tryz.prog) w 9 34 5 s Tryz.underlying9 Tryz.underlying34 Tryz.underlying5
  have hbw := bytesWorld_below w s
  have hlt := h.lt
  have hC := fun c => counted_c (c := c) (h.keep hbw) (srcB_conv w s) (fun ad ha _ => by
    cases ha
    exact ⟨(show w.heap.size ≠ g by have := hlt.1; omega), fun e => by have h3 : w.heap.size < w.heap.size := (hlt.2 _ e).2; omega⟩) (Nat.le_trans hbase hbw.size) hn hm
  generalize Lib.bytesWorld w 5 s = w1 at hconv hbw hC
  have hC := Lib.hid hC
  clear h hlt
  go_enter Tryz.func84, Tryz.ntmps84
  go_wp2_with (go_at_call 85; refine (hC.out _).mono ?_; rintro e w2 ⟨rfl, ob2, hW2, hS2⟩; have hW2 := Lib.hid hW2)
  refine bodyPost_end (results_none rfl _ _ _) rfl ?_
  exact ⟨rfl, ob2, hW2.out, (wst_below hbw g ob).trans hS2⟩
def wordL (z : Int) : List Int := [z % 256, z / 256 % 256, z / 65536 % 256, z / 16777216]
set_option maxRecDepth 100000 in
set_option maxHeartbeats 1000000 in
theorem word_c {w : World} {base g : Nat} {ob : Option Nat} {xs : List Value} {z : Int} (h0 : 0 ≤ z) (h1 : z ≤ 4294967295) (h : WrS w base g ob xs) (hbase : base ≤ w.heap.size) (hn : xs.length ≤ 4000000) :
    Calls Tryz.prog 86 #[.pointer (some ⟨g, 0, none⟩), .int .u32 z] w (WrR base g ob (xs ++ byL (wordL z)) w) := by
  have hbw := one_below w (.cells #[.int .u8 (z % 256), .int .u8 (z / 256 % 256), .int .u8 (z / 65536 % 256), .int .u8 (z / 16777216)] 5)
  have hsrc : SrcB (w.alloc (.cells #[.int .u8 (z % 256), .int .u8 (z / 256 % 256), .int .u8 (z / 65536 % 256), .int .u8 (z / 16777216)] 5)) (some ⟨w.heap.size, 0, none⟩) 4 (wordL z) := by
    refine ⟨rfl, fun y hy => ?_, fun h => (by cases h), fun ad ha j u hj => ?_⟩
    · simp only [wordL, List.mem_cons, List.not_mem_nil, or_false] at hy
      rcases hy with rfl | rfl | rfl | rfl <;> exact ⟨by omega, by omega⟩
    · cases ha
      rw [cell_add, Nat.zero_add]
      exact new_cell w _ 5 j u (by simpa [wordL, byL] using hj)
  have hC := fun c => bytesN_c (c := c) (h.keep hbw) hsrc (Nat.le_trans hbase hbw.size) (by omega) (by omega)
  have hC := Lib.hid hC
  clear hsrc h
  go_enter Tryz.func86, Tryz.ntmps86
  go_wp2_with (go_at_call 76; refine (hC.out _).mono ?_; rintro e w2 ⟨rfl, ob2, hW2, hS2⟩; have hW2 := Lib.hid hW2)
  refine bodyPost_end (results_none rfl _ _ _) rfl ?_
  exact ⟨rfl, ob2, hW2.out, (wst_below hbw g ob).trans hS2⟩
end Go.Ev

namespace Go.Ev
open Go.RowKit Go.Proofs Go.Rw
theorem numL_len9 (n : Nat) (h : n ≤ 4611686018427387904) : (byL (numL n)).length ≤ 9 := by
  rw [byL_length]
  exact numL_len 8 n (by omega)
theorem textL_len (s : ByteArray) (h : s.size ≤ 1000000) : (byL (textL s)).length ≤ s.size + 9 := by
  have := numL_len 8 s.size (by omega)
  rw [byL_length, textL, List.length_append, strI_len]
  omega
theorem zig_le {z : Int} (h0 : -1000000000 ≤ z) (h1 : z ≤ 1000000000) : zig z ≤ 4611686018427387904 := by unfold zig; split <;> omega
theorem signed2_c {w : World} {base g : Nat} {ob : Option Nat} {xs : List Value} {z : Int} (h : WrS w base g ob xs) (hbase : base ≤ w.heap.size) (hn : xs.length ≤ 5000000) (h0 : -2147483648 ≤ z) (h1 : z ≤ 2147483647) :
    Calls Tryz.prog 171 #[.pointer (some ⟨g, 0, none⟩), .int .i64 z] w (WrR base g ob (xs ++ byL (numL (zig z))) w) := by
  have h := Lib.hid h
  by_cases c : z < 0
  · rw [show zig z = (-2 * z - 1).toNat from if_pos c]
    have e1 : wrap64 (-2 * z) = -2 * z := by unfold wrap64; omega
    have e2 : wrap64 (-2 * z - 1) = -2 * z - 1 := by unfold wrap64; omega
    go_enter Tryz.func171, Tryz.ntmps171
    go_wp2_with (go_at_call 170; refine (number_i h.out hbase hn (by omega) (by omega)).mono ?_; rintro e w1 ⟨rfl, hr⟩)
    refine bodyPost_ret (results_none rfl _ _ _) rfl ?_
    exact ⟨rfl, hr⟩
  · rw [show zig z = (2 * z).toNat from if_neg c]
    have e1 : wrap64 (2 * z) = 2 * z := by unfold wrap64; omega
    go_enter Tryz.func171, Tryz.ntmps171
    go_wp2_with (go_at_call 170; refine (number_i h.out hbase hn (by omega) (by omega)).mono ?_; rintro e w1 ⟨rfl, hr⟩)
    refine bodyPost_ret (results_none rfl _ _ _) rfl ?_
    exact ⟨rfl, hr⟩
def secL (x : SecT) (B : ByteArray) : List Int := textL x.name ++ (numL x.rights.toNat ++ (numL x.align.toNat ++ ((numL x.bn ++ strI B) ++ numL x.zero.toNat)))
def symL (x : SymT) : List Int := textL x.name ++ (numL (zig x.sec) ++ (numL x.val.toNat ++ (numL x.size.toNat ++ numL (x.bind + 4 * x.kind).toNat)))
def relL (x : RelT) : List Int := numL x.sec.toNat ++ (numL x.off.toNat ++ (numL x.kind.toNat ++ (numL x.sym.toNat ++ numL (zig x.add))))
set_option maxRecDepth 100000 in
set_option maxHeartbeats 4000000 in
theorem wsec_c {w : World} {base g : Nat} {ob : Option Nat} {xs : List Value} (x : SecT) (B : ByteArray) (h : WrS w base g ob xs) (hbase : base ≤ w.heap.size) (hn : xs.length ≤ 3000000) (hg : base ≤ g) (hok : SecOk x) (hs : SrcB w x.ba x.bn (strI B)) (hd : ∀ ad, x.ba = some ad → 0 < x.bn → ad.block < base) (hbn : x.bn ≤ 65536) (hnm : x.name.size ≤ 1000) :
    Calls Tryz.prog 78 #[.pointer (some ⟨g, 0, none⟩), .agg #[.string x.name, .int .i64 x.rights, .int .i64 x.align, .slice x.ba x.bn x.bc, .int .i64 x.zero]] w (WrR base g ob (xs ++ byL (secL x B)) w) := by
  obtain ⟨xn, xr, xa, xb, xl, xc, xz⟩ := x
  obtain ⟨-, ⟨r0, r1⟩, ⟨r2, r3⟩, -, r4, r5⟩ := hok
  dsimp only at *
  have hB := hs.1
  have n1 := textL_len xn (by omega)
  have n2 := numL_len9 xr.toNat (by omega)
  have n3 := numL_len9 xa.toNat (by omega)
  have n4 := numL_len9 xl (by omega)
  have n5 : (byL (numL xl ++ strI B)).length ≤ 65545 := by rw [byL_append, List.length_append, byL_length (strI B)]; omega
  obtain ⟨W, hW⟩ : ∃ W, W = w.alloc (.cells #[.string xn, .int .i64 xr, .int .i64 xa, .slice xb xl xc, .int .i64 xz] 66) := ⟨_, rfl⟩
  have hbW : Below w.heap.size w W := by rw [hW]; exact one_below _ _
  have c0 : W.cell? ⟨w.heap.size, 0, none⟩ = some (.string xn) := by rw [hW]; exact new_cell w _ 66 0 _ rfl
  have c1 : W.cell? ⟨w.heap.size, 1, none⟩ = some (.int .i64 xr) := by rw [hW]; exact new_cell w _ 66 1 _ rfl
  have c2 : W.cell? ⟨w.heap.size, 2, none⟩ = some (.int .i64 xa) := by rw [hW]; exact new_cell w _ 66 2 _ rfl
  have c3 : W.cell? ⟨w.heap.size, 3, none⟩ = some (.slice xb xl xc) := by rw [hW]; exact new_cell w _ 66 3 _ rfl
  have c4 : W.cell? ⟨w.heap.size, 4, none⟩ = some (.int .i64 xz) := by rw [hW]; exact new_cell w _ 66 4 _ rfl
  have hlt := h.lt
  have h0 := h.keep hbW
  have hbs : base ≤ W.heap.size := Nat.le_trans hbase hbW.size
  have hg1 : w.heap.size ≠ g := by have := hlt.1; omega
  have hg2 : ob ≠ some w.heap.size := fun e => by have := (hlt.2 _ e).2; omega
  have hs0 := hs.below hbW
  have hdd : ∀ ad, xb = some ad → 0 < xl → ad.block ≠ g ∧ ob ≠ some ad.block := fun ad ha hp => ⟨by have := hd ad ha hp; omega, fun e => by have := hd ad ha hp; have := (hlt.2 _ e).1; omega⟩
  have h0 := Lib.hid h0
  clear h
  go_enter Tryz.func78, Tryz.ntmps78
  go_wp2_with fail
  rw [← hW]
  clear hW
  refine (text_c xn h0.out hbs (by omega) (by omega)).mono ?_
  rintro e w1 ⟨rfl, ob1, hW1, hS1⟩
  have h1 := Lib.hid hW1
  have hT1 := hS1
  clear hW1 hS1
  have hb1 : base ≤ w1.heap.size := Nat.le_trans hbs hT1.size
  have d10 := hT1.cell c0 hg1 hg2
  have d11 := hT1.cell c1 hg1 hg2
  have d12 := hT1.cell c2 hg1 hg2
  have d13 := hT1.cell c3 hg1 hg2
  have d14 := hT1.cell c4 hg1 hg2
  go_wp2_with fail
  refine (number_i h1.out hb1 (by simp only [List.length_append]; omega) (by omega) (by omega)).mono ?_
  rintro e w2 ⟨rfl, ob2, hW2, hS2⟩
  have h2 := Lib.hid hW2
  have hT2 := hT1.trans hS2
  clear hW2 hS2 hT1
  have hb2 : base ≤ w2.heap.size := Nat.le_trans hbs hT2.size
  have d20 := hT2.cell c0 hg1 hg2
  have d21 := hT2.cell c1 hg1 hg2
  have d22 := hT2.cell c2 hg1 hg2
  have d23 := hT2.cell c3 hg1 hg2
  have d24 := hT2.cell c4 hg1 hg2
  clear d10 d11 d12 d13 d14
  go_wp2_with fail
  refine (number_i h2.out hb2 (by simp only [List.length_append]; omega) (by omega) (by omega)).mono ?_
  rintro e w3 ⟨rfl, ob3, hW3, hS3⟩
  have h3 := Lib.hid hW3
  have hT3 := hT2.trans hS3
  clear hW3 hS3 hT2
  have hb3 : base ≤ w3.heap.size := Nat.le_trans hbs hT3.size
  have d30 := hT3.cell c0 hg1 hg2
  have d31 := hT3.cell c1 hg1 hg2
  have d32 := hT3.cell c2 hg1 hg2
  have d33 := hT3.cell c3 hg1 hg2
  have d34 := hT3.cell c4 hg1 hg2
  clear d20 d21 d22 d23 d24
  go_wp2_with fail
  refine (counted_c h3.out (hs0.wst hT3 hdd) (fun ad ha hp => ⟨(hdd ad ha hp).1, fun e => by have := hd ad ha hp; have := (h3.out.lt.2 _ e).1; omega⟩) hb3 (by simp only [List.length_append]; omega) (by omega)).mono ?_
  rintro e w4 ⟨rfl, ob4, hW4, hS4⟩
  have h4 := Lib.hid hW4
  have hT4 := hT3.trans hS4
  clear hW4 hS4 hT3
  have hb4 : base ≤ w4.heap.size := Nat.le_trans hbs hT4.size
  have d40 := hT4.cell c0 hg1 hg2
  have d41 := hT4.cell c1 hg1 hg2
  have d42 := hT4.cell c2 hg1 hg2
  have d43 := hT4.cell c3 hg1 hg2
  have d44 := hT4.cell c4 hg1 hg2
  clear d30 d31 d32 d33 d34
  go_wp2_with fail
  refine (number_i h4.out hb4 (by simp only [List.length_append]; omega) (by omega) (by omega)).mono ?_
  rintro e w5 ⟨rfl, ob5, hW5, hS5⟩
  have h5 := Lib.hid hW5
  have hT5 := hT4.trans hS5
  clear hW5 hS5 hT4
  have hb5 : base ≤ w5.heap.size := Nat.le_trans hbs hT5.size
  go_wp2
  refine bodyPost_end (results_none rfl _ _ _) rfl ?_
  refine ⟨rfl, ob5, ?_, (wst_below hbW g ob).trans hT5⟩
  have := h5.out
  simp only [byL_append, List.append_assoc] at this
  simp only [secL, byL_append, List.append_assoc]
  exact this
set_option maxRecDepth 100000 in
set_option maxHeartbeats 4000000 in
theorem wsym_c {w : World} {base g : Nat} {ob : Option Nat} {xs : List Value} (x : SymT) (h : WrS w base g ob xs) (hbase : base ≤ w.heap.size) (hn : xs.length ≤ 3000000) (hq : (-1000000000 ≤ x.sec ∧ x.sec ≤ 1000000000) ∧ (0 ≤ x.val ∧ x.val ≤ 4294967295) ∧ (0 ≤ x.size ∧ x.size ≤ 4294967295) ∧ (0 ≤ x.bind ∧ x.bind ≤ 2) ∧ (0 ≤ x.kind ∧ x.kind ≤ 2)) (hnm : x.name.size ≤ 1000) :
    Calls Tryz.prog 80 #[.pointer (some ⟨g, 0, none⟩), .agg #[.string x.name, .int .i64 x.sec, .int .u32 x.val, .int .i64 x.size, .int .i64 x.bind, .int .i64 x.kind]] w (WrR base g ob (xs ++ byL (symL x)) w) := by
  obtain ⟨xn, xs1, xv, xz, xb, xk⟩ := x
  obtain ⟨⟨r0, r1⟩, ⟨r2, r3⟩, ⟨r4, r5⟩, ⟨r6, r7⟩, r8, r9⟩ := hq
  dsimp only at *
  have n1 := textL_len xn (by omega)
  have n2 := numL_len9 (zig xs1) (zig_le r0 r1)
  have n3 := numL_len9 xv.toNat (by omega)
  have n4 := numL_len9 xz.toNat (by omega)
  obtain ⟨W, hW⟩ : ∃ W, W = w.alloc (.cells #[.string xn, .int .i64 xs1, .int .u32 xv, .int .i64 xz, .int .i64 xb, .int .i64 xk] 68) := ⟨_, rfl⟩
  have hbW : Below w.heap.size w W := by rw [hW]; exact one_below _ _
  have c0 : W.cell? ⟨w.heap.size, 0, none⟩ = some (.string xn) := by rw [hW]; exact new_cell w _ 68 0 _ rfl
  have c1 : W.cell? ⟨w.heap.size, 1, none⟩ = some (.int .i64 xs1) := by rw [hW]; exact new_cell w _ 68 1 _ rfl
  have c2 : W.cell? ⟨w.heap.size, 2, none⟩ = some (.int .u32 xv) := by rw [hW]; exact new_cell w _ 68 2 _ rfl
  have c3 : W.cell? ⟨w.heap.size, 3, none⟩ = some (.int .i64 xz) := by rw [hW]; exact new_cell w _ 68 3 _ rfl
  have c4 : W.cell? ⟨w.heap.size, 4, none⟩ = some (.int .i64 xb) := by rw [hW]; exact new_cell w _ 68 4 _ rfl
  have c5 : W.cell? ⟨w.heap.size, 5, none⟩ = some (.int .i64 xk) := by rw [hW]; exact new_cell w _ 68 5 _ rfl
  have hlt := h.lt
  have h0 := h.keep hbW
  have hbs : base ≤ W.heap.size := Nat.le_trans hbase hbW.size
  have hg1 : w.heap.size ≠ g := by have := hlt.1; omega
  have hg2 : ob ≠ some w.heap.size := fun e => by have := (hlt.2 _ e).2; omega
  have h0 := Lib.hid h0
  clear h
  go_enter Tryz.func80, Tryz.ntmps80
  go_wp2_with fail
  rw [← hW]
  clear hW
  refine (text_c xn h0.out hbs (by omega) (by omega)).mono ?_
  rintro e w1 ⟨rfl, ob1, hW1, hS1⟩
  have h1 := Lib.hid hW1
  have hT1 := hS1
  clear hW1 hS1
  have hb1 : base ≤ w1.heap.size := Nat.le_trans hbs hT1.size
  have d10 := hT1.cell c0 hg1 hg2
  have d11 := hT1.cell c1 hg1 hg2
  have d12 := hT1.cell c2 hg1 hg2
  have d13 := hT1.cell c3 hg1 hg2
  have d14 := hT1.cell c4 hg1 hg2
  have d15 := hT1.cell c5 hg1 hg2
  go_wp2_with fail
  refine (signed_c h1.out hb1 (by simp only [List.length_append]; omega) (by omega) (by omega)).mono ?_
  rintro e w2 ⟨rfl, ob2, hW2, hS2⟩
  have h2 := Lib.hid hW2
  have hT2 := hT1.trans hS2
  clear hW2 hS2 hT1
  have hb2 : base ≤ w2.heap.size := Nat.le_trans hbs hT2.size
  have d20 := hT2.cell c0 hg1 hg2
  have d21 := hT2.cell c1 hg1 hg2
  have d22 := hT2.cell c2 hg1 hg2
  have d23 := hT2.cell c3 hg1 hg2
  have d24 := hT2.cell c4 hg1 hg2
  have d25 := hT2.cell c5 hg1 hg2
  clear d10 d11 d12 d13 d14 d15
  go_wp2_with fail
  refine (number_i h2.out hb2 (by simp only [List.length_append]; omega) (by omega) (by omega)).mono ?_
  rintro e w3 ⟨rfl, ob3, hW3, hS3⟩
  have h3 := Lib.hid hW3
  have hT3 := hT2.trans hS3
  clear hW3 hS3 hT2
  have hb3 : base ≤ w3.heap.size := Nat.le_trans hbs hT3.size
  have d30 := hT3.cell c0 hg1 hg2
  have d31 := hT3.cell c1 hg1 hg2
  have d32 := hT3.cell c2 hg1 hg2
  have d33 := hT3.cell c3 hg1 hg2
  have d34 := hT3.cell c4 hg1 hg2
  have d35 := hT3.cell c5 hg1 hg2
  clear d20 d21 d22 d23 d24 d25
  go_wp2_with fail
  refine (number_i h3.out hb3 (by simp only [List.length_append]; omega) (by omega) (by omega)).mono ?_
  rintro e w4 ⟨rfl, ob4, hW4, hS4⟩
  have h4 := Lib.hid hW4
  have hT4 := hT3.trans hS4
  clear hW4 hS4 hT3
  have hb4 : base ≤ w4.heap.size := Nat.le_trans hbs hT4.size
  have d40 := hT4.cell c0 hg1 hg2
  have d41 := hT4.cell c1 hg1 hg2
  have d42 := hT4.cell c2 hg1 hg2
  have d43 := hT4.cell c3 hg1 hg2
  have d44 := hT4.cell c4 hg1 hg2
  have d45 := hT4.cell c5 hg1 hg2
  clear d30 d31 d32 d33 d34 d35
  go_wp2_with fail
  refine (number_i h4.out hb4 (by simp only [List.length_append]; omega) (by omega) (by omega)).mono ?_
  rintro e w5 ⟨rfl, ob5, hW5, hS5⟩
  have h5 := Lib.hid hW5
  have hT5 := hT4.trans hS5
  clear hW5 hS5 hT4
  have hb5 : base ≤ w5.heap.size := Nat.le_trans hbs hT5.size
  go_wp2
  refine bodyPost_end (results_none rfl _ _ _) rfl ?_
  refine ⟨rfl, ob5, ?_, (wst_below hbW g ob).trans hT5⟩
  have := h5.out
  simp only [byL_append, List.append_assoc] at this
  simp only [symL, byL_append, List.append_assoc]
  exact this
set_option maxRecDepth 100000 in
set_option maxHeartbeats 4000000 in
theorem wrel_c {w : World} {base g : Nat} {ob : Option Nat} {xs : List Value} (x : RelT) (h : WrS w base g ob xs) (hbase : base ≤ w.heap.size) (hn : xs.length ≤ 3000000) (hq : (0 ≤ x.sec ∧ x.sec ≤ 1000000000) ∧ (0 ≤ x.off ∧ x.off ≤ 1000000000) ∧ (0 ≤ x.kind ∧ x.kind ≤ 1000000000) ∧ (0 ≤ x.sym ∧ x.sym ≤ 1000000000) ∧ (-2147483648 ≤ x.add ∧ x.add ≤ 2147483647)) :
    Calls Tryz.prog 82 #[.pointer (some ⟨g, 0, none⟩), .agg #[.int .i64 x.sec, .int .i64 x.off, .int .i64 x.kind, .int .i64 x.sym, .int .i64 x.add]] w (WrR base g ob (xs ++ byL (relL x)) w) := by
  obtain ⟨xs1, xo, xk, xy, xa⟩ := x
  obtain ⟨⟨r0, r1⟩, ⟨r2, r3⟩, ⟨r4, r5⟩, ⟨r6, r7⟩, r8, r9⟩ := hq
  dsimp only at *
  have n1 := numL_len9 xs1.toNat (by omega)
  have n2 := numL_len9 xo.toNat (by omega)
  have n3 := numL_len9 xk.toNat (by omega)
  have n4 := numL_len9 xy.toNat (by omega)
  obtain ⟨W, hW⟩ : ∃ W, W = w.alloc (.cells #[.int .i64 xs1, .int .i64 xo, .int .i64 xk, .int .i64 xy, .int .i64 xa] 94) := ⟨_, rfl⟩
  have hbW : Below w.heap.size w W := by rw [hW]; exact one_below _ _
  have c0 : W.cell? ⟨w.heap.size, 0, none⟩ = some (.int .i64 xs1) := by rw [hW]; exact new_cell w _ 94 0 _ rfl
  have c1 : W.cell? ⟨w.heap.size, 1, none⟩ = some (.int .i64 xo) := by rw [hW]; exact new_cell w _ 94 1 _ rfl
  have c2 : W.cell? ⟨w.heap.size, 2, none⟩ = some (.int .i64 xk) := by rw [hW]; exact new_cell w _ 94 2 _ rfl
  have c3 : W.cell? ⟨w.heap.size, 3, none⟩ = some (.int .i64 xy) := by rw [hW]; exact new_cell w _ 94 3 _ rfl
  have c4 : W.cell? ⟨w.heap.size, 4, none⟩ = some (.int .i64 xa) := by rw [hW]; exact new_cell w _ 94 4 _ rfl
  have hlt := h.lt
  have h0 := h.keep hbW
  have hbs : base ≤ W.heap.size := Nat.le_trans hbase hbW.size
  have hg1 : w.heap.size ≠ g := by have := hlt.1; omega
  have hg2 : ob ≠ some w.heap.size := fun e => by have := (hlt.2 _ e).2; omega
  have h0 := Lib.hid h0
  clear h
  go_enter Tryz.func82, Tryz.ntmps82
  go_wp2_with fail
  rw [← hW]
  clear hW
  refine (number_i h0.out hbs (by omega) (by omega) (by omega)).mono ?_
  rintro e w1 ⟨rfl, ob1, hW1, hS1⟩
  have h1 := Lib.hid hW1
  have hT1 := hS1
  clear hW1 hS1
  have hb1 : base ≤ w1.heap.size := Nat.le_trans hbs hT1.size
  have d10 := hT1.cell c0 hg1 hg2
  have d11 := hT1.cell c1 hg1 hg2
  have d12 := hT1.cell c2 hg1 hg2
  have d13 := hT1.cell c3 hg1 hg2
  have d14 := hT1.cell c4 hg1 hg2
  go_wp2_with fail
  refine (number_i h1.out hb1 (by simp only [List.length_append]; omega) (by omega) (by omega)).mono ?_
  rintro e w2 ⟨rfl, ob2, hW2, hS2⟩
  have h2 := Lib.hid hW2
  have hT2 := hT1.trans hS2
  clear hW2 hS2 hT1
  have hb2 : base ≤ w2.heap.size := Nat.le_trans hbs hT2.size
  have d20 := hT2.cell c0 hg1 hg2
  have d21 := hT2.cell c1 hg1 hg2
  have d22 := hT2.cell c2 hg1 hg2
  have d23 := hT2.cell c3 hg1 hg2
  have d24 := hT2.cell c4 hg1 hg2
  clear d10 d11 d12 d13 d14
  go_wp2_with fail
  refine (number_i h2.out hb2 (by simp only [List.length_append]; omega) (by omega) (by omega)).mono ?_
  rintro e w3 ⟨rfl, ob3, hW3, hS3⟩
  have h3 := Lib.hid hW3
  have hT3 := hT2.trans hS3
  clear hW3 hS3 hT2
  have hb3 : base ≤ w3.heap.size := Nat.le_trans hbs hT3.size
  have d30 := hT3.cell c0 hg1 hg2
  have d31 := hT3.cell c1 hg1 hg2
  have d32 := hT3.cell c2 hg1 hg2
  have d33 := hT3.cell c3 hg1 hg2
  have d34 := hT3.cell c4 hg1 hg2
  clear d20 d21 d22 d23 d24
  go_wp2_with fail
  refine (number_i h3.out hb3 (by simp only [List.length_append]; omega) (by omega) (by omega)).mono ?_
  rintro e w4 ⟨rfl, ob4, hW4, hS4⟩
  have h4 := Lib.hid hW4
  have hT4 := hT3.trans hS4
  clear hW4 hS4 hT3
  have hb4 : base ≤ w4.heap.size := Nat.le_trans hbs hT4.size
  have d40 := hT4.cell c0 hg1 hg2
  have d41 := hT4.cell c1 hg1 hg2
  have d42 := hT4.cell c2 hg1 hg2
  have d43 := hT4.cell c3 hg1 hg2
  have d44 := hT4.cell c4 hg1 hg2
  clear d30 d31 d32 d33 d34
  go_wp2_with fail
  refine (signed2_c h4.out hb4 (by simp only [List.length_append]; omega) (by omega) (by omega)).mono ?_
  rintro e w5 ⟨rfl, ob5, hW5, hS5⟩
  have h5 := Lib.hid hW5
  have hT5 := hT4.trans hS5
  clear hW5 hS5 hT4
  have hb5 : base ≤ w5.heap.size := Nat.le_trans hbs hT5.size
  go_wp2
  refine bodyPost_end (results_none rfl _ _ _) rfl ?_
  refine ⟨rfl, ob5, ?_, (wst_below hbW g ob).trans hT5⟩
  have := h5.out
  simp only [byL_append, List.append_assoc] at this
  simp only [relL, byL_append, List.append_assoc]
  exact this
end Go.Ev

