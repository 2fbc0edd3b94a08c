import Derived.Test.YtepopmplcjhfbaaGreatObGab
import Derived.Test.YtepopmplcjhfbaaGreatObBase
import Derived.Deep.DeepAppendRoom
set_option linter.unusedSectionVars false
set_option linter.unusedVariables false
set_option linter.unusedSimpArgs false
set_option linter.unnecessarySimpa false
/-
  Stage 3: an append to a slice of the call's own, with the word where it then lies.
-/
namespace Go.Ev
open Go.RowKit Go.Proofs Go.Rw
section
variable {P : Program}
theorem run_append_fresh (w : World) (base : Nat) (t ty e : TypeId) (i : TypeInfo) (z : Value) (size bytes : Nat) (ht : P.underlying t = some (.slice e)) (hi : P.info? e = some i) (hz : i.zero = some z)
    (hsize : i.size = size) (hby : i.bytes = bytes) (hzs : z.cells.size = size) (hsz : 0 < size)
    (v : Value) (n : Nat) (xs : List Value) (hown : w.ownsRow base e size v n xs)
    (a : Addr) (m c : Nat) (news : List Value) (hl : news.length = m * size) (hnews : ∀ j u, news[j]? = some u → w.cell? (a.add j) = some u) (h1 : ∀ u ∈ news, u.oneCell' = true)
    (h63 : n + m ≤ maxLen) (hbytes : (n + m) * bytes ≤ 140737488355328) (hbase : base ≤ w.heap.size) :
    ∃ v' w', (Builtin.append_ #[t, t] ty #[v, .slice (some a) m c]).run P w = .ok v' w' ∧ w'.ownsRow base e size v' (n + m) (xs ++ news) ∧ w.grownBy w' v.ownBlock ∧
      (v'.ownBlock = v.ownBlock ∨ ∃ k, v'.ownBlock = some k ∧ w.heap.size ≤ k) := by
  obtain ⟨v', w', hr, h2, h3, h4⟩ := run_append_own (P := P) w base t ty e i z size bytes ht hi hz hsize hby hzs hsz v n xs hown a m c news hl hnews h1 h63 hbytes hbase
  refine ⟨v', w', hr, h2, h3, ?_⟩
  rcases hown.2 with ⟨rfl, rfl⟩ | ⟨g, cap, cur, rfl, hbg, hg, hnc, hcm, hcs, htake⟩
  · have hx : xs = [] := List.eq_nil_of_length_eq_zero (by simpa using hown.1)
    subst hx
    obtain ⟨v'', w'', hr', h2', -, -⟩ := run_append_own (P := P) w w.heap.size t ty e i z size bytes ht hi hz hsize hby hzs hsz _ 0 [] (World.ownsRow_nil w _ e size) a m c news hl hnews h1 h63 hbytes (Nat.le_refl _)
    rw [hr] at hr'
    cases hr'
    cases hob : v'.ownBlock with
    | none => exact .inl rfl
    | some k => exact .inr ⟨k, rfl, (h2'.lt k hob).1⟩
  · by_cases hroom : n + m ≤ cap
    · obtain ⟨w'', hr', -, -⟩ := run_append_own_spare (P := P) w base t ty e i size ht hi hsize g n cap xs hown a m c news hl hnews h1 hroom
      rw [hr] at hr'
      cases hr'
      exact .inl rfl
    · subst hsize
      subst hby
      have hsmall : n + m ≤ 9223372036854775807 := by simp only [maxLen] at h63; omega
      have holds : ∀ j u, xs[j]? = some u → w.cell? ((⟨g, 0, none⟩ : Addr).add j) = some u := hown.cells (g := g) rfl
      have hr' := run_append_grow (P := P) w t ty e i z ht hi hz ⟨g, 0, none⟩ n cap xs hown.1 holds a m c news hl hnews (by omega) (by omega) (growslice_fits (by omega) hbytes)
      rw [hr] at hr'
      cases hr'
      exact .inr ⟨w.heap.size, rfl, Nat.le_refl _⟩
theorem wpList_append_fresh {w : World} {ops : Array Oper} {rest : List Oper} {o : Oper} {a : Act} {Q : Exit → Act → World → Prop} (hgd : o.guard = none) (s x : Operand) (t : TypeId)
    (ho : o.op = .call { callee := .builtin .append, args := #[s, x], argTypes := #[t, t] })
    (base : Nat) (e : TypeId) (i : TypeInfo) (z : Value) (size bytes : Nat) (ht : P.underlying t = some (.slice e)) (hi : P.info? e = some i) (hz : i.zero = some z)
    (hsize : i.size = size) (hby : i.bytes = bytes) (hzs : z.cells.size = size) (hsz : 0 < size)
    (v : Value) (n : Nat) (xs : List Value) (hs : a.eval s = v) (hown : w.ownsRow base e size v n xs)
    (ad : Addr) (m c : Nat) (news : List Value) (hx : a.eval x = .slice (some ad) m c) (hl : news.length = m * size) (hnews : ∀ j u, news[j]? = some u → w.cell? (ad.add j) = some u) (h1 : ∀ u ∈ news, u.oneCell' = true)
    (h63 : n + m ≤ maxLen) (hbytes : (n + m) * bytes ≤ 140737488355328) (hbase : base ≤ w.heap.size)
    (h : ∀ v' w', w'.ownsRow base e size v' (n + m) (xs ++ news) → w.grownBy w' v.ownBlock → (v'.ownBlock = v.ownBlock ∨ ∃ k, v'.ownBlock = some k ∧ w.heap.size ≤ k) → wpList P ops Q rest (a.put o.dst v') w') : wpList P ops Q (o :: rest) a w := by
  refine wpList_plain hgd fun _ hK => ?_
  obtain ⟨v', w', hr, h2, h3, h4⟩ := run_append_fresh (P := P) w base t o.type e i z size bytes ht hi hz hsize hby hzs hsz v n xs hown ad m c news hl hnews h1 h63 hbytes hbase
  unfold Oper.wp execOp
  simp only [ho, resolve, invoke, builtin, Sem.run_bind, Sem.run_pure, Result.andThen_ok, List.map_toArray, List.map_cons, List.map_nil, hs, hx, hr]
  exact hK _ _ (h v' w' h2 h3 h4)
end
end Go.Ev

/-
  Stage 3: the program's writer.
-/
namespace Go.Ev
open Go.RowKit Go.Proofs Go.Rw
/-- Only block g, the buffer, and what is new, may differ. -/
structure Wst (w w' : World) (g : Nat) (ob ob' : Option Nat) : Prop where
  os : w'.os = w.os
  tape : w'.tape = w.tape
  output : w'.output = w.output
  size : w.heap.size ≤ w'.heap.size
  block : ∀ k, k < w.heap.size → k ≠ g → ob ≠ some k → w'.heap[k]? = w.heap[k]?
  fresh : ob' = ob ∨ ∃ k, ob' = some k ∧ w.heap.size ≤ k
theorem Wst.refl (w : World) (g : Nat) (ob : Option Nat) : Wst w w g ob ob := ⟨rfl, rfl, rfl, Nat.le_refl _, fun _ _ _ _ => rfl, .inl rfl⟩
theorem Wst.trans {w w1 w2 : World} {g : Nat} {o o1 o2 : Option Nat} (h : Wst w w1 g o o1) (h' : Wst w1 w2 g o1 o2) : Wst w w2 g o o2 := by
  refine ⟨h'.os.trans h.os, h'.tape.trans h.tape, h'.output.trans h.output, Nat.le_trans h.size h'.size, fun k hk hg ho => ?_, ?_⟩
  · refine (h'.block k (Nat.lt_of_lt_of_le hk h.size) hg ?_).trans (h.block k hk hg ho)
    rcases h.fresh with e | ⟨j, e, hj⟩
    · rw [e]; exact ho
    · rw [e]; intro e'; cases e'; omega
  · rcases h'.fresh with e | ⟨j, e, hj⟩
    · rcases h.fresh with e1 | ⟨i, e1, hi⟩
      · exact .inl (e.trans e1)
      · exact .inr ⟨i, e.trans e1, hi⟩
    · exact .inr ⟨j, e, Nat.le_trans h.size hj⟩
theorem Wst.alloc {w w' : World} {g : Nat} {o o' : Option Nat} (h : Wst w w' g o o') (A : Obj) : Wst w (w'.alloc A) g o o' :=
  ⟨h.os, h.tape, h.output, Nat.le_trans h.size (by simp), fun k hk hg ho => (heap_alloc_old w' A (Nat.lt_of_lt_of_le hk h.size)).trans (h.block k hk hg ho), h.fresh⟩
theorem Wst.setCell {w w' : World} {g : Nat} {o o' : Option Nat} (h : Wst w w' g o o') {p : Addr} (hp : w.heap.size ≤ p.block) (v : Value) : Wst w (w'.setCell p v) g o o' :=
  ⟨h.os, h.tape, h.output, Nat.le_trans h.size (by simp), fun k hk hg ho => (heap_setCell_other w' p k v (by omega)).trans (h.block k hk hg ho), h.fresh⟩
/-- The writer at block g, with its bytes in block ob. -/
def WrS (W : World) (base g : Nat) (ob : Option Nat) (xs : List Value) : Prop := ∃ v, W.heap[g]? = some (.cells #[v] 98 (0, 0)) ∧ W.ownsRow base 5 1 v xs.length xs ∧ v.ownBlock = ob ∧ ob ≠ some g
theorem WrS.lt {W : World} {base g : Nat} {ob : Option Nat} {xs : List Value} (h : WrS W base g ob xs) : g < W.heap.size ∧ ∀ k, ob = some k → base ≤ k ∧ k < W.heap.size := by
  obtain ⟨v, h1, h2, rfl, h4⟩ := h
  exact ⟨(Array.getElem?_eq_some_iff.1 h1).1, h2.lt⟩
theorem WrS.alloc {W : World} {base g : Nat} {ob : Option Nat} {xs : List Value} (h : WrS W base g ob xs) (A : Obj) : WrS (W.alloc A) base g ob xs := by
  obtain ⟨v, h1, h2, h3, h4⟩ := h
  exact ⟨v, (heap_alloc_old W A (Array.getElem?_eq_some_iff.1 h1).1).trans h1, h2.alloc A, h3, h4⟩
theorem WrS.setCell {W : World} {base g : Nat} {ob : Option Nat} {xs : List Value} (h : WrS W base g ob xs) {p : Addr} (hg : p.block ≠ g) (ho : ob ≠ some p.block) (u : Value) : WrS (W.setCell p u) base g ob xs := by
  obtain ⟨v, h1, h2, rfl, h4⟩ := h
  refine ⟨v, (heap_setCell_other W p g u (Ne.symm hg)).trans h1, ?_, rfl, h4⟩
  refine h2.kept (w' := W.setCell p u) (row := some p.block) ⟨rfl, rfl, rfl, by simp, fun k _ hne => heap_setCell_other W p k u (fun e => hne (by rw [e]))⟩ ?_
  exact .inr ho
/-- Cells of other blocks. -/
theorem Wst.cell {w w' : World} {g : Nat} {o o' : Option Nat} (h : Wst w w' g o o') {p : Addr} {v : Value} (hc : w.cell? p = some v) (hg : p.block ≠ g) (ho : o ≠ some p.block) : w'.cell? p = some v := by
  rw [World.cell?_of_block (h.block p.block (low_of_cell hc) hg ho)]
  exact hc
def WrR (base g : Nat) (ob : Option Nat) (ys : List Value) (w : World) (e : Ending) (w' : World) : Prop := e = .returned (.tuple #[]) ∧ ∃ ob', WrS w' base g ob' ys ∧ Wst w w' g ob ob'
theorem infoW : (Tryz.prog.info? 5).map (fun i => (i.zero, i.size, i.bytes)) = some (some (Value.int .u8 0), 1, 1) := by kernel_rfl
set_option maxRecDepth 100000 in
set_option maxHeartbeats 1000000 in
theorem bytes1_c {w : World} {base g b : Nat} {ob : Option Nat} {xs : List Value} {u : Value} (h : WrS w base g ob xs) (hb : w.cell? ⟨b, 0, none⟩ = some u) (hu : u.oneCell' = true) (hbase : base ≤ w.heap.size) (hn : xs.length ≤ 10000000) :
    Calls Tryz.prog 76 #[.pointer (some ⟨g, 0, none⟩), .slice (some ⟨b, 0, none⟩) 1 1] w (WrR base g ob (xs ++ [u]) w) := by
  have hlt := h.lt
  obtain ⟨v, hg, hown, hob, hne⟩ := h
  have c0 : w.cell? ⟨g, 0, none⟩ = some v := by simp [World.cell?, hg]
  obtain ⟨i0, hi, hz0, hz1, hz2⟩ := info_parts infoW
  go_enter Tryz.func76, Tryz.ntmps76
  go_wp2_with (at_builtin; refine wpList_append_fresh rfl _ _ 34 rfl base 5 i0 (.int .u8 0) 1 1 Tryz.underlying34 hi hz0 hz1 hz2 rfl (by decide) v xs.length xs rfl hown ⟨b, 0, none⟩ 1 1 [u] rfl rfl (fun j y hj => by
      match j, hj with
      | 0, hj => cases hj; rw [cell_add]; exact hb
      | j + 1, hj => cases hj) (fun y hy => by cases hy with
      | head => exact hu
      | tail _ h => cases h) (by unfold maxLen; omega) (by omega) hbase ?_)
  intro v' w1 hown1 hgr hfr
  have hg1 : w1.heap[g]? = some (.cells #[v] 98 (0, 0)) := (hgr.block g hlt.1 (by first | (rw [hob]; exact fun e => hne e.symm) | exact fun e => hne e.symm)).trans hg
  have c1 : w1.cell? ⟨g, 0, none⟩ = some v := by simp [World.cell?, hg1]
  have f1 : w1.frozen? ⟨g, 0, none⟩ = false := by simp [World.frozen?, hg1]
  have hgg : v'.ownBlock ≠ some g := by
    rcases hfr with e | ⟨k, e, hk⟩
    · rw [e]; simpa [hob] using hne
    · rw [e]; intro e'; cases e'; omega
  have hst : Wst w (w1.setCell ⟨g, 0, none⟩ v') g ob v'.ownBlock := ⟨hgr.os, hgr.tape, hgr.output, Nat.le_trans hgr.size (by simp), fun k hk hkg hko => (heap_setCell_other w1 ⟨g, 0, none⟩ k v' hkg).trans (hgr.block k hk (fun e => hko (by first | (rw [hob] at e; exact e.symm) | exact e.symm))), by simpa [hob] using hfr⟩
  have hwr : WrS (w1.setCell ⟨g, 0, none⟩ v') base g v'.ownBlock (xs ++ [u]) := by
    refine ⟨v', heap_setCell_same _ _ 0 _ _ _ hg1, ?_, rfl, hgg⟩
    rw [List.length_append, List.length_singleton]
    exact hown1.kept (w' := w1.setCell ⟨g, 0, none⟩ v') (row := some g) ⟨rfl, rfl, rfl, by simp, fun k _ hne => heap_setCell_other w1 ⟨g, 0, none⟩ k v' (fun e => hne (by rw [e]))⟩ (.inr hgg)
  obtain ⟨a', c', rfl⟩ : ∃ a' c', v' = .slice a' (xs.length + 1) c' := by
    rcases hown1.2 with ⟨_, h0⟩ | ⟨g', cap, cur, rfl, _⟩
    · omega
    · exact ⟨_, _, rfl⟩
  have hst := Lib.hid hst
  have hwr := Lib.hid hwr
  go_wp2
  refine bodyPost_ret (results_none rfl _ _ _) rfl ?_
  exact ⟨rfl, _, hwr.out, hst.out⟩
end Go.Ev

/-
  Stage 3: numbers, by the program's writer.
-/
namespace Go.Ev
open Go.RowKit Go.Proofs Go.Rw
/-- The bytes of a number. -/
def numL (n : Nat) : List Int := if n < 128 then [(n : Int)] else ((n % 128 + 128 : Nat) : Int) :: numL (n / 128)
termination_by n
decreasing_by omega
theorem numL_lt {n : Nat} (h : n < 128) : numL n = [(n : Int)] := by rw [numL]; exact if_pos h
theorem numL_ge {n : Nat} (h : ¬ n < 128) : numL n = ((n % 128 + 128 : Nat) : Int) :: numL (n / 128) := by rw [numL]; exact if_neg h
theorem numL_len : ∀ (j n : Nat), n < 128 ^ (j + 1) → (numL n).length ≤ j + 1
  | 0, n, h => by rw [numL_lt (by simpa using h)]; simp
  | j + 1, n, h => by
    by_cases h1 : n < 128
    · rw [numL_lt h1]; simp
    · rw [numL_ge h1, List.length_cons]
      have := numL_len j (n / 128) (by
        rw [Nat.pow_succ] at h
        exact Nat.div_lt_of_lt_mul (by rw [Nat.mul_comm]; exact h))
      omega
theorem numL_pos (n : Nat) : 1 ≤ (numL n).length := by
  by_cases h : n < 128
  · rw [numL_lt h]; simp
  · rw [numL_ge h]; simp
def byL (l : List Int) : List Value := l.map (Value.int .u8)
theorem or128_fin : ∀ m : Nat, m < 256 → bits .or .u8 (m : Int) 128 = ((m % 128 + 128 : Nat) : Int) := by decide +kernel
theorem or128 (k : Nat) : bits .or .u8 ((k : Int) % 256) 128 = ((k % 128 + 128 : Nat) : Int) := by
  have := or128_fin (k % 256) (by omega)
  rw [show ((k : Int) % 256) = ((k % 256 : Nat) : Int) by omega, this]
  omega
theorem byL_one (l : List Int) (z : Int) : byL (l ++ [z]) = byL l ++ [.int .u8 z] := by simp [byL]
set_option maxRecDepth 100000 in
set_option maxHeartbeats 1000000 in
theorem number_c {w : World} {base g : Nat} {ob : Option Nat} {xs : List Value} {n : Nat} (h : WrS w base g ob xs) (hbase : base ≤ w.heap.size) (hn : xs.length ≤ 5000000) (hn2 : n ≤ 4611686018427387904) :
    Calls Tryz.prog 170 #[.pointer (some ⟨g, 0, none⟩), .int .i64 (n : Int)] w (WrR base g ob (xs ++ byL (numL n)) w) := by
  have h := Lib.hid h
  go_enter Tryz.func170, Tryz.ntmps170
  go_wp2_with fail
  go_loopw [1] (fun i wr => ∃ (k : Nat) (ys : List Int) (ob' : Option Nat), i = .int .i64 k ∧ k ≤ n ∧ numL n = ys ++ numL k ∧ WrS wr base g ob' (xs ++ byL ys) ∧ Wst w wr g ob ob') (fun i _ => (intOf i).toNat)
  case atStart => exact ⟨n, [], ob, rfl, Nat.le_refl _, rfl, by simpa [byL] using h.out, Wst.refl _ _ _⟩
  case round =>
    obtain ⟨k, ys, ob', rfl, hk, hys, hW, hS⟩ := hrel
    have hyl : ys.length ≤ 9 := by
      have h1 := numL_len 8 n (by omega)
      rw [hys, List.length_append] at h1
      omega
    have hz := hS.size
    by_cases hlt : k < 128
    · have hW := Lib.hid hW
      have hys := Lib.hid hys
      go_wp2_with (go_at_call 76; refine (bytes1_c (hW.out.alloc _) (new_cell wr _ 5 0 _ rfl) rfl (by simp; omega) (by simp [byL]; omega)).mono ?_; rintro e w1 ⟨rfl, ob1, hW1, hS1⟩)
      refine bodyPost_ret (results_none rfl _ _ _) rfl ?_
      refine ⟨rfl, ob1, ?_, (hS.alloc _).trans hS1⟩
      rw [hys.out, numL_lt hlt, byL_one, ← List.append_assoc]
      exact hW1
    · have hor := or128 k
      have hW := Lib.hid hW
      have hys := Lib.hid hys
      go_wp2_with (go_at_call 76; refine (bytes1_c (hW.out.alloc _) (new_cell wr _ 5 0 _ rfl) rfl (by simp; omega) (by simp [byL]; omega)).mono ?_; rintro e w1 ⟨rfl, ob1, hW1, hS1⟩)
      go_roundw
      case rel => exact ⟨k / 128, ys ++ [((k % 128 + 128 : Nat) : Int)], ob1, by go_num, by omega, by rw [hys.out, numL_ge hlt]; simp, by rw [byL_one, ← List.append_assoc]; exact hW1, (hS.alloc _).trans hS1⟩
      case measure => simp [intOf]; omega
end Go.Ev

