import Derived.Test.YtepopmplcjhfbaaGreatObPg
set_option linter.unusedSectionVars false
set_option linter.unusedVariables false
set_option linter.unusedSimpArgs false
set_option linter.unnecessarySimpa false
/-
  Stage 3: the specification's numbers.
-/
namespace Go.Ev
open Go.RowKit Go.Proofs Go.Rw
/-- Only the row's own block, and what is new, may differ. -/
def Rst (w w' : World) (ob ob' : Option Nat) : Prop := ∀ g, Wst w w' g ob ob'
theorem wrap64_id {z : Int} (h0 : -9223372036854775808 ≤ z) (h1 : z ≤ 9223372036854775807) : wrap64 z = z := by unfold wrap64; omega
theorem Rst.refl (w : World) (ob : Option Nat) : Rst w w ob ob := fun g => Wst.refl w g ob
theorem Rst.trans {w w1 w2 : World} {o o1 o2 : Option Nat} (h : Rst w w1 o o1) (h' : Rst w1 w2 o1 o2) : Rst w w2 o o2 := fun g => (h g).trans (h' g)
theorem Rst.alloc {w w' : World} {o o' : Option Nat} (h : Rst w w' o o') (A : Obj) : Rst w (w'.alloc A) o o' := fun g => (h g).alloc A
theorem Rst.size {w w' : World} {o o' : Option Nat} (h : Rst w w' o o') : w.heap.size ≤ w'.heap.size := (h 0).size
theorem Rst.block {w w' : World} {o o' : Option Nat} (h : Rst w w' o o') {k : Nat} (hk : k < w.heap.size) (ho : o ≠ some k) : w'.heap[k]? = w.heap[k]? := (h (k + 1)).block k hk (by omega) ho
/-- A row of bytes in a slot. -/
def OwnS (W : World) (base : Nat) (ob : Option Nat) (v : Value) (xs : List Value) : Prop := W.ownsRow base 5 1 v xs.length xs ∧ v.ownBlock = ob
theorem OwnS.alloc {W : World} {base : Nat} {ob : Option Nat} {v : Value} {xs : List Value} (h : OwnS W base ob v xs) (A : Obj) : OwnS (W.alloc A) base ob v xs := ⟨h.1.alloc A, h.2⟩
theorem OwnS.form {W : World} {base : Nat} {ob : Option Nat} {v : Value} {xs : List Value} (h : OwnS W base ob v xs) : ∃ a c, v = .slice a xs.length c := by
  rcases h.1.2 with ⟨rfl, h0⟩ | ⟨g, cap, cur, rfl, _⟩
  · exact ⟨none, 0, by rw [h0]⟩
  · exact ⟨_, cap, rfl⟩
theorem one_cell {W : World} {b : Nat} {u : Value} (h : W.cell? ⟨b, 0, none⟩ = some u) : ∀ (j : Nat) (y : Value), [u][j]? = some y → W.cell? ((⟨b, 0, none⟩ : Addr).add j) = some y := fun j y hj => by
  match j, hj with
  | 0, hj => cases hj; rw [cell_add]; exact h
  | j + 1, hj => cases hj
theorem one_one {u : Value} (h : u.oneCell' = true) : ∀ y ∈ [u], y.oneCell' = true := fun y hy => by
  cases hy with
  | head => exact h
  | tail _ h => cases h
theorem own_step {W w1 : World} {base : Nat} {ob : Option Nat} {v v' : Value} {xs : List Value} {u : Value} (h : OwnS W base ob v xs) (h1 : w1.ownsRow base 5 1 v' (xs.length + 1) (xs ++ [u])) (hg : W.grownBy w1 v.ownBlock) (hf : v'.ownBlock = v.ownBlock ∨ ∃ k, v'.ownBlock = some k ∧ W.heap.size ≤ k) :
    OwnS w1 base v'.ownBlock v' (xs ++ [u]) ∧ Rst W w1 ob v'.ownBlock := by
  obtain ⟨-, rfl⟩ := h
  exact ⟨⟨by rw [List.length_append, List.length_singleton]; exact h1, rfl⟩, fun g => ⟨hg.os, hg.tape, hg.output, hg.size, fun k hk _ ho => hg.block k hk (fun e => ho e.symm), hf⟩⟩
def RwR (base : Nat) (ob : Option Nat) (ys : List Value) (w : World) (e : Ending) (w' : World) : Prop := ∃ (a : Option Addr) (c : Nat) (ob' : Option Nat), e = .returned (.slice a ys.length c) ∧ OwnS w' base ob' (.slice a ys.length c) ys ∧ Rst w w' ob ob'
theorem digits_of {k : Nat} (h : ¬ k < 128) : ∃ m d : Nat, (k : Int) % 128 = (m : Int) ∧ (k : Int) / 128 = (d : Int) ∧ numL k = ((m : Int) + 128) :: numL d ∧ d < k ∧ m < 128 := by
  have hm : k % 128 < 128 := Nat.mod_lt _ (by decide)
  refine ⟨k % 128, k / 128, by omega, by omega, ?_, by omega, hm⟩
  rw [numL_ge h]
  congr 1
set_option maxRecDepth 100000 in
set_option maxHeartbeats 1000000 in
theorem rnum_c {w : World} {base : Nat} {ob : Option Nat} {v : Value} {xs : List Value} {n : Nat} (h : OwnS w base ob v xs) (hbase : base ≤ w.heap.size) (hn : xs.length ≤ 5000000) (hn2 : n ≤ 4611686018427387904) :
    Calls Tryz.prog 87 #[v, .int .i64 (n : Int)] w (RwR base ob (xs ++ byL (numL n)) w) := by
  obtain ⟨i0, hi, hz0, hz1, hz2⟩ := info_parts infoW
  obtain ⟨a0, c0, rfl⟩ := h.form
  have h := Lib.hid h
  go_enter Tryz.func87, Tryz.ntmps87
  go_wp2_with fail
  go_loopw [0, 1] (fun v i wr => ∃ (k : Nat) (ys : List Int) (ob' : Option Nat), i = .int .i64 k ∧ k ≤ n ∧ numL n = ys ++ numL k ∧ OwnS wr base ob' v (xs ++ byL ys) ∧ Rst w wr ob ob') (fun _ i _ => (intOf i).toNat)
  case atStart => exact ⟨n, [], ob, rfl, Nat.le_refl _, rfl, by simpa [byL] using h.out, Rst.refl _ _⟩
  case round =>
    obtain ⟨k, ys, ob', rfl, hk, hys, hW, hS⟩ := hrel
    have hyl : ys.length ≤ 9 := by
      have h1 := numL_len 8 n (by omega)
      rw [hys, List.length_append] at h1
      omega
    have hz := hS.size
    obtain ⟨a1, c1, rfl⟩ := hW.form
    have hlen : (xs ++ byL ys).length ≤ 5000009 := by simp [byL]; omega
    by_cases hlt : k < 128
    · have hlt' : ¬ (128 : Int) ≤ (k : Int) := by omega
      have e3 : (k : Int) % 256 = (k : Int) := by omega
      have hW2 := Lib.hid hW
      clear hW
      have hys2 := Lib.hid hys
      clear hys
      go_wp2_with (at_builtin; refine wpList_append_fresh rfl _ _ 34 rfl base 5 i0 (.int .u8 0) 1 1 Tryz.underlying34 hi hz0 hz1 hz2 rfl (by decide) _ _ _ rfl (hW2.out.1.alloc _) ⟨wr.heap.size, 0, none⟩ 1 1 [.int .u8 (k : Int)] rfl rfl (one_cell (new_cell wr _ 5 0 _ rfl)) (one_one rfl) (by unfold maxLen; omega) (by omega) (by simp; omega) ?_; intro v' w1 hown1 hgr hfr)
      have he : xs ++ byL ys ++ [.int .u8 (k : Int)] = xs ++ byL (numL n) := by rw [hys2.out, numL_lt hlt, byL_one, ← List.append_assoc]
      obtain ⟨ho1, hs1⟩ := own_step (hW2.out.alloc _) hown1 hgr hfr
      rw [he] at ho1
      clear he hown1 hgr hfr
      obtain ⟨a2, c2, rfl⟩ := ho1.form
      have ho1 := Lib.hid ho1
      have hs2 := Lib.hid ((hS.alloc _).trans hs1)
      clear hs1
      go_wp2
      go_ret
      exact ⟨_, _, _, rfl, ho1.out, hs2.out⟩
    · have hlt' : (128 : Int) ≤ (k : Int) := by omega
      obtain ⟨m, d, e1, e2, hkd, hdk, hm⟩ := digits_of hlt
      have hmd : d ≤ n := by omega
      have hkd2 := Lib.hid hkd
      clear hkd
      have hW2 := Lib.hid hW
      clear hW
      have hys2 := Lib.hid hys
      clear hys
      go_wp2_with (at_builtin; refine wpList_append_fresh rfl _ _ 34 rfl base 5 i0 (.int .u8 0) 1 1 Tryz.underlying34 hi hz0 hz1 hz2 rfl (by decide) _ _ _ rfl (hW2.out.1.alloc _) ⟨wr.heap.size, 0, none⟩ 1 1 [.int .u8 ((m : Int) + 128)] rfl rfl (one_cell (new_cell wr _ 5 0 _ rfl)) (one_one rfl) (by unfold maxLen; omega) (by omega) (by simp; omega) ?_; intro v' w1 hown1 hgr hfr)
      have he : xs ++ byL ys ++ [.int .u8 ((m : Int) + 128)] = xs ++ byL (ys ++ [((m : Int) + 128)]) := by rw [byL_one, ← List.append_assoc]
      have hy2 : numL n = (ys ++ [((m : Int) + 128)]) ++ numL d := by rw [hys2.out, hkd2.out]; simp
      obtain ⟨ho1, hs1⟩ := own_step (hW2.out.alloc _) hown1 hgr hfr
      rw [he] at ho1
      clear he hown1 hgr hfr
      obtain ⟨a2, c2, rfl⟩ := ho1.form
      have ho1 := Lib.hid ho1
      have hy2 := Lib.hid hy2
      have hs2 := Lib.hid ((hS.alloc _).trans hs1)
      clear hs1
      go_wp2
      go_roundw
      case rel => exact ⟨d, ys ++ [((m : Int) + 128)], _, rfl, hmd, hy2.out, ho1.out, hs2.out⟩
      case measure => simp [intOf]; omega
end Go.Ev

/-
  Stage 3: the specification's signed numbers.
-/
namespace Go.Ev
open Go.RowKit Go.Proofs Go.Rw
theorem rnum_i {w : World} {base : Nat} {ob : Option Nat} {v : Value} {xs : List Value} {z : Int} (h : OwnS w base ob v xs) (hbase : base ≤ w.heap.size) (hn : xs.length ≤ 5000000) (h0 : 0 ≤ z) (h1 : z ≤ 4611686018427387904) :
    Calls Tryz.prog 87 #[v, .int .i64 z] w (RwR base ob (xs ++ byL (numL z.toNat)) w) := by
  obtain ⟨n, rfl⟩ := Int.eq_ofNat_of_zero_le h0
  rw [Int.toNat_natCast]
  exact rnum_c h hbase hn (by omega)
theorem rsig_c {w : World} {base : Nat} {ob : Option Nat} {v : Value} {xs : List Value} {z : Int} (h : OwnS w base ob v xs) (hbase : base ≤ w.heap.size) (hn : xs.length ≤ 5000000) (h0 : -1000000000 ≤ z) (h1 : z ≤ 1000000000) :
    Calls Tryz.prog 90 #[v, .int .i64 z] w (RwR base ob (xs ++ byL (numL (zig z))) w) := by
  obtain ⟨a0, c0, rfl⟩ := h.form
  have h2 := Lib.hid h
  clear h
  by_cases c : z < 0
  · rw [show zig z = (-2 * z - 1).toNat from if_pos c]
    have hC := rnum_i h2.out hbase hn (z := -2 * z - 1) (by omega) (by omega)
    generalize numL (-2 * z - 1).toNat = Y at hC ⊢
    go_enter Tryz.func90, Tryz.ntmps90
    go_wp2_with (go_at_call 87; refine hC.mono ?_; rintro e w1 ⟨a, c2, ob1, rfl, hr⟩)
    go_ret
    exact ⟨_, _, _, by rw [List.length_append]; rfl, hr⟩
  · rw [show zig z = (2 * z).toNat from if_neg c]
    have hC := rnum_i h2.out hbase hn (z := 2 * z) (by omega) (by omega)
    generalize numL (2 * z).toNat = Y at hC ⊢
    go_enter Tryz.func90, Tryz.ntmps90
    go_wp2_with (go_at_call 87; refine hC.mono ?_; rintro e w1 ⟨a, c2, ob1, rfl, hr⟩)
    go_ret
    exact ⟨_, _, _, by rw [List.length_append]; rfl, hr⟩
end Go.Ev

/-
  Stage 3: the state of the specification's Pack within a round.
-/
namespace Go.Ev
open Go.RowKit Go.Proofs Go.Rw
/-- The bytes so far are a row of the call's own; box B holds the state, box X the line; below base nothing has turned. -/
structure PkS (w cur : World) (base B X : Nat) (ob : Option Nat) (v : Value) (xs : List Value) (now x : LineT) : Prop where
  own : OwnS cur base ob v xs
  now : LineB cur B now
  nx : LineB cur X x
  o1 : ob ≠ some B
  o2 : ob ≠ some X
  bel : Below base w cur
  low : base ≤ B ∧ base ≤ X ∧ B ≠ X
theorem PkS.alloc {w cur : World} {base B X : Nat} {ob : Option Nat} {v : Value} {xs : List Value} {now x : LineT} (h : PkS w cur base B X ob v xs now x) (A : Obj) : PkS w (cur.alloc A) base B X ob v xs now x :=
  ⟨h.own.alloc A, h.now.alloc A, h.nx.alloc A, h.o1, h.o2, h.bel.alloc (Nat.le_trans h.low.1 (Nat.le_of_lt h.now.low)) A, h.low⟩
theorem PkS.step {w cur cur' : World} {base B X : Nat} {ob ob' : Option Nat} {v v' : Value} {xs ys : List Value} {now x : LineT} (h : PkS w cur base B X ob v xs now x) (ho : OwnS cur' base ob' v' ys) (hs : Rst cur cur' ob ob') : PkS w cur' base B X ob' v' ys now x := by
  have hlt : ∀ k, ob = some k → base ≤ k ∧ k < cur.heap.size := fun k e => h.own.1.lt k (h.own.2.trans e)
  have hsz : base ≤ cur.heap.size := Nat.le_trans h.low.1 (Nat.le_of_lt h.now.low)
  have hk : ∀ k, k < cur.heap.size → ob ≠ some k → ob' ≠ some k := fun k hk ho' => by
    rcases (hs 0).fresh with e | ⟨j, e, hj⟩
    · rw [e]; exact ho'
    · rw [e]; intro e'; cases e'; omega
  exact ⟨ho, (hs.block h.now.low h.o1).trans h.now, (hs.block h.nx.low h.o2).trans h.nx, hk B h.now.low h.o1, hk X h.nx.low h.o2,
    h.bel.trans ((hs base).below hsz (Nat.le_refl _) (fun k e => (hlt k e).1)), h.low⟩
/-- An append of one byte that lies in a new box. -/
theorem PkS.app {w cur w1 : World} {base B X : Nat} {ob : Option Nat} {v v' : Value} {xs : List Value} {u : Value} {now x : LineT} {A : Obj} (h : PkS w cur base B X ob v xs now x) (h1 : w1.ownsRow base 5 1 v' (xs.length + 1) (xs ++ [u])) (hg : (cur.alloc A).grownBy w1 v.ownBlock) (hf : v'.ownBlock = v.ownBlock ∨ ∃ k, v'.ownBlock = some k ∧ (cur.alloc A).heap.size ≤ k) :
    PkS w w1 base B X v'.ownBlock v' (xs ++ [u]) now x := by
  obtain ⟨q1, q2⟩ := own_step (h.alloc A).own h1 hg hf
  exact (h.alloc A).step q1 q2
theorem PkS.zero {w cur : World} {base B X : Nat} {ob : Option Nat} {v : Value} {xs : List Value} {now x : LineT} (h : PkS w cur base B X ob v xs now x) : PkS w (cur.setCell ⟨B, 1, none⟩ (.int .i64 0)) base B X ob v xs ⟨now.sec, 0, now.file, now.line⟩ x := by
  refine ⟨⟨?_, h.own.2⟩, heap_setCell_same _ _ 1 _ _ _ h.now, (heap_setCell_other _ _ _ _ (Ne.symm h.low.2.2)).trans h.nx, h.o1, h.o2, h.bel.setCell (p := ⟨B, 1, none⟩) h.low.1 _, h.low⟩
  exact h.own.1.kept (w' := cur.setCell ⟨B, 1, none⟩ (.int .i64 0)) (row := some B) ⟨rfl, rfl, rfl, by simp, fun k _ hne => heap_setCell_other cur ⟨B, 1, none⟩ k _ (fun e => hne (by rw [e]))⟩ (.inr (by rw [h.own.2]; exact h.o1))
end Go.Ev

