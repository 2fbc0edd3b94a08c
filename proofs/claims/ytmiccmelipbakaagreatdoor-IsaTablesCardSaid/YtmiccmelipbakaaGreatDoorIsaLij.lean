import Derived.Test.YtmiccmelipbakaaGreatDoorIsaLm
import Derived.RangeFuncNested
import Derived.RangeFuncBound
import Derived.RangeFuncCalls
import Derived.RangeFuncLeaves
import Derived.RangeFuncBox
import Derived.Shelf.Abstract
import Derived.Shelf.RegionOpen
import Derived.WalkKit
import Derived.OwnWalkIn
import Derived.TacticsInMore
import Derived.LoopNIn
import Derived.LoopIn
import Derived.Maps.AppendAt
import Derived.Test.YtmiccmelipbakaaGreatDoorIsaCtx
import Derived.RegionIn
import Derived.BigRegionIn
set_option linter.unusedSectionVars false
set_option linter.unusedVariables false
set_option linter.unusedSimpArgs false
/-
  isa.insnsOf: the instructions that bytes begin with, one behind the other, each with the index behind it.
-/
namespace Go.Ev
open Go.RowKit Go.Proofs Go.Shelf
attribute [local go_sem] Oper.semAt_some

/-- A slice of bytes in a world; its capacity may be any. -/
def BytesW (w : World) (a : Option Addr) (n cap : Nat) (q : Nat → Int) : Prop :=
  (a = none ∧ n = 0 ∧ cap = 0 ∨ ∃ b o, a = some ⟨b, o, none⟩ ∧ ∀ j, j < n → w.cell? ⟨b, o + j, none⟩ = some (.int .u8 (q j))) ∧ n ≤ cap ∧ cap ≤ 9223372036854775807 ∧ ∀ j, InB (q j)
theorem BytesAt.wide {w : World} {a : Option Addr} {n cap : Nat} {q : Nat → Int} (h : BytesAt w a n cap q) : BytesW w a n cap q := ⟨h.1, h.2.1, by have := h.2.2.1; omega, h.2.2.2⟩
theorem BytesW.below {w w' : World} {a : Option Addr} {n cap : Nat} {q : Nat → Int} (h : BytesW w a n cap q) (hb : Below w.heap.size w w') : BytesW w' a n cap q := by
  refine ⟨?_, h.2⟩
  rcases h.1 with h | ⟨b, o, rfl, hc⟩
  · exact .inl h
  · exact .inr ⟨b, o, rfl, fun j hj => (hb.cell (low_of_cell (hc j hj))).trans (hc j hj)⟩
/-- What a round must keep: what lay below n0, and what the box B holds. -/
def KpB (n0 B : Nat) (A C : World) : Prop := Below n0 A C ∧ ∀ v, A.cell? ⟨B, 0, none⟩ = some v → C.cell? ⟨B, 0, none⟩ = some v
theorem kpB_t {n0 B : Nat} {A C D : World} (h : KpB n0 B A C) (h' : KpB n0 B C D) : KpB n0 B A D := ⟨h.1.trans h'.1, fun v e => h'.2 v (h.2 v e)⟩
theorem kpB_b {n0 B : Nat} {w : World} (hn : n0 ≤ w.heap.size) (hB : B < w.heap.size) (W : World) (l : Nat) (o o' : Obj) (hl : w.heap.size ≤ l) (h : W.heap[l]? = some o) (h1 : o.isCells = false) (h2 : o.isWalk = false) : KpB n0 B W (W.putObj l o') :=
  ⟨belowK_b hn W l o o' hl h h1 h2, fun v e => by
    unfold World.cell? at e ⊢
    rw [show (W.putObj l o').heap[(⟨B, 0, none⟩ : Addr).block]? = W.heap[B]? from World.putObj_heap_other (by show B ≠ l; omega)]
    exact e⟩
theorem grown_of {w w' : World} (h : Below w.heap.size w w') : w.grownBy w' none := ⟨h.os, h.tape, h.output, h.size, fun k hk _ => h.block k hk⟩
/-- What has come when k rounds are over. -/
def pairsOf (q : Nat → Int) (k : Nat) : List (I7 × Nat) := (List.range k).map fun j => (itm q j, posN q (j + 1))
theorem pairs_succ (q : Nat → Int) (k : Nat) : pairsOf q (k + 1) = pairsOf q k ++ [(itm q k, posN q (k + 1))] := by simp [pairsOf, List.range_succ]
theorem pairs_len (q : Nat → Int) (k : Nat) : (pairsOf q k).length = k := by simp [pairsOf]
set_option maxRecDepth 100000 in
set_option maxHeartbeats 2000000 in
theorem insns1_in (n : Nat) (hn : 1 ≤ n) (l Bs : Nat) {w0 : World} {m : Int} (hG : GlobU m w0) {a : Option Addr} {len cap : Nat} {q : Nat → Int} (hb : BytesW w0 a len cap q) (J Jx : List (I7 × Nat) → World → Prop)
    (hY : ∀ pre x W, J pre W → pre.length < len → YieldAt Fence.wide (n - 1) Tryz.prog l #[x.1.v, .int .i64 (x.2 : Int)] W fun e W' =>
      (e = .returned (.bool true) ∧ J (pre ++ [x]) W' ∧ KpB w0.heap.size Bs W W') ∨ (e = .returned (.bool false) ∧ Jx (pre ++ [x]) W'))
    (W : World) (hJ : AbidesFrom W.heap.size J) (hW : Below w0.heap.size w0 W) (hBs : W.cell? ⟨Bs, 0, none⟩ = some (.slice a len cap)) (h0 : J [] W) :
    CallsIn Fence.wide n Tryz.prog 101 #[.func (.yield l) #[] #[], .pointer (some ⟨Bs, 0, none⟩)] W fun e W' => (∃ v, e = .returned v) ∧
      ((∃ ys, (∃ K, RunK len q K ∧ ys = pairsOf q K) ∧ J ys W') ∨ (∃ pre, True ∧ Jx pre W')) := by
  refine callsIn_of_wp Tryz.func101 rfl trivial ?_ rfl
  simp only [Tryz.ntmps101, List.size_toArray, List.length_cons, List.length_nil, Nat.reduceAdd, Nat.reduceSub, Array.replicate_succ, Array.replicate_zero, List.push_toArray, List.append_toArray, List.nil_append, List.cons_append]
  gi_wp2
  obtain ⟨hbs, hle, hcap, hin⟩ := hb
  gi_loopw [3] (fun v wr => ∃ k : Nat, (∀ j, j < k → okAt len q j = true) ∧ v = .int .i64 (posN q k : Int) ∧ J (pairsOf q k) wr ∧ KpB w0.heap.size Bs W wr)
    (fun v _ => len - (intOf v).toNat)
  case atStart => exact ⟨0, fun j hj => absurd hj (by omega), rfl, h0, Below.refl _ _, fun v e => e⟩
  case round =>
    obtain ⟨k, hok, rfl, hJs, hbl, hbx⟩ := hrel
    have hBr := hbx _ hBs
    have hB0 := hW.trans hbl
    have hp := pos_le hok
    by_cases hlt : posN q k < len
    · obtain ⟨bb, bo, rfl, hcs⟩ : ∃ bb bo, a = some ⟨bb, bo, none⟩ ∧ ∀ j, j < len → w0.cell? ⟨bb, bo + j, none⟩ = some (.int .u8 (q j)) := by
        rcases hbs with ⟨_, h, _⟩ | h
        · omega
        · exact h
      have hcr : ∀ j, j < len - posN q k → wr.cell? ⟨bb, bo + posN q k + j, none⟩ = some (.int .u8 (shf q (posN q k) j)) := fun j hj => by
        have := hcs (posN q k + j) (by omega)
        rw [Nat.add_assoc]
        exact (hB0.cell (low_of_cell this)).trans this
      have hB0' : Below w0.heap.size w0 wr := hB0
      have hdec := decode_any (globU_below hG hB0') (n := len - posN q k) (cap := cap - posN q k) (blk := bb) (off := bo + posN q k) (q := shf q (posN q k)) (by omega) (by omega) hcr (fun j => hin _)
      have hkl : k < len := by have := pos_ge q k; omega
      clear hbs hcs hcr hBs
      cases hd : okAt len q k with
      | false =>
        rw [show dOk (len - posN q k) (shf q (posN q k)) = false from hd] at hdec
        have hz : insnV 0 0 0 0 0 0 0 = agI 0 0 0 0 0 0 0 := rfl
        simp only [hz] at hdec
        clear hz
        gi_wp2_with (refine ⟨trivial, callsIn_wide.2 (hdec.mono ?_)⟩; clear hdec; rintro e w1 ⟨rfl, hb1⟩)
        refine bodyPost_ret (results_none rfl _ _ _) rfl ?_
        exact ⟨⟨_, rfl⟩, .inl ⟨_, ⟨k, ⟨hok, hd⟩, rfl⟩, hJ _ _ _ none hJs (grown_of (hb1.alloc hb1.size _)) (fun r e => by cases e)⟩⟩
      | true =>
        rw [show dOk (len - posN q k) (shf q (posN q k)) = true from hd] at hdec
        obtain ⟨xo, xa, xb, xc, xd, xk, xi, hit⟩ : ∃ xo xa xb xc xd xk xi, itm q k = ⟨xo, xa, xb, xc, xd, xk, xi⟩ := ⟨_, _, _, _, _, _, _, rfl⟩
        have hin' : dIn (shf q (posN q k)) = agI xo xa xb xc xd xk xi := congrArg I7.v hit
        rw [hin'] at hdec
        have hp1 : posN q (k + 1) = posN q k + dSz (shf q (posN q k)) := rfl
        have hp2 := (okAt_lt hd).2
        have hs4 := dSz_pos (shf q (posN q k))
        rw [hp1] at hp2
        have hit := Lib.hid hit
        have hp1 := Lib.hid hp1
        clear hin'
        generalize dSz (shf q (posN q k)) = s at hdec hp1 hp2 hs4
        have hsum : (posN q k : Int) + (s : Int) ≤ (len : Int) := by omega
        gi_wp2_with (refine ⟨trivial, callsIn_wide.2 (hdec.mono ?_)⟩; clear hdec; rintro e w1 ⟨rfl, hb1⟩)
        have hbA := hb1.alloc hb1.size (.cells #[.int .i64 xo, .int .i64 xa, .int .i64 xb, .int .i64 xc, .int .i64 xd, .int .i64 xk, .int .u32 xi] 24)
        obtain ⟨fn, tmps, assign, body, hy, hR⟩ := hY _ (itm q k, posN q (k + 1)) _ (hJ _ _ _ none hJs (grown_of hbA) (fun r e => by cases e)) (by rw [pairs_len]; exact hkl)
        have hxv : (itm q k).v = .agg #[.int .i64 xo, .int .i64 xa, .int .i64 xb, .int .i64 xc, .int .i64 xd, .int .i64 xk, .int .u32 xi] := by rw [hit.out]; rfl
        simp only [hxv] at hy
        rw [hp1.out, Int.natCast_add] at hy
        clear hxv
        rw [hy]
        gi_wp2
        refine hR.mono ?_
        rintro e W3 (⟨rfl, hJ3, hk3⟩ | ⟨rfl, hJx3⟩)
        · gi_wp2
          go_roundw
          case rel =>
            refine ⟨k + 1, fun j hj => ?_, by rw [hp1.out, Int.natCast_add], by rw [pairs_succ]; exact hJ3, kpB_t ⟨hbl, hbx⟩ (kpB_t ⟨hbA.mono hB0'.size, fun v e => (hbA.cell (p := ⟨Bs, 0, none⟩) (low_of_cell e)).trans e⟩ hk3)⟩
            by_cases hjk : j < k
            · exact hok j hjk
            · obtain rfl : j = k := by omega
              exact hd
          case measure => simp [intOf]; omega
        · gi_wp2
          refine bodyPost_ret (results_none rfl _ _ _) rfl ?_
          exact ⟨⟨_, rfl⟩, .inr ⟨_, trivial, hJx3⟩⟩
    · have hpe : posN q k = len := by omega
      gi_wp2
      go_end0
      exact ⟨⟨_, rfl⟩, .inl ⟨_, ⟨k, ⟨hok, by unfold okAt dOk; rw [hpe, Nat.sub_self]; simp⟩, rfl⟩, hJs⟩⟩
end Go.Ev
-- v1

/-
  isa.List: what it answers at any slice of bytes.
-/
namespace Go.Ev
open Go.RowKit Go.Proofs Go.Shelf
attribute [local go_sem] Oper.semAt_some
/-- insnsOf(b): the slice is boxed; the function value captures the box. -/
theorem insns_in (n : Nat) (a : Option Addr) (len cap : Nat) (w : World) :
    CallsIn Fence.wide n Tryz.prog 61 #[.slice a len cap] w fun e w' => e = .returned (.func (.func 101) #[] #[.pointer (some ⟨w.heap.size, 0, none⟩)]) ∧ w' = w.alloc (.cells #[.slice a len cap] 25) := by
  refine callsIn_of_wp Tryz.func61 rfl trivial ?_ rfl
  simp only [Tryz.ntmps61, List.size_toArray, List.length_cons, List.length_nil, Nat.reduceAdd, Nat.reduceSub, Array.replicate_succ, Array.replicate_zero, List.push_toArray, List.append_toArray, List.nil_append, List.cons_append]
  gi_wp2
  go_ret
  exact ⟨rfl, rfl⟩
def encP (x : I7 × Nat) : Array Value := #[.agg #[.int .i64 x.1.op, .int .i64 x.1.a, .int .i64 x.1.b, .int .i64 x.1.c, .int .i64 x.1.d, .int .i64 x.1.k, .int .u32 x.1.i], .int .i64 (x.2 : Int)]
theorem insns_stops (n : Nat) (hn : 1 ≤ n) (Bs : Nat) {w0 w : World} {m : Int} (hG : GlobU m w0) {a : Option Addr} {len cap : Nat} {q : Nat → Int} (hb : BytesW w0 a len cap q) (hw : Below w0.heap.size w0 w) (hBs : Bs < w.heap.size)
    (hc : w.cell? ⟨Bs, 0, none⟩ = some (.slice a len cap)) :
    SeqStopsK Fence.wide n Tryz.prog 101 #[.pointer (some ⟨Bs, 0, none⟩)] encP (KpB w0.heap.size Bs) (fun ys => ∃ K, RunK len q K ∧ ys = pairsOf q K) (fun _ => True) len w := fun l J Jx W hW hJ _ hY h0 =>
  insns1_in n hn l Bs hG hb J Jx hY W hJ (hw.trans (hW.mono hw.size)) ((hW.cell (p := ⟨Bs, 0, none⟩) hBs).trans hc) h0
/-! ### A record of seven cells -/
def Boxed7 (W : World) (B : Nat) (x : I7) : Prop := W.heap[B]? = some (.cells #[.int .i64 x.op, .int .i64 x.a, .int .i64 x.b, .int .i64 x.c, .int .i64 x.d, .int .i64 x.k, .int .u32 x.i] 24 (0, 0))
theorem Boxed7.kept {W W' : World} {row : Option Nat} {B : Nat} {x : I7} (h : Boxed7 W B x) (hg : W.grownBy W' row) (hne : some B ≠ row) : Boxed7 W' B x := (hg.block B (Array.getElem?_eq_some_iff.1 h).1 hne).trans h
theorem boxed7_own (B : Nat) (x : I7) (X Y : World) (row : Option Nat) (hs : Boxed7 X B x) (hg : X.grownBy Y row) (hrow : ∀ r, row = some r → ∃ o : Obj, X.heap[r]? = some o ∧ o.isCells = false) : Boxed7 Y B x :=
  hs.kept hg (fun e' => by obtain ⟨o, ho, hc⟩ := hrow B e'.symm; rw [show X.heap[B]? = _ from hs] at ho; cases ho; cases hc)
theorem Boxed7.cells {W : World} {B : Nat} {x : I7} (h : Boxed7 W B x) : W.cell? ⟨B, 0, none⟩ = some (.int .i64 x.op) ∧ W.cell? ⟨B, 1, none⟩ = some (.int .i64 x.a) ∧ W.cell? ⟨B, 2, none⟩ = some (.int .i64 x.b) ∧ W.cell? ⟨B, 3, none⟩ = some (.int .i64 x.c) ∧
    W.cell? ⟨B, 4, none⟩ = some (.int .i64 x.d) ∧ W.cell? ⟨B, 5, none⟩ = some (.int .i64 x.k) ∧ W.cell? ⟨B, 6, none⟩ = some (.int .u32 x.i) := by
  refine ⟨?_, ?_, ?_, ?_, ?_, ?_, ?_⟩ <;> simp [World.cell?, show W.heap[B]? = _ from h]
/-- What a new block of these cells holds. -/
theorem cells_new (w : World) (xs : List Value) (t : TypeId) : ∀ j u, xs[j]? = some u → (w.alloc (.cells xs.toArray t)).cell? ((⟨w.heap.size, 0, none⟩ : Addr).add j) = some u := by
  intro j u hj
  rw [cell_add, Nat.zero_add]
  have e' := heap_alloc_new w (.cells xs.toArray t)
  unfold World.cell?
  simp only [e']
  simpa using hj
theorem cells_one (x : I7) : ∀ u ∈ x.cells, u.oneCell' = true := by
  intro u hu
  simp only [I7.cells, List.mem_cons, List.not_mem_nil, or_false] at hu
  rcases hu with rfl | rfl | rfl | rfl | rfl | rfl | rfl <;> rfl
theorem info24 : (Tryz.prog.info? 24).map (fun i => (i.zero, i.size, i.bytes)) = some (some (.agg #[.int .i64 0, .int .i64 0, .int .i64 0, .int .i64 0, .int .i64 0, .int .i64 0, .int .u32 0]), 7, 56) := by kernel_rfl
def rowP (pre : List (I7 × Nat)) : List Value := pre.flatMap fun x => x.1.cells
def endP (pre : List (I7 × Nat)) : Nat := match pre.getLast? with | some x => x.2 | none => 0
theorem rowP_snoc (pre : List (I7 × Nat)) (x : I7 × Nat) : rowP (pre ++ [x]) = rowP pre ++ x.1.cells := by simp [rowP]
theorem endP_snoc (pre : List (I7 × Nat)) (x : I7 × Nat) : endP (pre ++ [x]) = x.2 := by simp [endP]
theorem rowP_pairs (q : Nat → Int) (K : Nat) : rowP (pairsOf q K) = (items q K).flatMap I7.cells := by simp [rowP, pairsOf, items, List.flatMap_map]
theorem endP_pairs (q : Nat → Int) : ∀ K, endP (pairsOf q K) = posN q K
  | 0 => rfl
  | K + 1 => by rw [pairs_succ, endP_snoc]
/-- What List answers. -/
def LiR (len : Nat) (q : Nat → Int) (w : World) (e : Ending) (w' : World) : Prop := ∃ K, RunK len q K ∧ posN q K ≤ len ∧ Below w.heap.size w w' ∧
  ((posN q K < len ∧ e = .returned (.tuple #[.slice none 0 0, .int .i64 (posN q K : Int), .int .i64 6])) ∨
   (posN q K = len ∧ ∃ v, e = .returned (.tuple #[v, .int .i64 0, .int .i64 0]) ∧ w'.ownsRow w.heap.size 24 7 v K ((items q K).flatMap I7.cells) ∧ (v = .slice none 0 0 ↔ K = 0)))
set_option maxRecDepth 100000 in
set_option maxHeartbeats 4000000 in
theorem list_any {m : Int} {w : World} (hG : GlobU m w) {a : Option Addr} {len cap : Nat} {q : Nat → Int} (hb : BytesW w a len cap q) (hlen : len ≤ 1000000) : Calls Tryz.prog 23 #[.slice a len cap] w (LiR len q w) := by
  obtain ⟨i0, hi, hz0, hz1, hz2⟩ := info_parts info24
  refine (callsIn_wide (n := 6)).1 ?_
  refine callsIn_of_wp_marks Tryz.func23 rfl trivial ?_ rfl
  simp only [Tryz.ntmps23, List.size_toArray, List.length_cons, List.length_nil, Nat.reduceAdd, Nat.reduceSub, Array.replicate_succ, Array.replicate_zero, List.push_toArray, List.append_toArray, List.nil_append, List.cons_append]
  gi_wp2_with (refine ⟨trivial, ?_⟩; gi_at_call 61; refine (insns_in _ _ _ _ _).mono ?_; rintro e w' ⟨rfl, rfl⟩)
  have bL := ((Boxed.new w 35 (.slice none 0 0)).alloc (.cells #[.int .i64 0] 3)).alloc (.cells #[.slice a len cap] 25)
  have bE := (Boxed.new (w.alloc (.cells #[.slice none 0 0] 35)) 3 (.int .i64 0)).alloc (.cells #[.slice a len cap] 25)
  have bB := Boxed.new ((w.alloc (.cells #[.slice none 0 0] 35)).alloc (.cells #[.int .i64 0] 3)) 25 (.slice a len cap)
  simp only [World.size_alloc] at bE bB
  have hB0 : Below w.heap.size w (((w.alloc (.cells #[.slice none 0 0] 35)).alloc (.cells #[.int .i64 0] 3)).alloc (.cells #[.slice a len cap] 25)) := (((Below.refl _ w).alloc (Nat.le_refl _) _).alloc (by simp) _).alloc (by simp; omega) _
  have hsz : (((w.alloc (.cells #[.slice none 0 0] 35)).alloc (.cells #[.int .i64 0] 3)).alloc (.cells #[.slice a len cap] 25)).heap.size = w.heap.size + 3 := by simp
  obtain ⟨W0, hW0⟩ : ∃ W0, ((w.alloc (.cells #[.slice none 0 0] 35)).alloc (.cells #[.int .i64 0] 3)).alloc (.cells #[.slice a len cap] 25) = W0 := ⟨_, rfl⟩
  rw [hW0] at bL bE bB hB0 hsz ⊢
  clear hW0
  refine wpIn_rangeFunc_ownH rfl (by omega) (gf := 101) (lb := #[.pointer (some ⟨w.heap.size + 1 + 1, 0, none⟩)]) rfl trivial (enters_of Tryz.func101 (by kernel_rfl) rfl)
    (insns_stops 5 (by omega) (w.heap.size + 1 + 1) hG hb hB0 (by omega) bB.cell) kpB_t (kpB_b (by omega) (by omega)) (Below.refl _ _) (fun _ => rfl)
    (fun pre W => ((∃ v, Boxed W w.heap.size 35 v ∧ W.ownsRow w.heap.size 24 7 v pre.length (rowP pre) ∧ (v = .slice none 0 0 ↔ pre = [])) ∧ (Boxed W (w.heap.size + 1) 3 (.int .i64 (endP pre : Int)) ∧ Boxed W (w.heap.size + 1 + 1) 25 (.slice a len cap))) ∧ Below w.heap.size w W)
    (fun _ _ _ => False)
    (OwnFrom.and (OwnFrom.and (Own.from (holdsRow_own w.heap.size w.heap.size 35 24 7 (fun pre => pre.length) (fun pre => rowP pre) (fun pre v => v = .slice none 0 0 ↔ pre = [])) _) (OwnFrom.and (Own.from (boxed_own _ _ _) _) (Own.from (boxed_own _ _ _) _))) (ownFrom_below (Nat.le_refl _) (by omega)))
    (fun _ _ _ _ _ hs _ _ => hs)
    ⟨⟨⟨_, bL, World.ownsRow_nil _ _ _ _, by simp⟩, bE, bB⟩, hB0⟩
    (fun x a' W => ∃ Bx, w.heap.size + 1 + 1 < Bx ∧ Boxed7 W Bx x.1 ∧ a' = { tmps := #[.slice a len cap, undef, .slice none 0 0, .int .i64 0, .int .i64 0, .pointer (some ⟨w.heap.size, 0, none⟩), .pointer (some ⟨w.heap.size + 1, 0, none⟩), .pointer (some ⟨Bx, 0, none⟩), .int .i64 (x.2 : Int), .slice a len cap, .func (.func 101) #[] #[.pointer (some ⟨w.heap.size + 1 + 1, 0, none⟩)], x.1.v, .int .i64 (x.2 : Int), undef, undef, undef, undef, undef, undef, undef, undef, undef, undef, undef], defers := [] })
    (fun x a' _ X Y row hs hg hr => by obtain ⟨Bx, h1, h2, h3⟩ := hs; exact ⟨Bx, h1, boxed7_own Bx x.1 X Y row h2 hg (fun r e => (hr r e).2), h3⟩)
    ?assign ?body ?done ?stop
  case assign =>
    rintro l pre ⟨⟨xo, xa, xb, xc, xd, xk, xi⟩, nx⟩ W K ⟨⟨⟨v, hv, hrow, hnil⟩, hE, hX⟩, hB⟩ hK
    simp only [encP]
    gi_wp2
    exact hK _ _ ((KeepsOthers.alloc _ _).from _) ⟨(Below.refl _ W).alloc hB.size _, fun v e => (((Below.refl _ W).alloc (Nat.le_refl _) _).cell (p := ⟨w.heap.size + 1 + 1, 0, none⟩) (low_of_cell e)).trans e⟩
      ⟨⟨⟨v, hv.alloc _, hrow.alloc _, hnil⟩, hE.alloc _, hX.alloc _⟩, hB.alloc hB.size _⟩ ⟨W.heap.size, hX.lt, World.alloc_heap_new W _, rfl⟩
  case body =>
    rintro l pre ⟨⟨xo, xa, xb, xc, xd, xk, xi⟩, nx⟩ a' W hl _ ⟨⟨⟨v, hv, hrow, hnil⟩, hE, hX⟩, hB⟩ ⟨Bx, hBx, bX, rfl⟩ hlt
    have hc := hv.cell
    have hsW := hB.size
    obtain ⟨c0, c1, c2, c3, c4, c5, c6⟩ := bX.cells
    dsimp only at c0 c1 c2 c3 c4 c5 c6
    simp only [I7.v, insnV]
    gi_wp2_with (gi_at_builtin; refine wpListIn_append_own _ rfl _ _ 35 rfl w.heap.size 24 i0 _ 7 56 Tryz.underlying35 hi hz0 hz1 hz2 rfl (by decide) _ _ _ rfl (hrow.alloc _) ⟨W.heap.size, 0, none⟩ 1 1 (I7.mk xo xa xb xc xd xk xi).cells rfl rfl (cells_new _ _ _) (cells_one _) (by unfold maxLen; omega) (by omega) (by simp; omega) ?_; intro v' w1 hown' hgrow _; obtain ⟨g', cap', rfl⟩ := ownsRow_succ hown'; obtain ⟨hv1, hv2, hr2, hk2, hb2⟩ := hv.appended (by decide) hrow hB.size (Nat.le_refl _) hown' hgrow; have hc1 := hv1.cell; have hf1 := hv1.frozen; have hE2 := ((hE.alloc _).kept hgrow (hE.not_row (by decide) hrow)).other (B' := w.heap.size) (by omega) (Value.slice (some ⟨g', 0, none⟩) (pre.length + 1) cap'); have hX2 := ((hX.alloc _).kept hgrow (hX.not_row (by decide) hrow)).other (B' := w.heap.size) (by omega) (Value.slice (some ⟨g', 0, none⟩) (pre.length + 1) cap'); have cE := hE2.cell; have fE := hE2.frozen)
    have hb3 := hb2.setCell (p := ⟨w.heap.size + 1, 0, none⟩) (by simp) (Value.int .i64 (nx : Int))
    refine ⟨(hk2.trans (KeepsOthers.setCell _ _ _)).from _, ⟨hb3, fun u e => ?_⟩, ⟨⟨_, hv2.other (by omega) _, ?_, by simp⟩, ?_, hX2.other (by omega) _⟩, hB.trans hb3⟩
    · rw [hX.cell] at e
      cases e
      exact (hX2.other (by omega) _).cell
    · rw [rowP_snoc, List.length_append]
      exact hr2.kept (grownBy_setCell' _ _ _) (.inr (hE2.not_row (by decide) hr2).symm)
    · rw [endP_snoc]
      exact hE2.set _
  case done =>
    rintro D ys W hD ⟨K, hK, rfl⟩ ⟨⟨⟨v, hv, hrow, hnil⟩, hE, hX⟩, hB⟩ hDf
    have hp := pos_le hK.1
    rw [endP_pairs] at hE
    rw [pairs_len, rowP_pairs] at hrow
    have hnil : v = .slice none 0 0 ↔ K = 0 := hnil.trans ⟨fun h => by have := congrArg List.length h; rwa [pairs_len] at this, fun h => by subst h; rfl⟩
    have hc := hv.cell
    have cE := hE.cell
    have hB' := hB.trans (belowK_b (w := w) (Nat.le_refl _) W D _ (.deferred none) (by omega) hDf rfl rfl)
    by_cases hlt : posN q K < len
    · gi_wp2
      gi_region
      all_goals gi_wp2
      all_goals refine ⟨by simp, .inl ⟨_, _, rfl, run_takeDeferred (w := _) hDf, ?_⟩⟩
      all_goals exact ⟨.tuple #[.slice none 0 0, .int .i64 (posN q K : Int), .int .i64 6], by simp [results, Tryz.f23, go_sem], K, hK, hp, hB.drew.trans (belowK_b (w := w) (Nat.le_refl _) W.drew D _ _ (by omega) hDf rfl rfl), .inl ⟨hlt, rfl⟩⟩
    · have hpe : posN q K = len := by omega
      gi_wp2
      refine ⟨by simp, .inl ⟨_, _, rfl, run_takeDeferred hDf, ?_⟩⟩
      exact ⟨.tuple #[v, .int .i64 0, .int .i64 0], by simp [results, Tryz.f23, go_sem], K, hK, hp, hB', .inr ⟨hpe, v, rfl, ownsRow_putObj hrow _ hDf rfl, hnil⟩⟩
  case stop =>
    rintro D c pre W _ _ h _
    exact h.elim
end Go.Ev

