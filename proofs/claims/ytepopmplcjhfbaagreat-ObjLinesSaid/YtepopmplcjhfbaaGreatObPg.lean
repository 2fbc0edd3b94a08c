import Derived.Test.YtepopmplcjhfbaaGreatObPf
set_option linter.unusedSectionVars false
set_option linter.unusedVariables false
set_option linter.unusedSimpArgs false
set_option linter.unnecessarySimpa false
/-
  Stage 3: the program's Pack.
-/
namespace Go.Ev
open Go.RowKit Go.Proofs Go.Rw
theorem wentry_c {w : World} {base g : Nat} {ob : Option Nat} {P : List Value} (now next : LineT) (h : WrS w base g ob P) (hbase : base ≤ w.heap.size) (hn : P.length ≤ 4000000) (hr1 : RngOk now) (hr2 : RngOk next) (hs : now.sec ≤ next.sec) (ho : now.sec = next.sec → now.off ≤ next.off) :
    Calls Tryz.prog 102 #[.pointer (some ⟨g, 0, none⟩), .agg #[.int .i64 now.sec, .int .i64 now.off, .int .i64 now.file, .int .i64 now.line], .agg #[.int .i64 next.sec, .int .i64 next.off, .int .i64 next.file, .int .i64 next.line]] w (WrR base g ob (P ++ byL (entryL now next)) w) := by
  obtain ⟨ns, no, nf, nl⟩ := now
  obtain ⟨xs, xo, xf, xl⟩ := next
  dsimp only at hs ho ⊢
  by_cases cA : xs = ns
  · subst cA
    by_cases cF : xf = nf
    · subst cF
      by_cases cO : offB (xo - no) = 0
      · skip
        by_cases cL : lineB (xl - nl) = 0
        · skip
          exact entry_nnnn h hbase hn hr1 hr2 (ho rfl) cO cL
        · skip
          exact entry_nnny h hbase hn hr1 hr2 (ho rfl) cO cL
      · skip
        by_cases cL : lineB (xl - nl) = 0
        · skip
          exact entry_nnyn h hbase hn hr1 hr2 (ho rfl) cO cL
        · skip
          exact entry_nnyy h hbase hn hr1 hr2 (ho rfl) cO cL
    · skip
      by_cases cO : offB (xo - no) = 0
      · skip
        by_cases cL : lineB (xl - nl) = 0
        · skip
          exact entry_nynn h hbase hn hr1 hr2 (ho rfl) cF cO cL
        · skip
          exact entry_nyny h hbase hn hr1 hr2 (ho rfl) cF cO cL
      · skip
        by_cases cL : lineB (xl - nl) = 0
        · skip
          exact entry_nyyn h hbase hn hr1 hr2 (ho rfl) cF cO cL
        · skip
          exact entry_nyyy h hbase hn hr1 hr2 (ho rfl) cF cO cL
  · clear ho
    by_cases cF : xf = nf
    · subst cF
      by_cases cO : offB (xo - 0) = 0
      · skip
        by_cases cL : lineB (xl - nl) = 0
        · skip
          exact entry_ynnn h hbase hn hr1 hr2 (by omega) cA cO cL
        · skip
          exact entry_ynny h hbase hn hr1 hr2 (by omega) cA cO cL
      · skip
        by_cases cL : lineB (xl - nl) = 0
        · skip
          exact entry_ynyn h hbase hn hr1 hr2 (by omega) cA cO cL
        · skip
          exact entry_ynyy h hbase hn hr1 hr2 (by omega) cA cO cL
    · skip
      by_cases cO : offB (xo - 0) = 0
      · skip
        by_cases cL : lineB (xl - nl) = 0
        · skip
          exact entry_yynn h hbase hn hr1 hr2 (by omega) cA cF cO cL
        · skip
          exact entry_yyny h hbase hn hr1 hr2 (by omega) cA cF cO cL
      · skip
        by_cases cL : lineB (xl - nl) = 0
        · skip
          exact entry_yyyn h hbase hn hr1 hr2 (by omega) cA cF cO cL
        · skip
          exact entry_yyyy h hbase hn hr1 hr2 (by omega) cA cF cO cL
/-- The bytes of lines behind a line. -/
def packL : LineT → List LineT → List Int
  | _, [] => []
  | now, x :: l => entryL now x ++ packL x l
theorem packL_snoc : ∀ (now : LineT) (l : List LineT) (x : LineT), packL now (l ++ [x]) = packL now l ++ entryL ((now :: l).getLast (by simp)) x
  | now, [], x => by simp [packL]
  | now, y :: l, x => by
    rw [List.cons_append, packL, packL, packL_snoc y l x, List.append_assoc]
    congr 2
theorem entryL_len (a b : LineT) (h1 : RngOk a) (h2 : RngOk b) : (entryL a b).length ≤ 41 := by
  unfold RngOk at h1 h2
  have l1 : (secP a b).length ≤ 10 := by
    unfold secP
    split
    · simp
    · have := numL_le9 (n := (b.sec - a.sec).toNat) (by omega)
      simp; omega
  have l2 : (fileP a b).length ≤ 10 := by
    unfold fileP
    split
    · simp
    · have := numL_le9 (n := b.file.toNat) (by omega)
      simp; omega
  have hd : -65535 ≤ offD a b ∧ offD a b ≤ 65535 := by unfold offD; split <;> omega
  have l3 : (offP (offD a b)).length ≤ 10 := by
    unfold offP
    split
    · simp
    · have := numL_le9 (n := (offB (offD a b)).toNat) (by unfold offB; split <;> omega)
      simp; omega
  have l4 : (lineP (b.line - a.line)).length ≤ 10 := by
    unfold lineP
    split
    · simp
    · have hb := lineB_in (d := b.line - a.line) (by omega) (by omega)
      have := numL_le9 (zig_in hb.1 hb.2.1)
      simp; omega
  unfold entryL
  simp only [List.length_append, List.length_singleton]
  omega
def nowAt (l : List LineT) : Nat → LineT
  | 0 => default
  | k + 1 => l.getD k default
theorem nowAt_last (l : List LineT) (k : Nat) (hk : k ≤ l.length) : (default :: l.take k).getLast (by simp) = nowAt l k := by
  cases k with
  | zero => simp [nowAt]
  | succ k =>
    have h1 : k < l.length := by omega
    rw [List.getLast_eq_getElem]
    simp only [List.length_cons, List.length_take]
    have : min (k + 1) l.length = k + 1 := by omega
    simp [this, nowAt, h1]
theorem pack_step {l : List LineT} {k : Nat} {x : LineT} (hx : l[k]? = some x) : packL default (l.take (k + 1)) = packL default (l.take k) ++ entryL (nowAt l k) x := by
  have hk : k < l.length := (List.getElem?_eq_some_iff.1 hx).1
  have hx' : l[k] = x := (List.getElem?_eq_some_iff.1 hx).2
  rw [List.take_succ_eq_append_getElem hk, packL_snoc, nowAt_last l k (by omega), hx']
theorem rng_default : RngOk default := by unfold RngOk; exact ⟨⟨by decide, by decide⟩, ⟨by decide, by decide⟩, ⟨by decide, by decide⟩, ⟨by decide, by decide⟩⟩
theorem nowAt_rng {l : List LineT} (h : ∀ x ∈ l, RngOk x) {k : Nat} (hk : k ≤ l.length) : RngOk (nowAt l k) := by
  cases k with
  | zero => exact rng_default
  | succ k =>
    have h1 : k < l.length := by omega
    have : nowAt l (k + 1) = l[k] := by simp [nowAt, h1]
    rw [this]
    exact h _ (List.getElem_mem _)
theorem packL_len : ∀ (now : LineT) (l : List LineT), RngOk now → (∀ x ∈ l, RngOk x) → (packL now l).length ≤ 41 * l.length
  | _, [], _, _ => by simp [packL]
  | now, x :: l, h0, h => by
    have h1 := entryL_len now x h0 (h x (List.mem_cons_self ..))
    have h2 := packL_len x l (h x (List.mem_cons_self ..)) (fun y hy => h y (List.mem_cons_of_mem _ hy))
    rw [packL, List.length_append, List.length_cons]
    omega
theorem Wst.below {w w' : World} {base g : Nat} {ob ob' : Option Nat} (h : Wst w w' g ob ob') (hb : base ≤ w.heap.size) (hg : base ≤ g) (ho : ∀ k, ob = some k → base ≤ k) : Below base w w' :=
  ⟨h.os, h.tape, h.output, h.size, fun k hk => h.block k (by omega) (by omega) (fun e => by have := ho k e; omega)⟩
/-- What Pack answers. -/
def PkR (l : List LineT) (w : World) (e : Ending) (w' : World) : Prop :=
  Below w.heap.size w w' ∧ ((¬ TabOk l ∧ e = .returned (.tuple #[.slice none 0 0, .int .i64 30])) ∨ (TabOk l ∧ ∃ v, e = .returned (.tuple #[v, .int .i64 0]) ∧ w'.ownsRow w.heap.size 5 1 v (packL default l).length (byL (packL default l))))
set_option maxRecDepth 100000 in
set_option maxHeartbeats 2000000 in
theorem pack_c {w : World} {s : Value} {l : List LineT} (h : RowsAt w s LineT.cells 4 l) (hl : l.length ≤ 140737488351232) :
    Calls Tryz.prog 28 #[s] w (PkR l w) := by
  have hT := isTable_c h hl
  obtain ⟨a, c, rfl⟩ := rows_slice h
  by_cases ht : TabOk l
  · rw [dec_yes ht] at hT
    have h4 : l.length ≤ 4000 := ht.1
    have hent := ht.2.1
    have hstep := ht.2.2
    have ht := Lib.hid ht
    go_enter Tryz.func28, Tryz.ntmps28
    go_wp2_with fail
    refine hT.mono ?_
    rintro e w1 ⟨rfl, hb1⟩
    have hB1 := hb1.size
    have hW0 : WrS ((w1.alloc (.cells #[.slice none 0 0] 98)).alloc (.cells #[.int .i64 0, .int .i64 0, .int .i64 0, .int .i64 0] 48)) w.heap.size w1.heap.size none [] := by
      refine ⟨.slice none 0 0, ?_, ?_, rfl, by simp⟩
      · rw [heap_alloc_old _ _ (by simp)]
        exact heap_alloc_new w1 _
      · exact World.ownsRow_nil _ _ _ _
    have hN0 : LineB ((w1.alloc (.cells #[.slice none 0 0] 98)).alloc (.cells #[.int .i64 0, .int .i64 0, .int .i64 0, .int .i64 0] 48)) (w1.heap.size + 1) default := by
      have := lineB_new (w1.alloc (.cells #[.slice none 0 0] 98)) default
      rwa [World.size_alloc] at this
    have hb2 : Below w.heap.size w ((w1.alloc (.cells #[.slice none 0 0] 98)).alloc (.cells #[.int .i64 0, .int .i64 0, .int .i64 0, .int .i64 0] 48)) := (hb1.alloc hB1 _).alloc (by rw [World.size_alloc]; omega) _
    have hW0 := Lib.hid hW0
    have hN0 := Lib.hid hN0
    go_wp2_with fail
    go_loopw [16] (fun i wr => ∃ (k : Nat) (ob : Option Nat), k ≤ l.length ∧ i = .int .i64 k ∧ WrS wr w.heap.size w1.heap.size ob (byL (packL default (l.take k))) ∧ LineB wr (w1.heap.size + 1) (nowAt l k) ∧ ob ≠ some (w1.heap.size + 1) ∧ Below w.heap.size w wr) (fun i _ => l.length - (intOf i).toNat)
    case atStart => exact ⟨0, none, by omega, rfl, hW0.out, hN0.out, by simp, hb2⟩
    case round =>
      obtain ⟨k, ob, hk, rfl, hWr, hN, hob, hbl⟩ := hrel
      have hlw := hWr.lt
      have hB := hbl.size
      by_cases hlt : k < l.length
      · obtain ⟨b, of, rfl⟩ := rows_some2 h hlt
        obtain ⟨x, hx⟩ : ∃ x, l[k]? = some x := ⟨l[k], by simp [hlt]⟩
        have hxR := (hent x (List.mem_of_getElem? hx)).1
        have hord : (nowAt l k).sec ≤ x.sec ∧ ((nowAt l k).sec = x.sec → (nowAt l k).off ≤ x.off) := by
          cases k with
          | zero => exact ⟨hxR.1.1, fun _ => hxR.2.1.1⟩
          | succ k =>
            have h1 : k < l.length := by omega
            have e : nowAt l (k + 1) = l[k] := by simp [nowAt, h1]
            have := hstep k l[k] x (List.getElem?_eq_getElem h1) hx
            rw [e]
            omega
        have hlen := packL_len default (l.take k) rng_default (fun y hy => (hent y (List.mem_of_mem_take hy)).1)
        rw [List.length_take] at hlen
        have hcall := wentry_c (w := wr.alloc (.cells #[.int .i64 x.sec, .int .i64 x.off, .int .i64 x.file, .int .i64 x.line] 48)) (nowAt l k) x (hWr.alloc _) (by simp; omega) (by simp [byL]; omega) (nowAt_rng (fun y hy => (hent y hy).1) hk) hxR hord.1 hord.2
        have hnx : nowAt l (k + 1) = x := by simp [nowAt, hx]
        have hap : byL (packL default (l.take k)) ++ byL (entryL (nowAt l k) x) = byL (packL default (l.take (k + 1))) := by rw [pack_step hx]; simp [byL]
        rw [hap] at hcall
        have hnx := Lib.hid hnx
        have hlt' : (k : Int) < (l.length : Int) := by omega
        obtain ⟨g0, g1, g2, g3⟩ := rows_line (h.below hbl) hx
        obtain ⟨y, hy⟩ : ∃ y, y = nowAt l k := ⟨_, rfl⟩
        rw [← hy] at hN hcall
        clear hord hy hap hx hlen hW0 hN0 hb2 hent hstep
        have hX := lineB_new wr x
        obtain ⟨xs, xo, xf, xl⟩ := x
        obtain ⟨ys, yo, yf, yl⟩ := y
        dsimp only at hcall g0 g1 g2 g3 hX
        have hNa := hN.alloc (.cells #[.int .i64 xs, .int .i64 xo, .int .i64 xf, .int .i64 xl] 48)
        obtain ⟨c0, c1, c2, c3⟩ := hNa.cells
        dsimp only at c0 c1 c2 c3
        have hWr := Lib.hid hWr
        go_wp2_with fail
        refine hcall.mono ?_
        rintro e w2 ⟨rfl, ob2, hW2, hS2⟩
        have hN2 : LineB w2 (w1.heap.size + 1) ⟨ys, yo, yf, yl⟩ := (hS2.block _ hNa.low (by omega) hob).trans hNa
        have hX2 : LineB w2 wr.heap.size ⟨xs, xo, xf, xl⟩ := (hS2.block _ hX.low (by omega) (fun e => by have := (hlw.2 _ e).2; omega)).trans hX
        have hob2 : ob2 ≠ some (w1.heap.size + 1) := by
          rcases hS2.fresh with e | ⟨j, e, hj⟩
          · rw [e]; exact hob
          · rw [e]; intro e'; cases e'; have := hNa.low; omega
        have hbl2 := (hbl.alloc hB (.cells #[.int .i64 xs, .int .i64 xo, .int .i64 xf, .int .i64 xl] 48)).trans (hS2.below (base := w.heap.size) (by simp; omega) (by omega) (fun j e => (hlw.2 j e).1))
        have hB2 := hbl2.size
        have hW3 : WrS ((((w2.setCell ⟨w1.heap.size + 1, 0, none⟩ (.int .i64 xs)).setCell ⟨w1.heap.size + 1, 1, none⟩ (.int .i64 xo)).setCell ⟨w1.heap.size + 1, 2, none⟩ (.int .i64 xf)).setCell ⟨w1.heap.size + 1, 3, none⟩ (.int .i64 xl)) w.heap.size w1.heap.size ob2 (byL (packL default (l.take (k + 1)))) :=
          (((hW2.setCell (by simp) hob2 _).setCell (by simp) hob2 _).setCell (by simp) hob2 _).setCell (by simp) hob2 _
        have hN3 := lineB_set hN2 ⟨xs, xo, xf, xl⟩
        have hbl3 := below_set4 hbl2 (C := w1.heap.size + 1) (by omega) (.int .i64 xs) (.int .i64 xo) (.int .i64 xf) (.int .i64 xl)
        obtain ⟨p0, p1, p2, p3⟩ := hN2.cells
        obtain ⟨x0, x1, x2, x3⟩ := hX2.cells
        have f0 := hN2.frozen 0
        have f1 := hN2.frozen 1
        have f2 := hN2.frozen 2
        have f3 := hN2.frozen 3
        dsimp only at p0 p1 p2 p3 x0 x1 x2 x3 hN3
        have hW3 := Lib.hid hW3
        have hN3 := Lib.hid hN3
        have hbl3 := Lib.hid hbl3
        clear c0 c1 c2 c3 hcall hS2 hW2
        go_wp2
        go_roundw
        case rel => exact ⟨k + 1, ob2, by omega, by go_num, hW3.out, by rw [hnx.out]; exact hN3.out, hob2, hbl3.out⟩
        case measure => simp [intOf]; omega
      · have : k = l.length := by omega
        subst this
        rw [List.take_length] at hWr
        obtain ⟨v, hv1, hv2, hv3, hv4⟩ := hWr
        have c0 : wr.cell? ⟨w1.heap.size, 0, none⟩ = some v := by simp [World.cell?, hv1]
        rw [show (byL (packL default l)).length = (packL default l).length by simp [byL]] at hv2
        have hv2 := Lib.hid hv2
        go_wp2
        go_ret2
        exact ⟨hbl, .inr ⟨ht.out, v, rfl, hv2.out⟩⟩
  · rw [dec_no ht] at hT
    have ht := Lib.hid ht
    go_enter Tryz.func28, Tryz.ntmps28
    go_wp2_with fail
    refine hT.mono ?_
    rintro e w1 ⟨rfl, hb1⟩
    go_wp2
    go_ret2
    exact ⟨hb1, .inl ⟨ht.out, rfl⟩⟩
end Go.Ev
