import Derived.Test.YtepopmplcjhfbaaGreatObHlw
import Derived.Lib.Hide
import Derived.Test.YtepopmplcjhfbaaGreatObHk3
import Derived.Maps.OwnOps
import Derived.Test.YtepopmplcjhfbaaGreatObHk8
import Derived.Test.YtepopmplcjhfbaaGreatObHly
set_option linter.unusedSectionVars false
set_option linter.unusedVariables false
set_option linter.unusedSimpArgs false
set_option linter.unnecessarySimpa false
/-
  Stage 3: records in a block of the call's own; slices.Contains of symbols; the law's names.
-/
namespace Go.Ev
open Go.RowKit Go.Proofs Go.Rw
section
variable {α : Type} (f : α → List Value) (size : Nat)
def flatR (l : List α) : List Value := l.flatMap f
theorem flatR_len (hf : ∀ x, (f x).length = size) (l : List α) : (flatR f l).length = l.length * size := by
  induction l with
  | nil => simp [flatR]
  | cons x l ih =>
    unfold flatR at *
    rw [List.flatMap_cons, List.length_append, ih, List.length_cons, hf, Nat.succ_mul]
    omega
theorem flatR_get (hf : ∀ x, (f x).length = size) : ∀ (l : List α) (k : Nat) (x : α), l[k]? = some x → ∀ (j : Nat) (u : Value), (f x)[j]? = some u → (flatR f l)[k * size + j]? = some u
  | [], k, x, h, _, _, _ => by simp at h
  | y :: l, 0, x, h, j, u, hj => by
    cases h
    unfold flatR
    rw [List.flatMap_cons, Nat.zero_mul, Nat.zero_add, List.getElem?_append_left (by have := (List.getElem?_eq_some_iff.1 hj).1; simpa using this)]
    exact hj
  | y :: l, k + 1, x, h, j, u, hj => by
    have := flatR_get hf l k x (by simpa using h) j u hj
    unfold flatR at *
    rw [List.flatMap_cons, List.getElem?_append_right (by rw [hf, Nat.succ_mul]; omega)]
    rw [show (k + 1) * size + j - (f y).length = k * size + j by rw [hf, Nat.succ_mul]; omega]
    exact this
theorem flatR_snoc (l : List α) (x : α) : flatR f (l ++ [x]) = flatR f l ++ f x := by simp [flatR]
theorem rows_of_ownR {W : World} {base e n : Nat} {v : Value} {l : List α} (hf : ∀ x, (f x).length = size) (h : W.ownsRow base e size v n (flatR f l)) (hn : n = l.length) : RowsAt W v f size l := by
  subst hn
  rcases h.2 with ⟨rfl, h0⟩ | ⟨g, cap, cur, rfl, _, hg, _⟩
  · have : l = [] := List.eq_nil_of_length_eq_zero h0
    subst this
    exact ⟨none, 0, rfl, .inl rfl⟩
  · refine ⟨_, cap, rfl, .inr ⟨g, 0, rfl, fun k x hk j u hj => ?_⟩⟩
    have := h.cells (g := g) rfl (k * size + j) u (flatR_get f size hf l k x hk j u hj)
    rw [cell_add] at this
    rw [Nat.add_assoc]
    exact this
end
theorem owns_keep {w W : World} {base e size n : Nat} {v : Value} {xs : List Value} (h : w.ownsRow base e size v n xs) (hb : Below w.heap.size w W) : W.ownsRow base e size v n xs := by
  refine ⟨h.1, h.2.imp id fun ⟨g, cap, cur, e1, h1, h2, h3⟩ => ⟨g, cap, cur, e1, h1, (hb.block g ?_).trans h2, h3⟩⟩
  by_cases hlt : g < w.heap.size
  · exact hlt
  · rw [Array.getElem?_eq_none (by omega)] at h2
    cases h2
theorem own_shape {w : World} {base e size n : Nat} {v : Value} {xs : List Value} (h : w.ownsRow base e size v n xs) : ∃ a c, v = .slice a n c := by
  rcases h.2 with ⟨rfl, h0⟩ | ⟨g, cap, cur, rfl, _⟩
  · exact ⟨none, 0, by rw [h0]⟩
  · exact ⟨_, cap, rfl⟩
theorem own_low {w : World} {base e size n : Nat} {v : Value} {xs : List Value} (h : w.ownsRow base e size v n xs) : ∀ k, v.ownBlock = some k → base ≤ k := fun k hk => (h.lt k hk).1
theorem info_any {t sz by_ : Nat} (h : (Tryz.prog.info? t).map (fun i => (i.zero.map fun z => z.cells.size, i.size, i.bytes)) = some (some sz, sz, by_)) : ∃ i z, Tryz.prog.info? t = some i ∧ i.zero = some z ∧ i.size = sz ∧ i.bytes = by_ ∧ z.cells.size = sz := by
  cases hi : Tryz.prog.info? t with
  | none => rw [hi] at h; cases h
  | some i =>
    rw [hi] at h
    simp only [Option.map_some, Option.some.injEq, Prod.mk.injEq] at h
    obtain ⟨h1, h2, h3⟩ := h
    cases hz : i.zero with
    | none => rw [hz] at h1; cases h1
    | some z =>
      rw [hz] at h1
      simp only [Option.map_some, Option.some.injEq] at h1
      exact ⟨i, z, rfl, hz, h2, h3, h1⟩
theorem info68 : (Tryz.prog.info? 68).map (fun i => (i.zero.map fun z => z.cells.size, i.size, i.bytes)) = some (some 6, 6, 56) := by kernel_rfl
theorem symC_len (x : SymT) : x.cells.length = 6 := rfl
theorem relC_len (x : RelT) : x.cells.length = 5 := rfl
theorem secC_len (x : SecT) : x.cells.length = 5 := rfl
theorem symC_one (x : SymT) : ∀ u ∈ x.cells, u.oneCell' = true := fun u hu => by
  simp only [SymT.cells, List.mem_cons, List.not_mem_nil, or_false] at hu
  rcases hu with rfl | rfl | rfl | rfl | rfl | rfl <;> rfl
theorem relC_one (x : RelT) : ∀ u ∈ x.cells, u.oneCell' = true := fun u hu => by
  simp only [RelT.cells, List.mem_cons, List.not_mem_nil, or_false] at hu
  rcases hu with rfl | rfl | rfl | rfl | rfl <;> rfl
theorem secC_one (x : SecT) : ∀ u ∈ x.cells, u.oneCell' = true := fun u hu => by
  simp only [SecT.cells, List.mem_cons, List.not_mem_nil, or_false] at hu
  rcases hu with rfl | rfl | rfl | rfl | rfl <;> rfl
theorem symNew (W : World) (x : SymT) : ∀ j u, x.cells[j]? = some u → (W.alloc (.cells #[.string x.name, .int .i64 x.sec, .int .u32 x.val, .int .i64 x.size, .int .i64 x.bind, .int .i64 x.kind] 68)).cell? ((⟨W.heap.size, 0, none⟩ : Addr).add j) = some u := fun j u hj => by
  rw [cell_add, Nat.zero_add]
  exact new_cell W _ 68 j u (by simpa [SymT.cells] using hj)
set_option maxRecDepth 100000 in
set_option maxHeartbeats 4000000 in
/-- slices.Index of symbols. -/
theorem index_sym {w : World} {s : Value} {l : List SymT} (h : RowsAt w s SymT.cells 6 l) (hl : l.length ≤ 140737488351232) (y : SymT) :
    Calls Tryz.prog 149 #[s, .agg #[.string y.name, .int .i64 y.sec, .int .u32 y.val, .int .i64 y.size, .int .i64 y.bind, .int .i64 y.kind]] w fun e w' => ∃ z : Int, e = .returned (.int .i64 z) ∧ ((0 ≤ z ∧ y ∈ l) ∨ (z = -1 ∧ y ∉ l)) ∧ Below w.heap.size w w' := by
  obtain ⟨a, c, rfl⟩ := rows_slice h
  obtain ⟨yn, ys, yv, yz, yb, yk⟩ := y
  dsimp only
  obtain ⟨A, hA⟩ : ∃ A : Obj, A = .cells #[.string yn, .int .i64 ys, .int .u32 yv, .int .i64 yz, .int .i64 yb, .int .i64 yk] 68 := ⟨_, rfl⟩
  have z1 : Below w.heap.size w (w.alloc A) := one_below _ _
  have hb0 : ∀ wr, Below (w.alloc A).heap.size (w.alloc A) wr → wr.heap[w.heap.size]? = some (.cells #[.string yn, .int .i64 ys, .int .u32 yv, .int .i64 yz, .int .i64 yb, .int .i64 yk] 68 (0, 0)) := fun wr hb => by
    rw [hb.block _ (by simp), hA]
    exact heap_alloc_new w _
  go_enter Tryz.func149, Tryz.ntmps149
  go_wp2_with fail
  rw [← hA]
  clear hA
  go_loopg [8] l.length (fun gn i wr => ∃ k : Nat, gn + k = l.length ∧ k ≤ l.length ∧ i = .int .i64 k ∧ Below (w.alloc A).heap.size (w.alloc A) wr ∧ (∀ j, j < k → l[j]? ≠ some ⟨yn, ys, yv, yz, yb, yk⟩))
  case atStart => exact ⟨0, by omega, by omega, rfl, Below.refl _ _, fun j hj => by omega⟩
  case round =>
    obtain ⟨k, hgk, hk, rfl, hbl, hA0⟩ := hrel
    have hN := Lib.hid hA0
    clear hA0
    have hbw := bel_then z1 (Nat.le_refl _) hbl
    have hx0 := hb0 _ hbl
    have x0 : wr.cell? ⟨w.heap.size, 0, none⟩ = some (.string yn) := by simp [World.cell?, hx0]
    have x1 : wr.cell? ⟨w.heap.size, 1, none⟩ = some (.int .i64 ys) := by simp [World.cell?, hx0]
    have x2 : wr.cell? ⟨w.heap.size, 2, none⟩ = some (.int .u32 yv) := by simp [World.cell?, hx0]
    have x3 : wr.cell? ⟨w.heap.size, 3, none⟩ = some (.int .i64 yz) := by simp [World.cell?, hx0]
    have x4 : wr.cell? ⟨w.heap.size, 4, none⟩ = some (.int .i64 yb) := by simp [World.cell?, hx0]
    have x5 : wr.cell? ⟨w.heap.size, 5, none⟩ = some (.int .i64 yk) := by simp [World.cell?, hx0]
    clear hx0 hb0
    by_cases hlt : k < l.length
    · obtain ⟨b, of, rfl⟩ := rows_some2 h hlt
      have hlt' : (k : Int) < (l.length : Int) := by omega
      obtain ⟨⟨xn, xs, xv, xz, xb, xk⟩, hx⟩ : ∃ x, l[k]? = some x := ⟨l[k], by simp [hlt]⟩
      obtain ⟨p0, p1, p2, p3, p4, p5⟩ := rows_sym (h.below hbw) hx
      dsimp only at p0 p1 p2 p3 p4 p5
      have hxH := Lib.hid hx
      clear hx h
      by_cases d0 : yn = xn
      case neg =>
        have hnew := Lib.hid (show ∀ j, j < k + 1 → l[j]? ≠ some ⟨yn, ys, yv, yz, yb, yk⟩ from fun j hj e => by
          by_cases hjk : j < k
          · exact hN.out j hjk e
          · obtain rfl : j = k := by omega
            rw [hxH.out] at e
            injection e with e
            injection e
            exact d0 (by first | assumption | (symm; assumption)))
        have hb := bytes_ne d0
        go_wp2
        go_quiet (fail)
        go_wp2
        go_roundg (gk - 1)
        case measure => omega
        case rel => exact ⟨k + 1, by omega, by omega, by go_num, below_drewN hbl _, hnew.out⟩
      subst d0
      by_cases d1 : ys = xs
      case neg =>
        have hnew := Lib.hid (show ∀ j, j < k + 1 → l[j]? ≠ some ⟨yn, ys, yv, yz, yb, yk⟩ from fun j hj e => by
          by_cases hjk : j < k
          · exact hN.out j hjk e
          · obtain rfl : j = k := by omega
            rw [hxH.out] at e
            injection e with e
            injection e
            exact d1 (by first | assumption | (symm; assumption)))
        have hb : (ys == xs) = false := beq_eq_false_iff_ne.2 d1
        go_wp2
        go_quiet (fail)
        go_wp2
        go_roundg (gk - 1)
        case measure => omega
        case rel => exact ⟨k + 1, by omega, by omega, by go_num, below_drewN hbl _, hnew.out⟩
      subst d1
      by_cases d2 : yv = xv
      case neg =>
        have hnew := Lib.hid (show ∀ j, j < k + 1 → l[j]? ≠ some ⟨yn, ys, yv, yz, yb, yk⟩ from fun j hj e => by
          by_cases hjk : j < k
          · exact hN.out j hjk e
          · obtain rfl : j = k := by omega
            rw [hxH.out] at e
            injection e with e
            injection e
            exact d2 (by first | assumption | (symm; assumption)))
        have hb : (yv == xv) = false := beq_eq_false_iff_ne.2 d2
        go_wp2
        go_quiet (fail)
        go_wp2
        go_roundg (gk - 1)
        case measure => omega
        case rel => exact ⟨k + 1, by omega, by omega, by go_num, below_drewN hbl _, hnew.out⟩
      subst d2
      by_cases d3 : yz = xz
      case neg =>
        have hnew := Lib.hid (show ∀ j, j < k + 1 → l[j]? ≠ some ⟨yn, ys, yv, yz, yb, yk⟩ from fun j hj e => by
          by_cases hjk : j < k
          · exact hN.out j hjk e
          · obtain rfl : j = k := by omega
            rw [hxH.out] at e
            injection e with e
            injection e
            exact d3 (by first | assumption | (symm; assumption)))
        have hb : (yz == xz) = false := beq_eq_false_iff_ne.2 d3
        go_wp2
        go_quiet (fail)
        go_wp2
        go_roundg (gk - 1)
        case measure => omega
        case rel => exact ⟨k + 1, by omega, by omega, by go_num, below_drewN hbl _, hnew.out⟩
      subst d3
      by_cases d4 : yb = xb
      case neg =>
        have hnew := Lib.hid (show ∀ j, j < k + 1 → l[j]? ≠ some ⟨yn, ys, yv, yz, yb, yk⟩ from fun j hj e => by
          by_cases hjk : j < k
          · exact hN.out j hjk e
          · obtain rfl : j = k := by omega
            rw [hxH.out] at e
            injection e with e
            injection e
            exact d4 (by first | assumption | (symm; assumption)))
        have hb : (yb == xb) = false := beq_eq_false_iff_ne.2 d4
        go_wp2
        go_quiet (fail)
        go_wp2
        go_roundg (gk - 1)
        case measure => omega
        case rel => exact ⟨k + 1, by omega, by omega, by go_num, below_drewN hbl _, hnew.out⟩
      subst d4
      by_cases d5 : yk = xk
      case neg =>
        have hnew := Lib.hid (show ∀ j, j < k + 1 → l[j]? ≠ some ⟨yn, ys, yv, yz, yb, yk⟩ from fun j hj e => by
          by_cases hjk : j < k
          · exact hN.out j hjk e
          · obtain rfl : j = k := by omega
            rw [hxH.out] at e
            injection e with e
            injection e
            exact d5 (by first | assumption | (symm; assumption)))
        have hb : (yk == xk) = false := beq_eq_false_iff_ne.2 d5
        go_wp2
        go_quiet (fail)
        go_wp2
        go_roundg (gk - 1)
        case measure => omega
        case rel => exact ⟨k + 1, by omega, by omega, by go_num, below_drewN hbl _, hnew.out⟩
      subst d5
      have hin := Lib.hid (List.mem_of_getElem? hxH.out)
      go_wp2
      go_quiet (fail)
      go_wp2
      go_ret
      exact ⟨(k : Int), rfl, .inl ⟨by omega, hin.out⟩, below_drewN hbw _⟩
    · obtain rfl : k = l.length := by omega
      have hout := Lib.hid (show (⟨yn, ys, yv, yz, yb, yk⟩ : SymT) ∉ l from fun hin => by
        obtain ⟨j, hj⟩ := List.getElem?_of_mem hin
        exact hN.out j (List.getElem?_eq_some_iff.1 hj).1 hj)
      go_wp2
      go_ret
      exact ⟨-1, rfl, .inr ⟨rfl, hout.out⟩, hbw⟩
set_option maxRecDepth 100000 in
set_option maxHeartbeats 1000000 in
/-- slices.Contains of symbols. -/
theorem contains_sym {w : World} {s : Value} {l : List SymT} (h : RowsAt w s SymT.cells 6 l) (hl : l.length ≤ 140737488351232) (y : SymT) :
    Calls Tryz.prog 55 #[s, .agg #[.string y.name, .int .i64 y.sec, .int .u32 y.val, .int .i64 y.size, .int .i64 y.bind, .int .i64 y.kind]] w (BelR (dec (y ∈ l)) w) := by
  have hI := fun A => index_sym (h.below (one_below w A)) hl y
  obtain ⟨a, c, rfl⟩ := rows_slice h
  clear h
  obtain ⟨r, hr0⟩ : ∃ r, r = dec (y ∈ l) := ⟨_, rfl⟩
  rw [← hr0]
  have hrr := Lib.hid hr0
  clear hr0
  go_enter Tryz.func55, Tryz.ntmps55
  go_wp2_with (go_at_call 149; refine (hI _).mono ?_; rintro e w1 ⟨z, rfl, hz, hb1⟩)
  rcases hz with ⟨h0, hin⟩ | ⟨rfl, hout⟩
  · have hf := Lib.hid (show r = true by rw [hrr.out]; exact dec_yes hin)
    go_wp2
    go_ret
    exact ⟨by rw [hf.out]; simp [h0], bel_then (one_below _ _) (Nat.le_refl _) hb1⟩
  · have hf := Lib.hid (show r = false by rw [hrr.out]; exact dec_no hout)
    go_wp2
    go_ret
    exact ⟨by rw [hf.out]; rfl, bel_then (one_below _ _) (Nat.le_refl _) hb1⟩
/-- The symbols that the relocations name. -/
def namesL (o : ObjT) : List SymT := o.rels.map fun r => o.syms.getD r.sym.toNat default
theorem namesL_get {o : ObjT} {k : Nat} {r : RelT} {x : SymT} (hr : o.rels[k]? = some r) (hx : o.syms[r.sym.toNat]? = some x) : (namesL o)[k]? = some x := by
  unfold namesL
  rw [List.getElem?_map, hr]
  simp [List.getD, hx]
theorem take_snoc {α : Type} {l : List α} {k : Nat} {x : α} (hx : l[k]? = some x) : l.take (k + 1) = l.take k ++ [x] := by rw [List.take_add_one, hx]; rfl
set_option maxRecDepth 100000 in
set_option maxHeartbeats 4000000 in
/-- The law's names. -/
theorem names_c {w : World} {v : Value} {o : ObjT} (h : ObjAt w v o) (hR : o.R) (hn : o.rels.length ≤ 2000) (hin : ∀ r ∈ o.rels, 0 ≤ r.sym ∧ r.sym < (o.syms.length : Int)) :
    Calls Tryz.prog 54 #[v] w fun e w' => ∃ s, e = .returned s ∧ RowsAt w' s SymT.cells 6 (namesL o) ∧ Below w.heap.size w w' := by
  obtain ⟨s1, s2, s3, s4, s5, rfl, k1, k2, k3, k4, k5⟩ := h
  obtain ⟨a2, c2, rfl⟩ := rows_slice k2
  obtain ⟨a3, c3, rfl⟩ := rows_slice k3
  obtain ⟨i0, z0, hi, hz0, hz1, hz2, hz3⟩ := info_any info68
  have hn2 := hR.2.2.2.2.2.2.1
  clear k1 k4 k5 hR
  obtain ⟨W, hW⟩ : ∃ W, W = w.alloc (.cells #[s1, .slice a2 o.syms.length c2, .slice a3 o.rels.length c3, s4, s5] 28) := ⟨_, rfl⟩
  have z1 : Below w.heap.size w W := by rw [hW]; exact one_below _ _
  have hWx : W.heap[w.heap.size]? = some (.cells #[s1, .slice a2 o.syms.length c2, .slice a3 o.rels.length c3, s4, s5] 28 (0, 0)) := by rw [hW]; exact heap_alloc_new w _
  have hWl : w.heap.size < W.heap.size := by rw [hW, World.size_alloc]; omega
  have hb0 : ∀ wr, Below W.heap.size W wr → wr.heap[w.heap.size]? = some (.cells #[s1, .slice a2 o.syms.length c2, .slice a3 o.rels.length c3, s4, s5] 28 (0, 0)) := fun wr hb => (hb.block _ hWl).trans hWx
  have y2 : W.cell? ⟨w.heap.size, 2, none⟩ = some (.slice a3 o.rels.length c3) := by unfold World.cell?; simp only [hWx]; rfl
  clear hWx
  go_enter Tryz.func54, Tryz.ntmps54
  go_wp2_with fail
  rw [← hW]
  clear hW
  go_wp2_with fail
  clear y2
  go_loopg [9, 3] o.rels.length (fun gn i v wr => ∃ k : Nat, gn + k = o.rels.length ∧ k ≤ o.rels.length ∧ i = .int .i64 k ∧ Below W.heap.size W wr ∧ wr.ownsRow W.heap.size 68 6 v k (flatR SymT.cells ((namesL o).take k)))
  case atStart => exact ⟨0, by omega, by omega, rfl, Below.refl _ _, by simpa [flatR] using World.ownsRow_nil _ _ _ _⟩
  case round =>
    obtain ⟨k, hgk, hk, rfl, hbl, hO0⟩ := hrel
    obtain ⟨va, vc, rfl⟩ := own_shape hO0
    have hO := Lib.hid hO0
    clear hO0
    have hbw := z1.trans (hbl.mono (Nat.le_of_lt hWl))
    have hx0 := hb0 _ hbl
    have y1 : wr.cell? ⟨w.heap.size, 1, none⟩ = some (.slice a2 o.syms.length c2) := by simp [World.cell?, hx0]
    clear hx0
    by_cases hlt : k < o.rels.length
    · obtain ⟨b, of, rfl⟩ := rows_some2 k3 hlt
      have hlt' : (k : Int) < (o.rels.length : Int) := by omega
      obtain ⟨⟨rs, ro, rk, ry, ra⟩, hr⟩ : ∃ x, o.rels[k]? = some x := ⟨o.rels[k], by simp [hlt]⟩
      obtain ⟨g0, g1, g2, g3, g4⟩ := rows_rel (k3.below hbw) hr
      obtain ⟨i1, i2⟩ := hin _ (List.mem_of_getElem? hr)
      dsimp only at g0 g1 g2 g3 g4 i1 i2
      obtain ⟨j, rfl⟩ : ∃ j : Nat, ry = (j : Int) := ⟨ry.toNat, by omega⟩
      have hj : j < o.syms.length := by omega
      obtain ⟨sb, so, rfl⟩ := rows_some2 k2 hj
      obtain ⟨⟨xn, xs, xv, xz, xb, xk⟩, hx⟩ : ∃ x, o.syms[j]? = some x := ⟨o.syms[j], by simp [hj]⟩
      obtain ⟨q0, q1, q2, q3, q4, q5⟩ := rows_sym (k2.below hbw) hx
      dsimp only at q0 q1 q2 q3 q4 q5
      have hnk := Lib.hid (namesL_get hr (show o.syms[(j : Int).toNat]? = _ from hx))
      have hB := hbw.size
      have e1 := fun o => (World.cell?_alloc_lt wr o _ (low_of_cell y1)).trans y1
      have u0 := fun o => (World.cell?_alloc_lt wr o _ (low_of_cell q0)).trans q0
      have u1 := fun o => (World.cell?_alloc_lt wr o _ (low_of_cell q1)).trans q1
      have u2 := fun o => (World.cell?_alloc_lt wr o _ (low_of_cell q2)).trans q2
      have u3 := fun o => (World.cell?_alloc_lt wr o _ (low_of_cell q3)).trans q3
      have u4 := fun o => (World.cell?_alloc_lt wr o _ (low_of_cell q4)).trans q4
      have u5 := fun o => (World.cell?_alloc_lt wr o _ (low_of_cell q5)).trans q5
      have hlb : W.heap.size ≤ wr.heap.size := hbl.size
      have hbl2 : Below W.heap.size W ((wr.alloc (.cells #[.int .i64 rs, .int .i64 ro, .int .i64 rk, .int .i64 (j : Int), .int .i64 ra] 94)).alloc (.cells #[.string xn, .int .i64 xs, .int .u32 xv, .int .i64 xz, .int .i64 xb, .int .i64 xk] 68)) := (hbl.alloc hlb _).alloc (Nat.le_trans hlb (by rw [World.size_alloc]; omega)) _
      have hO2 := owns_keep hO.out ((one_below wr (.cells #[.int .i64 rs, .int .i64 ro, .int .i64 rk, .int .i64 (j : Int), .int .i64 ra] 94)).alloc (by simp) (.cells #[.string xn, .int .i64 xs, .int .u32 xv, .int .i64 xz, .int .i64 xb, .int .i64 xk] 68))
      have hnew := symNew (wr.alloc (.cells #[.int .i64 rs, .int .i64 ro, .int .i64 rk, .int .i64 (j : Int), .int .i64 ra] 94)) ⟨xn, xs, xv, xz, xb, xk⟩
      rw [World.size_alloc] at hnew
      have hbl2 := Lib.hid hbl2
      have hO2 := Lib.hid hO2
      have hnew := Lib.hid hnew
      clear hr hx hin k2 k3 hO hb0
      go_wp2_with (at_builtin; refine wpList_append_own _ rfl _ _ 23 rfl W.heap.size 68 i0 z0 6 56 Tryz.underlying23 hi hz0 hz1 hz2 hz3 (by decide) _ _ _ rfl hO2.out ⟨wr.heap.size + 1, 0, none⟩ 1 1 (SymT.cells ⟨xn, xs, xv, xz, xb, xk⟩) rfl rfl hnew.out (symC_one _) (by unfold maxLen; omega) (by omega) hbl2.out.size ?_)
      intro v1 w1 hown1 hg1 hnn
      have hbl3 : Below W.heap.size W w1 := hbl2.out.grown hg1 hbl2.out.size (fun m hm => own_low hO2.out m hm)
      clear hg1 hnn
      rw [← flatR_snoc, ← take_snoc hnk.out] at hown1
      have hown1 := Lib.hid hown1
      go_wp2
      go_roundg (gk - 1)
      case measure => omega
      case rel => exact ⟨k + 1, by omega, by omega, by go_num, hbl3, hown1.out⟩
    · obtain rfl : k = o.rels.length := by omega
      have hrows := Lib.hid (rows_of_ownR SymT.cells 6 symC_len hO.out (by simp [namesL]))
      rw [show (namesL o).take o.rels.length = namesL o from List.take_of_length_le (by simp [namesL])] at hrows
      clear hO
      go_wp2
      go_ret
      exact ⟨_, rfl, hrows.out, hbw⟩
end Go.Ev

/-
  Stage 3: the maps of Strip: which symbols are named; the indices of names.
-/
namespace Go.Ev
open Go.RowKit Go.Proofs Go.Rw Go.Maps Go.WideMaps Go.ChangeMaps Go.MapKept
theorem ownsMap_below {w W : World} {P : Program} {k : TypeId} {R : Value → Option (DataW Unit × List MemPlace)} {b n : Nat} {D : DataW Unit} (h : w.ownsMap P k R b n D) (hb : Below w.heap.size w W) : W.ownsMap P k R b n D := by
  have hlt := h.lt
  obtain ⟨es, clock, h1, F, hs, hD⟩ := h
  exact ⟨es, clock, (hb.block b hlt).trans h1, F, hs, hD⟩
theorem plainElem_bool_inv {P : Program} {e : TypeId} (he : P.underlying e = some .bool) {v : Value} {z : DataW Unit × List MemPlace} (h : plainElem P e v = some z) : ∃ x, v = .bool x ∧ z = (.lit (.bool x), []) := by
  unfold plainElem at h
  rw [he] at h
  cases v <;> simp at h
  exact ⟨_, rfl, h.symm⟩
theorem info_zero {t : Nat} {z : Value} (h : (Tryz.prog.info? t).map (fun i => i.zero) = some (some z)) (w : World) : (zeroValue t).run Tryz.prog w = .ok z w := by
  cases hi : Tryz.prog.info? t with
  | none => rw [hi] at h; cases h
  | some i =>
    rw [hi] at h
    simp only [Option.map_some, Option.some.injEq] at h
    simp [zeroValue, typeInfo, hi, h]
theorem zero3 (w : World) : (zeroValue 3).run Tryz.prog w = .ok (.int .i64 0) w := info_zero (by kernel_rfl) w
theorem zero4 (w : World) : (zeroValue 4).run Tryz.prog w = .ok (.bool false) w := info_zero (by kernel_rfl) w
theorem lawI : Keyed Tryz.prog 3 := int_keyed Tryz.underlying3
theorem key_int {a : Int} (h : inI64 a) : keyOf Tryz.prog 3 (.int .i64 a) = some (.int .i64 a) := keyOf_int_mk Tryz.underlying3 (by simpa [Lit.wf, IntKind.min, IntKind.max, IntKind.signed, IntKind.bits, inI64] using h)
/-- Block b is the map of the indices of the first k of these different names. -/
def MapV (W : World) (b k : Nat) (l : List ByteArray) : Prop := ∃ D : DataW Unit, W.ownsMap Tryz.prog 9 (plainElem Tryz.prog 3) b k D ∧ ∀ (j : Nat) (s : ByteArray), j < k → l[j]? = some s → D.atKey (keyL s) (.lit (.int .i64 0)) = .lit (.int .i64 (j : Int))
theorem MapV.below {w W : World} {b k : Nat} {l : List ByteArray} (h : MapV w b k l) (hb : Below w.heap.size w W) : MapV W b k l := by
  obtain ⟨D, h1, h2⟩ := h
  exact ⟨D, ownsMap_below h1 hb, h2⟩
theorem mapV_new (w : World) (l : List ByteArray) : MapV (w.alloc (.map #[] 0)) w.heap.size 0 l := ⟨_, World.ownsMap_made _ _ _ _, fun j s hj => by omega⟩
theorem mapV_step {W W' : World} {b k : Nat} {l : List ByteArray} {D : DataW Unit} {s : ByteArray} (hn : l.Nodup) (h0 : W.ownsMap Tryz.prog 9 (plainElem Tryz.prog 3) b k D) (h1 : ∀ (j : Nat) (s : ByteArray), j < k → l[j]? = some s → D.atKey (keyL s) (.lit (.int .i64 0)) = .lit (.int .i64 (j : Int)))
    (hs : l[k]? = some s) (h : W'.ownsMap Tryz.prog 9 (plainElem Tryz.prog 3) b (k + 1) (D.put (keyL s) (.lit (.int .i64 (k : Int))))) : MapV W' b (k + 1) l := by
  have ht := h0.tidy lawK
  refine ⟨_, h, fun j t hj ht' => ?_⟩
  by_cases e : j = k
  · subst e
    rw [hs] at ht'
    cases ht'
    exact atKey_put_same ht.isMap (show WideAt.IsKeyLit (keyL s) from trivial) _ _
  · rw [atKey_put_other (fun h' => ?_)]
    · exact h1 j t (by omega) ht'
    · have e2 := keyL_inj h'
      subst e2
      have h3 := (List.getElem?_eq_some_iff.1 hs).1
      have h4 := (List.getElem?_eq_some_iff.1 ht').1
      exact (List.pairwise_iff_getElem.1 hn j k h4 h3 (by omega)) (by rw [(List.getElem?_eq_some_iff.1 hs).2, (List.getElem?_eq_some_iff.1 ht').2])
theorem MapV.look {W : World} {b k j : Nat} {l : List ByteArray} {s : ByteArray} (h : MapV W b k l) (hj : j < k) (hs : l[j]? = some s) (hz : s.size ≤ 140737488351232) : (Instr.lookup 147 (.map (some b)) (.string s) false).run Tryz.prog W = .ok (.int .i64 (j : Int)) W := by
  obtain ⟨D, h1, h2⟩ := h
  obtain ⟨c, hrun, hat, -⟩ := h1.lookup_int lawK Tryz.underlying147 Tryz.underlying3 (zero3 W) (key_of s hz)
  rw [h2 j s hj hs] at hat
  simp only [DataW.lit.injEq, Lit.int.injEq, true_and] at hat
  rw [hrun, hat]
/-- Block b is the map of what these numbers are. -/
def MapN (W : World) (b k : Nat) (l : List Int) : Prop := ∃ D : DataW Unit, W.ownsMap Tryz.prog 3 (plainElem Tryz.prog 4) b k D ∧ ∀ i : Int, D.atKey (.int .i64 i) (.lit (.bool false)) = .lit (.bool (decide (i ∈ l)))
theorem MapN.below {w W : World} {b k : Nat} {l : List Int} (h : MapN w b k l) (hb : Below w.heap.size w W) : MapN W b k l := by
  obtain ⟨D, h1, h2⟩ := h
  exact ⟨D, ownsMap_below h1 hb, h2⟩
theorem mapN_new (w : World) : MapN (w.alloc (.map #[] 0)) w.heap.size 0 [] := ⟨_, World.ownsMap_made _ _ _ _, fun i => by simp [DataW.atKey]⟩
theorem mapN_step {W W' : World} {b k : Nat} {l : List Int} {D : DataW Unit} {z : Int} (h0 : W.ownsMap Tryz.prog 3 (plainElem Tryz.prog 4) b k D) (h1 : ∀ i : Int, D.atKey (.int .i64 i) (.lit (.bool false)) = .lit (.bool (decide (i ∈ l))))
    (h : W'.ownsMap Tryz.prog 3 (plainElem Tryz.prog 4) b (k + 1) (D.put (.int .i64 z) (.lit (.bool true)))) : MapN W' b (k + 1) (l ++ [z]) := by
  have ht := h0.tidy lawI
  refine ⟨_, h, fun i => ?_⟩
  by_cases e : i = z
  · subst e
    rw [atKey_put_same ht.isMap (show WideAt.IsKeyLit (.int .i64 i) from trivial)]
    simp
  · rw [atKey_put_other (fun h' => e (by injection h')), h1 i]
    simp [e]
theorem MapN.look {W : World} {b k : Nat} {l : List Int} (h : MapN W b k l) {i : Int} (hi : inI64 i) : (Instr.lookup 146 (.map (some b)) (.int .i64 i) false).run Tryz.prog W = .ok (.bool (decide (i ∈ l))) W := by
  obtain ⟨D, h1, h2⟩ := h
  obtain ⟨v, ps, hrun, hv⟩ := h1.lookup lawI Tryz.underlying146 (zero4 W) (plainElem_bool Tryz.underlying4 false) (key_int hi)
  obtain ⟨x, rfl, hx⟩ := plainElem_bool_inv Tryz.underlying4 hv
  rw [h2 i] at hx
  simp only [Prod.mk.injEq, DataW.lit.injEq, Lit.bool.injEq] at hx
  rw [hrun, hx.1]
def IdxV (l : List ByteArray) (w : World) (e : Ending) (w' : World) : Prop := e = .returned (.map (some w.heap.size)) ∧ Below w.heap.size w w' ∧ MapV w' w.heap.size l.length l
set_option maxRecDepth 100000 in
set_option maxHeartbeats 1000000 in
/-- indicesOf of symbols, with what they are. -/
theorem indicesV_sym {w : World} {s : Value} {l : List SymT} (h : RowsAt w s SymT.cells 6 l) (hr : ∀ x ∈ l, x.R) (hl : l.length ≤ 140737488351232) (hn : (l.map (·.name)).Nodup) : Calls Tryz.prog 113 #[s, .func (.func 114) #[] #[]] w (IdxV (l.map (·.name)) w) := by
  obtain ⟨a, c, rfl⟩ := rows_slice h
  have hmm := @run_makeMap Tryz.prog
  have e114 := enters114
  have hn := Lib.hid hn
  go_enter Tryz.func113, Tryz.ntmps113
  go_wp2
  go_loopw [11] (fun i wr => ∃ k : Nat, k ≤ l.length ∧ i = .int .i64 k ∧ MapV wr w.heap.size k (l.map (·.name)) ∧ Below w.heap.size w wr) (fun i _ => l.length - (intOf i).toNat)
  case atStart => exact ⟨0, Nat.zero_le _, rfl, mapV_new _ _, (Below.refl _ _).alloc (Nat.le_refl _) _⟩
  case round =>
    obtain ⟨k, hk, rfl, hM, hbl⟩ := hrel
    by_cases hlt : k < l.length
    · obtain ⟨b, of, rfl⟩ := rows_some2 h hlt
      obtain ⟨x, hx⟩ : ∃ x, l[k]? = some x := ⟨l[k], by simp [hlt]⟩
      obtain ⟨g0, g1, g2, g3, g4, g5⟩ := rows_sym (h.below hbl) hx
      have hkey := key_of x.name (hr x (List.mem_of_getElem? hx)).2.2.2.2.2
      have hlt' : (k : Int) < (l.length : Int) := by omega
      obtain ⟨D, m0, m1⟩ := hM
      have hx := Lib.hid (show (l.map (·.name))[k]? = some x.name by rw [List.getElem?_map, hx]; rfl)
      have hfc := fun W => yname_c x W
      have hB := hbl.size
      have m1 := Lib.hid m1
      have m0H := Lib.hid m0
      clear hr h
      obtain ⟨xn, xs, xv, xz, xb, xk⟩ := x
      dsimp only at hfc hkey hx g0 g1 g2 g3 g4 g5
      go_wp2_with (first
        | (go_at_fn 114; refine (hfc _).mono ?_; rintro e w1 ⟨rfl, o, rfl⟩)
        | (at_mapUpdate; refine wpList_mapUpdate_own _ rfl _ _ _ 147 rfl 9 3 lawK Tryz.underlying147 _ w.heap.size k _ rfl ((m0.alloc _).alloc _) (by unfold maxLen; omega) _ _ _ rfl rfl hkey _ [] (plainElem_int Tryz.underlying3 (wf_i64 (by omega) (by omega))) ?_; intro w1 hown1 hgrow1))
      have R1 := mapV_step hn.out m0H.out m1.out hx.out hown1
      have R2 := ((hbl.alloc hB _).alloc (by simp; omega) _).grown hgrow1 (by simp; omega) (fun j hj => by cases hj; exact Nat.le_refl _)
      clear hown1 hgrow1 m0
      go_wp2
      go_roundw
      case rel => exact ⟨k + 1, by omega, by go_num, R1, R2⟩
      case measure => simp [intOf]; omega
    · obtain rfl : k = l.length := by omega
      go_wp2
      go_ret
      exact ⟨rfl, hbl, by rw [List.length_map]; exact hM⟩
end Go.Ev

/-
  Stage 3: changed relocations.
-/
namespace Go.Ev
open Go.RowKit Go.Proofs Go.Rw
section
variable {α : Type} (f : α → List Value) (size : Nat)
theorem flatR_inv (hf : ∀ x, (f x).length = size) : ∀ (l : List α) (i : Nat) (u : Value), (flatR f l)[i]? = some u → ∃ k x j, l[k]? = some x ∧ (f x)[j]? = some u ∧ i = k * size + j
  | [], i, u, h => by simp [flatR] at h
  | y :: l, i, u, h => by
    unfold flatR at h
    rw [List.flatMap_cons] at h
    by_cases hi : i < (f y).length
    · rw [List.getElem?_append_left hi] at h
      exact ⟨0, y, i, rfl, h, by omega⟩
    · rw [List.getElem?_append_right (by omega)] at h
      obtain ⟨k, x, j, h1, h2, h3⟩ := flatR_inv hf l _ u h
      rw [hf] at h3 hi
      exact ⟨k + 1, x, j, by simpa using h1, h2, by rw [Nat.succ_mul]; omega⟩
end
/-- Block g holds these records of five cells. -/
def OwnR {α : Type} (f : α → List Value) (e : Nat) (W : World) (g : Nat) (l : List α) : Prop := ∃ cur : Array Value, W.heap[g]? = some (.cells cur e (0, 0)) ∧ ∀ (k : Nat) (x : α), l[k]? = some x → ∀ (j : Nat) (u : Value), (f x)[j]? = some u → cur[k * 5 + j]? = some u
theorem OwnR.low {α : Type} {f : α → List Value} {e : Nat} {W : World} {g : Nat} {l : List α} (h : OwnR f e W g l) : g < W.heap.size := by
  obtain ⟨cur, h1, -⟩ := h
  exact (Array.getElem?_eq_some_iff.1 h1).1
theorem OwnR.below {α : Type} {f : α → List Value} {e : Nat} {W W' : World} {g : Nat} {l : List α} (h : OwnR f e W g l) (hb : Below W.heap.size W W') : OwnR f e W' g l := by
  have hlt := h.low
  obtain ⟨cur, h1, h2⟩ := h
  exact ⟨cur, (hb.block g hlt).trans h1, h2⟩
theorem ownR_of_own {α : Type} {f : α → List Value} {e base c n : Nat} {W : World} {g : Nat} {l : List α} (hf : ∀ x, (f x).length = 5) (h : W.ownsRow base e 5 (.slice (some ⟨g, 0, none⟩) n c) n (flatR f l)) : OwnR f e W g l ∧ base ≤ g := by
  rcases id h.2 with ⟨h0, _⟩ | ⟨g', cap, cur, he, hb, hg, _⟩
  · cases h0
  · cases he
    refine ⟨⟨cur, hg, fun k x hk j u hj => ?_⟩, hb⟩
    have := h.cells (g := g) rfl (k * 5 + j) u (flatR_get f 5 hf l k x hk j u hj)
    rw [cell_add, Nat.zero_add] at this
    simpa [World.cell?, hg] using this
theorem OwnR.rows {α : Type} {f : α → List Value} {e c : Nat} {W : World} {g : Nat} {l : List α} (h : OwnR f e W g l) : RowsAt W (.slice (some ⟨g, 0, none⟩) l.length c) f 5 l := by
  obtain ⟨cur, h1, h2⟩ := h
  refine ⟨_, c, rfl, .inr ⟨g, 0, rfl, fun k x hk j u hj => ?_⟩⟩
  have := h2 k x hk j u hj
  rw [Nat.zero_add]
  simpa [World.cell?, h1] using this
theorem OwnR.cell {α : Type} {f : α → List Value} {e : Nat} {W : World} {g : Nat} {l : List α} (h : OwnR f e W g l) {k j : Nat} {x : α} {u : Value} (hk : l[k]? = some x) (hj : (f x)[j]? = some u) : W.cell? ⟨g, k * 5 + j, none⟩ = some u := by
  obtain ⟨cur, h1, h2⟩ := h
  have := h2 k x hk j u hj
  simpa [World.cell?, h1] using this
theorem OwnR.frozen {α : Type} {f : α → List Value} {e : Nat} {W : World} {g : Nat} {l : List α} (h : OwnR f e W g l) (i : Nat) : W.frozen? ⟨g, i, none⟩ = false := by
  obtain ⟨cur, h1, -⟩ := h
  simp [World.frozen?, h1]
theorem OwnR.set {α : Type} {f : α → List Value} {e : Nat} {W : World} {g : Nat} {l : List α} (hf : ∀ x, (f x).length = 5) (h : OwnR f e W g l) {k j0 : Nat} {x x' : α} {u : Value} (hk : l[k]? = some x) (hj0 : j0 < 5) (hx : f x' = (f x).set j0 u) : OwnR f e (W.setCell ⟨g, k * 5 + j0, none⟩ u) g (l.set k x') := by
  obtain ⟨cur, h1, h2⟩ := h
  obtain ⟨old, hold⟩ : ∃ o, (f x)[j0]? = some o := ⟨(f x)[j0]'(by rw [hf]; exact hj0), by simp [hf, hj0]⟩
  have hsz := (Array.getElem?_eq_some_iff.1 (h2 k x hk j0 old hold)).1
  refine ⟨cur.setIfInBounds (k * 5 + j0) u, heap_setCell_same _ _ _ _ _ _ h1, fun k2 x2 hk2 j v hj => ?_⟩
  have hj5 : j < 5 := by have := (List.getElem?_eq_some_iff.1 hj).1; rwa [hf] at this
  rw [Array.getElem?_setIfInBounds]
  by_cases e : k2 = k
  · subst e
    rw [List.getElem?_set_self (List.getElem?_eq_some_iff.1 hk).1] at hk2
    cases hk2
    rw [hx] at hj
    by_cases ej : j = j0
    · subst ej
      rw [if_pos rfl, if_pos hsz]
      rw [List.getElem?_set_self (by rw [hf]; exact hj5)] at hj
      exact hj
    · rw [if_neg (by omega)]
      rw [List.getElem?_set_ne (fun h => ej h.symm)] at hj
      exact h2 k2 x hk j v hj
  · rw [if_neg (by omega)]
    rw [List.getElem?_set_ne (fun h => e h.symm)] at hk2
    exact h2 k2 x2 hk2 j v hj
theorem info94 : (Tryz.prog.info? 94).map (fun i => (i.zero.map fun z => z.cells.size, i.size, i.bytes)) = some (some 5, 5, 40) := by kernel_rfl
theorem info66 : (Tryz.prog.info? 66).map (fun i => (i.zero.map fun z => z.cells.size, i.size, i.bytes)) = some (some 5, 5, 64) := by kernel_rfl
def CloneV {α : Type} (f : α → List Value) (t : Nat) (l : List α) (w : World) (e : Ending) (w' : World) : Prop := ∃ v, e = .returned v ∧ w'.ownsRow w.heap.size t 5 v l.length (flatR f l) ∧ Below w.heap.size w w'
theorem clone_cells {α : Type} {f : α → List Value} (hf : ∀ x, (f x).length = 5) {w : World} {a : Addr} {l : List α} (hx : l = [] ∨ ∃ b o, some a = some ⟨b, o, none⟩ ∧ ∀ (k : Nat) (x : α), l[k]? = some x → ∀ (j : Nat) (u : Value), (f x)[j]? = some u → w.cell? ⟨b, o + k * 5 + j, none⟩ = some u) {W : World} (hb : Below w.heap.size w W) :
    ∀ j u, (flatR f l)[j]? = some u → W.cell? (a.add j) = some u := fun i u hi => by
  rcases hx with rfl | ⟨b, o, he, hc⟩
  · simp [flatR] at hi
  · cases he
    obtain ⟨k, x, j, h1, h2, rfl⟩ := flatR_inv f 5 hf l i u hi
    have := hc k x h1 j u h2
    rw [cell_add, ← Nat.add_assoc]
    exact (hb.cell (low_of_cell this)).trans this
set_option maxRecDepth 100000 in
set_option maxHeartbeats 1000000 in
/-- slices.Clone of relocations. -/
theorem clone_rel {w : World} {s : Value} {l : List RelT} (h : RowsAt w s RelT.cells 5 l) (hl : l.length ≤ 2000) : Calls Tryz.prog 198 #[s] w (CloneV RelT.cells 94 l w) := by
  obtain ⟨a, c, rfl, hx⟩ := h
  obtain ⟨i0, z0, hi, hz0, hz1, hz2, hz3⟩ := info_any info94
  cases a with
  | none =>
    obtain rfl : l = [] := by
      rcases hx with h | ⟨b, o, h, _⟩
      · exact h
      · cases h
    have hnil := fun (w : World) => Lib.run_eql_slice_nil (P := Tryz.prog) w 24 94 none 0 c 0 0 Tryz.underlying24
    go_enter Tryz.func198, Tryz.ntmps198
    go_wp2
    go_ret
    exact ⟨_, rfl, by simpa [flatR] using World.ownsRow_nil _ _ _ _, Below.refl _ _⟩
  | some a =>
    have hnil := fun (w : World) => Lib.run_eql_slice_nil (P := Tryz.prog) w 24 94 (some a) l.length c 0 0 Tryz.underlying24
    have hown0 : (w.alloc (.cells #[] 94)).ownsRow w.heap.size 94 5 (.slice (some ⟨w.heap.size, 0, none⟩) 0 0) 0 [] := World.ownsRow_made w #[] 0 (Nat.le_refl _) (Nat.zero_le _) rfl
    have hbl0 : Below w.heap.size w (w.alloc (.cells #[] 94)) := (Below.refl _ _).alloc (Nat.le_refl _) _
    have hv1 := clone_cells relC_len hx hbl0
    have hlen := flatR_len RelT.cells 5 relC_len l
    have hone : ∀ u ∈ flatR RelT.cells l, u.oneCell' = true := fun u hu => by
      obtain ⟨x, _, hx⟩ := List.mem_flatMap.1 hu
      exact relC_one x u hx
    have hz := hbl0.size
    clear hx
    go_enter Tryz.func198, Tryz.ntmps198
    go_wp2_with (at_builtin; refine wpList_append_own _ rfl _ _ 24 rfl w.heap.size 94 i0 z0 5 40 Tryz.underlying24 hi hz0 hz1 hz2 hz3 (by decide) _ _ _ rfl hown0 a l.length c (flatR RelT.cells l) rfl hlen hv1 hone (by unfold maxLen; omega) (by omega) hz ?_)
    intro v1 w1 hown1 hg1 hnn
    have hbl1 : Below w.heap.size w w1 := hbl0.grown hg1 hz (fun k hk => by simp [Value.ownBlock] at hk; omega)
    have hown1 := Lib.hid hown1
    clear hbl0 hown0 hv1 hg1 hnn hone
    go_wp2
    go_ret
    exact ⟨_, rfl, hown1.out, hbl1⟩
set_option maxRecDepth 100000 in
set_option maxHeartbeats 1000000 in
/-- slices.Clone of sections. -/
theorem clone_sec {w : World} {s : Value} {l : List SecT} (h : RowsAt w s SecT.cells 5 l) (hl : l.length ≤ 2000) : Calls Tryz.prog 201 #[s] w (CloneV SecT.cells 66 l w) := by
  obtain ⟨a, c, rfl, hx⟩ := h
  obtain ⟨i0, z0, hi, hz0, hz1, hz2, hz3⟩ := info_any info66
  cases a with
  | none =>
    obtain rfl : l = [] := by
      rcases hx with h | ⟨b, o, h, _⟩
      · exact h
      · cases h
    have hnil := fun (w : World) => Lib.run_eql_slice_nil (P := Tryz.prog) w 22 66 none 0 c 0 0 Tryz.underlying22
    go_enter Tryz.func201, Tryz.ntmps201
    go_wp2
    go_ret
    exact ⟨_, rfl, by simpa [flatR] using World.ownsRow_nil _ _ _ _, Below.refl _ _⟩
  | some a =>
    have hnil := fun (w : World) => Lib.run_eql_slice_nil (P := Tryz.prog) w 22 66 (some a) l.length c 0 0 Tryz.underlying22
    have hown0 : (w.alloc (.cells #[] 66)).ownsRow w.heap.size 66 5 (.slice (some ⟨w.heap.size, 0, none⟩) 0 0) 0 [] := World.ownsRow_made w #[] 0 (Nat.le_refl _) (Nat.zero_le _) rfl
    have hbl0 : Below w.heap.size w (w.alloc (.cells #[] 66)) := (Below.refl _ _).alloc (Nat.le_refl _) _
    have hv1 := clone_cells secC_len hx hbl0
    have hlen := flatR_len SecT.cells 5 secC_len l
    have hone : ∀ u ∈ flatR SecT.cells l, u.oneCell' = true := fun u hu => by
      obtain ⟨x, _, hx⟩ := List.mem_flatMap.1 hu
      exact secC_one x u hx
    have hz := hbl0.size
    clear hx
    go_enter Tryz.func201, Tryz.ntmps201
    go_wp2_with (at_builtin; refine wpList_append_own _ rfl _ _ 22 rfl w.heap.size 66 i0 z0 5 64 Tryz.underlying22 hi hz0 hz1 hz2 hz3 (by decide) _ _ _ rfl hown0 a l.length c (flatR SecT.cells l) rfl hlen hv1 hone (by unfold maxLen; omega) (by omega) hz ?_)
    intro v1 w1 hown1 hg1 hnn
    have hbl1 : Below w.heap.size w w1 := hbl0.grown hg1 hz (fun k hk => by simp [Value.ownBlock] at hk; omega)
    have hown1 := Lib.hid hown1
    clear hbl0 hown0 hv1 hg1 hnn hone
    go_wp2
    go_ret
    exact ⟨_, rfl, hown1.out, hbl1⟩
set_option maxRecDepth 100000 in
set_option maxHeartbeats 4000000 in
/-- Strip's closure: the index of the symbol's name. -/
theorem strip1_c {w : World} {g off Bm Bo m idx j : Nat} {a2 : Option Addr} {c2 : Nat} {syms keep : List SymT} (hk : RowsAt w (.slice a2 syms.length c2) SymT.cells 6 syms)
    (hp : w.cell? ⟨g, off + 3, none⟩ = some (.int .i64 (j : Int))) (hf : w.frozen? ⟨g, off + 3, none⟩ = false) (hm : w.cell? ⟨Bm, 0, none⟩ = some (.map (some m))) (ho : w.cell? ⟨Bo, 1, none⟩ = some (.slice a2 syms.length c2))
    {x : SymT} (hx : syms[j]? = some x) (hl : syms.length ≤ 140737488351232) (hxR : x.R) (hM : MapV w m keep.length (keep.map (·.name))) (hi : (keep.map (·.name))[idx]? = some x.name) :
    Calls Tryz.prog 116 #[.pointer (some ⟨g, off, none⟩), .pointer (some ⟨Bm, 0, none⟩), .pointer (some ⟨Bo, 0, none⟩)] w fun e w' => e = .returned (.tuple #[]) ∧ w' = (w.setCell ⟨g, off + 3, none⟩ (.int .i64 (idx : Int))).drew := by
  have hjl := (List.getElem?_eq_some_iff.1 hx).1
  obtain ⟨b, o, rfl⟩ := rows_some2 hk hjl
  obtain ⟨q0, q1, q2, q3, q4, q5⟩ := rows_sym hk hx
  have hidx : idx < keep.length := by have := (List.getElem?_eq_some_iff.1 hi).1; simpa using this
  have hlook := (hM.below (Below.refl _ _).drew).look hidx hi hxR.2.2.2.2.2
  have hj1 : (j : Int) < (syms.length : Int) := by omega
  clear hM hi hk
  go_enter Tryz.func116, Tryz.ntmps116
  go_wp2_with fail
  go_region
  go_wp2
  refine bodyPost_end (results_none rfl _ _ _) rfl ?_
  exact ⟨rfl, rfl⟩
/-- The first k of a list are changed. -/
def mixL {α : Type} (F : α → α) (l : List α) (k : Nat) : List α := l.mapIdx fun i x => if i < k then F x else x
theorem mixL_get {α : Type} (F : α → α) (l : List α) (k j : Nat) : (mixL F l k)[j]? = l[j]?.map fun x => if j < k then F x else x := by simp [mixL]
theorem mixL_zero {α : Type} (F : α → α) (l : List α) : mixL F l 0 = l := List.ext_getElem? fun j => by rw [mixL_get]; simp
theorem mixL_all {α : Type} (F : α → α) (l : List α) : mixL F l l.length = l.map F := List.ext_getElem? fun j => by
  rw [mixL_get, List.getElem?_map]
  by_cases h : j < l.length
  · simp [h]
  · rw [List.getElem?_eq_none (by omega)]; rfl
theorem mixL_set {α : Type} (F : α → α) {l : List α} {k : Nat} {x : α} (hx : l[k]? = some x) : (mixL F l k).set k (F x) = mixL F l (k + 1) := List.ext_getElem? fun j => by
  have hk := (List.getElem?_eq_some_iff.1 hx).1
  by_cases e : j = k
  · subst e
    rw [List.getElem?_set_self (by simpa [mixL] using hk), mixL_get, hx]
    simp
  · rw [List.getElem?_set_ne (fun h => e h.symm), mixL_get, mixL_get]
    have : (j < k) = (j < k + 1) := propext ⟨fun h => by omega, fun h => by omega⟩
    simp only [this]
/-- A slice that is nil or lies from block B on. -/
def Fresh (B : Nat) (a : Option Addr) : Prop := ∀ b o s, a = some ⟨b, o, s⟩ → B ≤ b
theorem fresh_own {w : World} {base e size n c : Nat} {a : Option Addr} {xs : List Value} (h : w.ownsRow base e size (.slice a n c) n xs) : Fresh base a := fun b o s ha => by
  subst ha
  rcases h.2 with ⟨h0, _⟩ | ⟨g, cap, cur, h0, hb, _⟩
  · cases h0
  · cases h0
    exact hb
theorem rowsAt_set {α : Type} {W : World} {a : Option Addr} {n c size : Nat} {f : α → List Value} {l : List α} (h : RowsAt W (.slice a n c) f size l) {g : Nat} (hg : ∀ b o s, a = some ⟨b, o, s⟩ → b ≠ g) (i : Nat) (u : Value) : RowsAt (W.setCell ⟨g, i, none⟩ u) (.slice a n c) f size l := by
  obtain ⟨a', c', he, h1⟩ := h
  cases he
  refine ⟨a, c, rfl, h1.imp id fun ⟨b, o, ha, h2⟩ => ⟨b, o, ha, fun k x hk j v hj => ?_⟩⟩
  rw [World.cell?_of_block (w := W) (heap_setCell_other W ⟨g, i, none⟩ b u (hg b o none ha))]
  exact h2 k x hk j v hj
theorem enters116 : ∀ args w, (callFunc 116 args).run Tryz.prog w = .ok (.enter 116 args) w := enters_of Tryz.func116 (by kernel_rfl) rfl
set_option maxRecDepth 100000 in
set_option maxHeartbeats 4000000 in
/-- changed of relocations, with Strip's closure. -/
theorem changed_rel {w : World} {s : Value} {l : List RelT} (h : RowsAt w s RelT.cells 5 l) (hl : l.length ≤ 2000) (idx : RelT → Nat) {Bm Bo m : Nat} {a2 : Option Addr} {c2 : Nat} {syms keep : List SymT} (hk : RowsAt w (.slice a2 syms.length c2) SymT.cells 6 syms)
    (hm : w.cell? ⟨Bm, 0, none⟩ = some (.map (some m))) (ho : w.cell? ⟨Bo, 1, none⟩ = some (.slice a2 syms.length c2)) (hls : syms.length ≤ 140737488351232) (hM : MapV w m keep.length (keep.map (·.name)))
    (hr : ∀ r ∈ l, ∃ (j : Nat) (x : SymT), r.sym = (j : Int) ∧ syms[j]? = some x ∧ x.R ∧ (keep.map (·.name))[idx r]? = some x.name) :
    Calls Tryz.prog 115 #[s, .func (.func 116) #[] #[.pointer (some ⟨Bm, 0, none⟩), .pointer (some ⟨Bo, 0, none⟩)]] w fun e w' => ∃ a c, e = .returned (.slice a l.length c) ∧ RowsAt w' (.slice a l.length c) RelT.cells 5 (l.map fun r => { r with sym := (idx r : Int) }) ∧ Fresh w.heap.size a ∧ Below w.heap.size w w' := by
  have hC := clone_rel h hl
  obtain ⟨a0, c0, rfl⟩ := rows_slice h
  have e116 := enters116
  clear h
  go_enter Tryz.func115, Tryz.ntmps115
  go_wp2_with (go_at_call 198; refine hC.mono ?_; rintro e w1 ⟨v, rfl, hown, hb1⟩; obtain ⟨a, c, rfl⟩ := own_shape hown)
  have hst := Lib.hid (show l = [] ∨ ∃ g, a = some ⟨g, 0, none⟩ ∧ w.heap.size ≤ g ∧ OwnR RelT.cells 94 w1 g l by
    rcases id hown.2 with ⟨h0, h1⟩ | ⟨g, cap, cur, he, hb, _⟩
    · exact .inl (List.eq_nil_of_length_eq_zero h1)
    · cases he
      exact .inr ⟨g, rfl, hb, (ownR_of_own relC_len hown).1⟩)
  have hfr := Lib.hid (fresh_own hown)
  clear hown
  go_loopg [11] l.length (fun gn i wr => ∃ k : Nat, gn + k = l.length ∧ k ≤ l.length ∧ i = .int .i64 k ∧ Below w.heap.size w wr ∧ (l = [] ∨ ∃ g, a = some ⟨g, 0, none⟩ ∧ w.heap.size ≤ g ∧ OwnR RelT.cells 94 wr g (mixL (fun r => { r with sym := (idx r : Int) }) l k)))
  case atStart => exact ⟨0, by omega, by omega, rfl, hb1, by rw [mixL_zero]; exact hst.out⟩
  case round =>
    clear hst hb1
    obtain ⟨k, hgk, hk', rfl, hbl, hS0⟩ := hrel
    have hS := Lib.hid hS0
    clear hS0
    by_cases hlt : k < l.length
    · obtain ⟨g, rfl, hg, hO⟩ : ∃ g, a = some ⟨g, 0, none⟩ ∧ w.heap.size ≤ g ∧ OwnR RelT.cells 94 wr g (mixL (fun r => { r with sym := (idx r : Int) }) l k) := by
        rcases hS.out with h | h
        · rw [h] at hlt; simp at hlt
        · exact h
      have hlt' : (k : Int) < (l.length : Int) := by omega
      obtain ⟨r, hr1⟩ : ∃ x, l[k]? = some x := ⟨l[k], by simp [hlt]⟩
      obtain ⟨j, x, hj, hx, hxR, hi⟩ := hr r (List.mem_of_getElem? hr1)
      have hmk : (mixL (fun r => { r with sym := (idx r : Int) }) l k)[k]? = some r := by rw [mixL_get, hr1]; simp
      have hp := hO.cell hmk (j := 3) (u := .int .i64 r.sym) rfl
      rw [hj] at hp
      have hc := strip1_c (idx := idx r) (hk.below hbl) hp (hO.frozen _) ((hbl.cell (low_of_cell hm)).trans hm) ((hbl.cell (low_of_cell ho)).trans ho) hx hls hxR (hM.below hbl) hi
      have hnew := Lib.hid (show OwnR RelT.cells 94 ((wr.setCell ⟨g, k * 5 + 3, none⟩ (.int .i64 (idx r : Int))).drew) g (mixL (fun r => { r with sym := (idx r : Int) }) l (k + 1)) from by
        rw [← mixL_set _ hr1]
        exact (hO.set relC_len hmk (by omega) (x' := { r with sym := (idx r : Int) }) rfl).below (Below.refl _ _).drew)
      have hbn := (hbl.setCell (p := ⟨g, k * 5 + 3, none⟩) hg (.int .i64 (idx r : Int))).drew
      clear hS hO hp hr hr1 hi hx hk hm ho hM hmk
      go_wp2_with (go_at_fn 116; refine hc.mono ?_; rintro e w2 ⟨rfl, rfl⟩)
      go_roundg (gk - 1)
      case measure => omega
      case rel => exact ⟨k + 1, by omega, by omega, by go_num, hbn, .inr ⟨g, rfl, hg, hnew.out⟩⟩
    · obtain rfl : k = l.length := by omega
      have hrows := Lib.hid (show RowsAt wr (.slice a l.length c) RelT.cells 5 (l.map fun r => { r with sym := (idx r : Int) }) by
        rcases hS.out with h | ⟨g, rfl, _, hO⟩
        · rw [h]; exact ⟨a, c, rfl, .inl rfl⟩
        · rw [mixL_all] at hO
          have := hO.rows (c := c)
          rwa [List.length_map] at this)
      clear hS
      go_wp2
      go_ret
      exact ⟨a, c, rfl, hrows.out, hfr.out, hbl⟩
end Go.Ev

/-
  Stage 3: copied sections.
-/
namespace Go.Ev
open Go.RowKit Go.Proofs Go.Rw
set_option maxRecDepth 100000 in
set_option maxHeartbeats 1000000 in
/-- bytes.Clone. -/
theorem bclone_any {w : World} {a : Option Addr} {n c : Nat} {B : ByteArray} (h : SecIn w a n B) (hn : n ≤ 140737488351232) :
    Calls Tryz.prog 144 #[.slice a n c] w fun e w' => ∃ a' c', e = .returned (.slice a' n c') ∧ SecIn w' a' n B ∧ Fresh w.heap.size a' ∧ Below w.heap.size w w' := by
  cases a with
  | none =>
    obtain rfl : n = 0 := by
      rcases h with ⟨h, _⟩ | ⟨b, o, q, h, _⟩
      · exact h
      · cases h
    have hnil := fun (w : World) => Lib.run_eql_slice_nil (P := Tryz.prog) w 34 5 none 0 c 0 0 Tryz.underlying34
    have hS : ∀ W, SecIn W none 0 B := fun W => by
      rcases h with ⟨_, h⟩ | ⟨b, o, q, h, _⟩
      · exact .inl ⟨rfl, h⟩
      · cases h
    clear h
    have hS := Lib.hid hS
    go_enter Tryz.func144, Tryz.ntmps144
    go_wp2
    go_ret
    exact ⟨none, 0, rfl, hS.out _, fun b o s h => by (cases h), Below.refl _ _⟩
  | some ad =>
    obtain ⟨q, hB, hcell⟩ : ∃ q : Nat → Int, (∀ W g, (∀ j, j < n → W.cell? ⟨g, j, none⟩ = some (.int .u8 (q j))) → SecIn W (some ⟨g, 0, none⟩) n B) ∧ ∀ j, j < n → w.cell? (ad.add j) = some (.int .u8 (q j)) := by
      rcases h with ⟨rfl, hB⟩ | ⟨b, o, q, he, hB, hq, hc⟩
      · exact ⟨fun _ => 0, fun W g _ => .inl ⟨rfl, hB⟩, fun j hj => by omega⟩
      · cases he
        exact ⟨q, fun W g hg => .inr ⟨g, 0, q, rfl, hB, hq, fun j hj => by rw [Nat.zero_add]; exact hg j hj⟩, fun j hj => by rw [cell_add]; exact hc j hj⟩
    obtain ⟨i0, hi, hz0, hz1, hz2⟩ := info_parts info5
    have hnil := fun (w : World) => Lib.run_eql_slice_nil (P := Tryz.prog) w 34 5 (some ad) n c 0 0 Tryz.underlying34
    have hown0 : (w.alloc (.cells #[] 5)).ownsRow w.heap.size 5 1 (.slice (some ⟨w.heap.size, 0, none⟩) 0 0) 0 [] := World.ownsRow_made w #[] 0 (Nat.le_refl _) (Nat.zero_le _) rfl
    have hbl0 : Below w.heap.size w (w.alloc (.cells #[] 5)) := (Below.refl _ _).alloc (Nat.le_refl _) _
    have hv1 : ∀ j u, (byV q n)[j]? = some u → (w.alloc (.cells #[] 5)).cell? (ad.add j) = some u := fun j u hj => by
      obtain ⟨hj', rfl⟩ := byV_get hj
      have := hcell j hj'
      exact (hbl0.cell (low_of_cell this)).trans this
    have hl := byV_len q n
    have ho := byV_one q n
    have hz := hbl0.size
    clear hcell h
    have hB := Lib.hid hB
    go_enter Tryz.func144, Tryz.ntmps144
    go_wp2_with (at_builtin; refine wpList_append_own _ rfl _ _ 34 rfl w.heap.size 5 i0 (.int .u8 0) 1 1 Tryz.underlying34 hi hz0 hz1 hz2 rfl (by decide) _ _ _ rfl hown0 ad n c (byV q n) rfl (by omega) hv1 ho (by unfold maxLen; omega) (by omega) hz ?_)
    intro v1 w1 hown1 hg1 hnn
    have hbl1 : Below w.heap.size w w1 := hbl0.grown hg1 hz (fun k hk => by simp [Value.ownBlock] at hk; omega)
    have hres := Lib.hid (show ∃ a' c', v1 = .slice a' n c' ∧ SecIn w1 a' n B ∧ Fresh w.heap.size a' by
      have hown1 : w1.ownsRow w.heap.size 5 1 v1 n (byV q n) := by simpa using hown1
      rcases id hown1.2 with ⟨h0, h1⟩ | ⟨g, cap, cur, h0, hb, _⟩
      · subst h1
        exact ⟨none, 0, h0, by
          have := hB.out w1 0 (fun j hj => by omega)
          rcases this with h | ⟨_, _, q', _, h, _⟩
          · exact .inl h
          · exact .inl ⟨rfl, by rw [h]; rfl⟩, fun b o s h => by (cases h)⟩
      · refine ⟨_, cap, h0, hB.out w1 g fun j hj => ?_, fun b o s h => by cases h; exact hb⟩
        subst h0
        have := hown1.cells (g := g) rfl j _ (byV_at (f := q) hj)
        rwa [cell_add, Nat.zero_add] at this)
    clear hown1 hg1 hnn hv1 hown0
    obtain ⟨a', c', rfl, h1, h2⟩ := hres.out
    have h1 := Lib.hid h1
    have h2 := Lib.hid h2
    clear hres
    go_wp2
    go_ret
    exact ⟨a', c', rfl, h1.out, h2.out, hbl1⟩
theorem secIn_set {W : World} {a : Option Addr} {n : Nat} {B : ByteArray} (h : SecIn W a n B) {g : Nat} (hg : ∀ b o s, a = some ⟨b, o, s⟩ → b ≠ g) (i : Nat) (u : Value) : SecIn (W.setCell ⟨g, i, none⟩ u) a n B := by
  rcases h with h | ⟨b, o, q, rfl, hB, hq, hc⟩
  · exact .inl h
  · refine .inr ⟨b, o, q, rfl, hB, hq, fun j hj => ?_⟩
    rw [World.cell?_of_block (w := W) (heap_setCell_other W ⟨g, i, none⟩ b u (hg b o none rfl))]
    exact hc j hj
theorem enters200 : ∀ args w, (callFunc 200 args).run Tryz.prog w = .ok (.enter 200 args) w := enters_of Tryz.func200 (by kernel_rfl) rfl
set_option maxRecDepth 100000 in
set_option maxHeartbeats 1000000 in
/-- copySections' closure. -/
theorem copy1_c {w : World} {g off n c : Nat} {a : Option Addr} {B : ByteArray} (hp : w.cell? ⟨g, off + 3, none⟩ = some (.slice a n c)) (hf : w.frozen? ⟨g, off + 3, none⟩ = false) (h : SecIn w a n B) (hn : n ≤ 140737488351232) :
    Calls Tryz.prog 200 #[.pointer (some ⟨g, off, none⟩)] w fun e w' => e = .returned (.tuple #[]) ∧ ∃ a' c' w1, Below w.heap.size w w1 ∧ SecIn w1 a' n B ∧ Fresh w.heap.size a' ∧ w' = w1.setCell ⟨g, off + 3, none⟩ (.slice a' n c') := by
  have hC := fun c => bclone_any (c := c) h hn
  have hlow := low_of_cell hp
  clear h
  go_enter Tryz.func200, Tryz.ntmps200
  go_wp2_with (go_at_call 144; refine (hC _).mono ?_; rintro e w1 ⟨a', c', rfl, hS, hF, hb⟩; have hp1 := (hb.cell hlow).trans hp; have hf1 := (hb.frozen hlow).trans hf)
  have hS := Lib.hid hS
  have hF := Lib.hid hF
  refine bodyPost_end (results_none rfl _ _ _) rfl ?_
  exact ⟨rfl, a', c', w1, hb, hS.out, hF.out, rfl⟩
/-- Sections that are the same but for where their bytes lie. -/
def SecSim (x y : SecT) : Prop := y.name = x.name ∧ y.rights = x.rights ∧ y.align = x.align ∧ y.bn = x.bn ∧ y.zero = x.zero
def SecsSim (C : SecT → ByteArray) (B0 : Nat) (W : World) (g : Nat) (l m : List SecT) (k : Nat) : Prop := m.length = l.length ∧ ∀ (j : Nat) (x y : SecT), l[j]? = some x → m[j]? = some y → (j < k → SecSim x y ∧ SecIn W y.ba y.bn (C x) ∧ ∀ b o s, y.ba = some ⟨b, o, s⟩ → B0 ≤ b ∧ b ≠ g) ∧ (k ≤ j → y = x)
set_option maxRecDepth 100000 in
set_option maxHeartbeats 4000000 in
/-- changed of sections, with copySections' closure. -/
theorem changed_sec {w : World} {s : Value} {l : List SecT} (h : RowsAt w s SecT.cells 5 l) (hl : l.length ≤ 2000) {C : SecT → ByteArray} (hC : ∀ x ∈ l, SecIn w x.ba x.bn (C x)) (hR : ∀ x ∈ l, x.R) :
    Calls Tryz.prog 199 #[s, .func (.func 200) #[] #[]] w fun e w' => ∃ a c m, e = .returned (.slice a l.length c) ∧ RowsAt w' (.slice a l.length c) SecT.cells 5 m ∧ m.length = l.length ∧ (∀ (j : Nat) (x y : SecT), l[j]? = some x → m[j]? = some y → SecSim x y ∧ SecIn w' y.ba y.bn (C x) ∧ Fresh w.heap.size y.ba) ∧ Fresh w.heap.size a ∧ Below w.heap.size w w' := by
  have hCl := clone_sec h hl
  obtain ⟨a0, c0, rfl⟩ := rows_slice h
  have e200 := enters200
  clear h
  go_enter Tryz.func199, Tryz.ntmps199
  go_wp2_with (go_at_call 201; refine hCl.mono ?_; rintro e w1 ⟨v, rfl, hown, hb1⟩; obtain ⟨a, c, rfl⟩ := own_shape hown)
  have hst := Lib.hid (show l = [] ∨ ∃ g, a = some ⟨g, 0, none⟩ ∧ w.heap.size ≤ g ∧ OwnR SecT.cells 66 w1 g l by
    rcases id hown.2 with ⟨h0, h1⟩ | ⟨g, cap, cur, he, hb, _⟩
    · exact .inl (List.eq_nil_of_length_eq_zero h1)
    · cases he
      exact .inr ⟨g, rfl, hb, (ownR_of_own secC_len hown).1⟩)
  have hfr := Lib.hid (fresh_own hown)
  clear hown hCl
  go_loopg [11] l.length (fun gn i wr => ∃ k : Nat, gn + k = l.length ∧ k ≤ l.length ∧ i = .int .i64 k ∧ Below w.heap.size w wr ∧ (l = [] ∨ ∃ g m, a = some ⟨g, 0, none⟩ ∧ w.heap.size ≤ g ∧ OwnR SecT.cells 66 wr g m ∧ SecsSim C w.heap.size wr g l m k))
  case atStart =>
    refine ⟨0, by omega, by omega, rfl, hb1, ?_⟩
    rcases hst.out with h | ⟨g, h1, h2, h3⟩
    · exact .inl h
    · exact .inr ⟨g, l, h1, h2, h3, rfl, fun j x y hx hy => ⟨fun h => by omega, fun _ => by rw [hx] at hy; cases hy; rfl⟩⟩
  case round =>
    clear hst hb1
    obtain ⟨k, hgk, hk', rfl, hbl, hS0⟩ := hrel
    have hS := Lib.hid hS0
    clear hS0
    by_cases hlt : k < l.length
    · obtain ⟨g, m, rfl, hg, hO, hml, hsim⟩ : ∃ g m, a = some ⟨g, 0, none⟩ ∧ w.heap.size ≤ g ∧ OwnR SecT.cells 66 wr g m ∧ SecsSim C w.heap.size wr g l m k := by
        rcases hS.out with h | h
        · rw [h] at hlt; simp at hlt
        · exact h
      have hlt' : (k : Int) < (l.length : Int) := by omega
      obtain ⟨x, hx⟩ : ∃ x, l[k]? = some x := ⟨l[k], by simp [hlt]⟩
      have hmk : m[k]? = some x := by
        obtain ⟨y, hy⟩ : ∃ y, m[k]? = some y := ⟨m[k]'(by omega), by simp [hml, hlt]⟩
        rw [hy, (hsim k x y hx hy).2 (Nat.le_refl _)]
      have hp := hO.cell hmk (j := 3) (u := .slice x.ba x.bn x.bc) rfl
      have hc := copy1_c hp (hO.frozen _) ((hC x (List.mem_of_getElem? hx)).below hbl) (hR x (List.mem_of_getElem? hx)).2.2.1
      have hgl := hO.low
      have hnext := Lib.hid (show ∀ a' c' w1, Below wr.heap.size wr w1 → SecIn w1 a' x.bn (C x) → Fresh wr.heap.size a' → (∃ m', OwnR SecT.cells 66 (w1.setCell ⟨g, k * 5 + 3, none⟩ (.slice a' x.bn c')) g m' ∧ SecsSim C w.heap.size (w1.setCell ⟨g, k * 5 + 3, none⟩ (.slice a' x.bn c')) g l m' (k + 1)) ∧ Below w.heap.size w (w1.setCell ⟨g, k * 5 + 3, none⟩ (.slice a' x.bn c')) from fun a' c' w1 hb hI hF => by
        refine ⟨⟨m.set k { x with ba := a', bc := c' }, (hO.below hb).set secC_len hmk (by omega) (x' := { x with ba := a', bc := c' }) rfl, by rw [List.length_set]; exact hml, fun j y z hy hz => ?_⟩, (bel_then hbl (Nat.le_refl _) hb).setCell (p := ⟨g, k * 5 + 3, none⟩) hg _⟩
        by_cases e : j = k
        · subst e
          rw [hx] at hy
          cases hy
          rw [List.getElem?_set_self (List.getElem?_eq_some_iff.1 hmk).1] at hz
          cases hz
          have hwr := hbl.size
          have hne : ∀ b o s, a' = some ⟨b, o, s⟩ → w.heap.size ≤ b ∧ b ≠ g := fun b o s h => by have := hF b o s h; omega
          exact ⟨fun _ => ⟨⟨rfl, rfl, rfl, rfl, rfl⟩, secIn_set hI (fun b o s h => (hne b o s h).2) _ _, hne⟩, fun h => by omega⟩
        · rw [List.getElem?_set_ne (fun h => e h.symm)] at hz
          obtain ⟨s1, s2⟩ := hsim j y z hy hz
          refine ⟨fun h => ?_, fun h => s2 (by omega)⟩
          obtain ⟨t1, t2, t3⟩ := s1 (by omega)
          exact ⟨t1, secIn_set (t2.below hb) (fun b o s h => (t3 b o s h).2) _ _, t3⟩)
      clear hS hO hp hx hmk hsim hml hC hR
      obtain ⟨xn, xr, xa, xb, xl, xc, xz⟩ := x
      dsimp only at hc hnext
      go_wp2_with (go_at_fn 200; refine hc.mono ?_; rintro e w2 ⟨rfl, a', c', w1, hb, hI, hF, rfl⟩)
      obtain ⟨⟨m', n1, n2⟩, n3⟩ := hnext.out a' c' w1 hb hI hF
      have n1 := Lib.hid n1
      have n2 := Lib.hid n2
      clear hnext hb hI hF
      go_roundg (gk - 1)
      case measure => omega
      case rel => exact ⟨k + 1, by omega, by omega, by go_num, n3, .inr ⟨g, m', rfl, hg, n1.out, n2.out⟩⟩
    · obtain rfl : k = l.length := by omega
      have hend := Lib.hid (show ∃ m, RowsAt wr (.slice a l.length c) SecT.cells 5 m ∧ m.length = l.length ∧ (∀ (j : Nat) (x y : SecT), l[j]? = some x → m[j]? = some y → SecSim x y ∧ SecIn wr y.ba y.bn (C x) ∧ Fresh w.heap.size y.ba) by
        rcases hS.out with h | ⟨g, m, rfl, _, hO, hml, hsim⟩
        · exact ⟨[], ⟨a, c, by rw [h], .inl rfl⟩, by rw [h], fun j x y hx hy => by simp at hy⟩
        · have := hO.rows (c := c)
          rw [hml] at this
          refine ⟨m, this, hml, fun j x y hx hy => ?_⟩
          have := (hsim j x y hx hy).1 (List.getElem?_eq_some_iff.1 hx).1
          exact ⟨this.1, this.2.1, fun b o s h => (this.2.2 b o s h).1⟩)
      clear hS
      go_wp2
      go_ret
      obtain ⟨m, n1, n2, n3⟩ := hend.out
      exact ⟨a, c, m, rfl, n1, n2, n3, hfr.out, hbl⟩
set_option maxRecDepth 100000 in
set_option maxHeartbeats 1000000 in
/-- copySections. -/
theorem copySecs_c {w : World} {s : Value} {l : List SecT} (h : RowsAt w s SecT.cells 5 l) (hl : l.length ≤ 2000) {C : SecT → ByteArray} (hC : ∀ x ∈ l, SecIn w x.ba x.bn (C x)) (hR : ∀ x ∈ l, x.R) :
    Calls Tryz.prog 117 #[s] w fun e w' => ∃ a c m, e = .returned (.slice a l.length c) ∧ RowsAt w' (.slice a l.length c) SecT.cells 5 m ∧ m.length = l.length ∧ (∀ (j : Nat) (x y : SecT), l[j]? = some x → m[j]? = some y → SecSim x y ∧ SecIn w' y.ba y.bn (C x) ∧ Fresh w.heap.size y.ba) ∧ Fresh w.heap.size a ∧ Below w.heap.size w w' := by
  have hc := changed_sec h hl hC hR
  obtain ⟨a, c, rfl⟩ := rows_slice h
  clear h hC hR
  go_enter Tryz.func117, Tryz.ntmps117
  go_wp2_with (go_at_call 199; refine hc.mono ?_; rintro e w1 ⟨a', c', m, rfl, n1, n2, n3, n4, hb⟩; have n1 := Lib.hid n1; have n3 := Lib.hid n3; have n4 := Lib.hid n4)
  go_ret
  exact ⟨a', c', m, rfl, n1.out, n2, n3.out, n4.out, hb⟩
end Go.Ev

/-
  Stage 3: Strip's model.
-/
namespace Go.Ev
open Go.RowKit Go.Proofs Go.Rw
def namedL (o : ObjT) : List Int := o.rels.map (·.sym)
open Classical in
noncomputable def keepP (o : ObjT) (p : SymT × Nat) : Bool := decide (p.1.bind ≠ 0 ∨ (p.2 : Int) ∈ namedL o)
noncomputable def keepK (o : ObjT) (k : Nat) : List SymT := ((o.syms.take k).zipIdx.filter (keepP o)).map (·.1)
noncomputable def keepL (o : ObjT) : List SymT := keepK o o.syms.length
theorem keepK_zero (o : ObjT) : keepK o 0 = [] := by simp [keepK]
theorem keepK_step (o : ObjT) {k : Nat} {x : SymT} (hx : o.syms[k]? = some x) : keepK o (k + 1) = keepK o k ++ (if keepP o (x, k) = true then [x] else []) := by
  have hk := (List.getElem?_eq_some_iff.1 hx).1
  unfold keepK
  rw [take_snoc hx, List.zipIdx_append, List.filter_append, List.map_append]
  congr 1
  rw [List.length_take, Nat.min_eq_left (Nat.le_of_lt hk)]
  by_cases h : keepP o (x, k) = true
  · simp [h]
  · simp [h]
theorem keepK_sub (o : ObjT) (k : Nat) : (keepK o k).Sublist o.syms := by
  unfold keepK
  have h1 : (((o.syms.take k).zipIdx.filter (keepP o)).map (·.1)).Sublist ((o.syms.take k).zipIdx.map (·.1)) := List.Sublist.map _ List.filter_sublist
  rw [show (o.syms.take k).zipIdx.map (·.1) = o.syms.take k from by simp [List.zipIdx_map_fst]] at h1
  exact h1.trans (List.take_sublist _ _)
theorem keepL_mem {o : ObjT} {x : SymT} : x ∈ keepL o ↔ ∃ i : Nat, o.syms[i]? = some x ∧ (x.bind ≠ 0 ∨ (i : Int) ∈ namedL o) := by
  unfold keepL keepK
  rw [List.take_length, List.mem_map]
  constructor
  · rintro ⟨⟨y, i⟩, hy, rfl⟩
    obtain ⟨h1, h2⟩ := List.mem_filter.1 hy
    rw [List.mem_zipIdx_iff_getElem?] at h1
    exact ⟨i, h1, by simpa [keepP] using h2⟩
  · rintro ⟨i, h1, h2⟩
    exact ⟨(x, i), List.mem_filter.2 ⟨List.mem_zipIdx_iff_getElem?.2 h1, by simpa [keepP] using h2⟩, rfl⟩
open Classical in
noncomputable def idxK (l : List SymT) (s : ByteArray) : Nat := if h : ∃ i : Nat, (l.map (·.name))[i]? = some s then Classical.choose h else 0
theorem idxK_get {l : List SymT} {x : SymT} (h : x ∈ l) : (l.map (·.name))[idxK l x.name]? = some x.name := by
  have he : ∃ i : Nat, (l.map (·.name))[i]? = some x.name := by
    obtain ⟨i, hi⟩ := List.getElem?_of_mem h
    exact ⟨i, by rw [List.getElem?_map, hi]; rfl⟩
  unfold idxK
  rw [dif_pos he]
  exact Classical.choose_spec he
theorem idxK_sym {l : List SymT} {x : SymT} (hn : (l.map (·.name)).Nodup) (h : x ∈ l) : l[idxK l x.name]? = some x := by
  have h1 := idxK_get h
  obtain ⟨i, hi⟩ := List.getElem?_of_mem h
  rw [List.getElem?_map] at h1
  cases hy : l[idxK l x.name]? with
  | none => rw [hy] at h1; cases h1
  | some y =>
    rw [hy] at h1
    simp only [Option.map_some, Option.some.injEq] at h1
    have hiL := (List.getElem?_eq_some_iff.1 hi).1
    have hyL := (List.getElem?_eq_some_iff.1 hy).1
    have := (List.getElem_inj (xs := l.map (·.name)) (i := i) (j := idxK l x.name) (h₀ := by simpa using hiL) (h₁ := by simpa using hyL) hn).1 (by simp [(List.getElem?_eq_some_iff.1 hi).2, (List.getElem?_eq_some_iff.1 hy).2, h1])
    rw [← hy, ← this, hi]
/-- The relocations of the stripped object. -/
noncomputable def stripR (o : ObjT) (r : RelT) : RelT := { r with sym := (idxK (keepL o) (o.syms.getD r.sym.toNat default).name : Nat) }
end Go.Ev

/-
  Stage 3: Strip, exactly.
-/
namespace Go.Ev
open Go.RowKit Go.Proofs Go.Rw
def StripR (o : ObjT) (C : SecT → ByteArray) (w : World) (e : Ending) (w' : World) : Prop := ∃ v x, e = .returned (.tuple #[v, .int .i64 0]) ∧ ObjAt w' v x ∧ Below w.heap.size w w' ∧ x.syms = keepL o ∧ x.rels = o.rels.map (stripR o) ∧ x.files = [] ∧ x.lines = [] ∧ x.secs.length = o.secs.length ∧
  ∀ (j : Nat) (a b : SecT), o.secs[j]? = some a → x.secs[j]? = some b → SecSim a b ∧ SecIn w' b.ba b.bn (C a)
set_option maxRecDepth 100000 in
set_option maxHeartbeats 8000000 in
theorem strip_c {w : World} {v : Value} {o : ObjT} {C : SecT → ByteArray} (h : ObjAt w v o) (hR : o.R) (hok : ObjOk o) (hC : ∀ x ∈ o.secs, SecIn w x.ba x.bn (C x)) : Calls Tryz.prog 37 #[v] w (StripR o C w) := by
  obtain ⟨s1, s2, s3, s4, s5, rfl, k1, k2, k3, k4, k5⟩ := id h
  obtain ⟨a2, c2, rfl⟩ := rows_slice k2
  obtain ⟨a3, c3, rfl⟩ := rows_slice k3
  have hmm := @run_makeMap Tryz.prog
  obtain ⟨i0, z0, hi, hz0, hz1, hz2, hz3⟩ := info_any info68
  have z : ∀ A B, Below w.heap.size w ((w.alloc A).alloc B) := fun A B => (one_below w A).alloc (by simp) B
  obtain ⟨W, hW⟩ : ∃ W, W = (w.alloc (.cells #[s1, .slice a2 o.syms.length c2, .slice a3 o.rels.length c3, s4, s5] 28)).alloc (.cells #[.slice none 0 0, .slice none 0 0, .slice none 0 0, .slice none 0 0, .slice none 0 0] 28) := ⟨_, rfl⟩
  have hbW : Below w.heap.size w W := by rw [hW]; exact z _ _
  have hB1 : W.heap[w.heap.size]? = some (.cells #[s1, .slice a2 o.syms.length c2, .slice a3 o.rels.length c3, s4, s5] 28 (0, 0)) := by rw [hW]; exact ((one_below _ _).block _ (by simp)).trans (heap_alloc_new w _)
  have hB2 : W.heap[w.heap.size + 1]? = some (.cells #[.slice none 0 0, .slice none 0 0, .slice none 0 0, .slice none 0 0, .slice none 0 0] 28 (0, 0)) := by rw [hW]; have := heap_alloc_new (w.alloc (.cells #[s1, .slice a2 o.syms.length c2, .slice a3 o.rels.length c3, s4, s5] 28)) (.cells #[.slice none 0 0, .slice none 0 0, .slice none 0 0, .slice none 0 0, .slice none 0 0] 28); rwa [World.size_alloc] at this
  have hWl : w.heap.size + 1 < W.heap.size := by rw [hW, World.size_alloc, World.size_alloc]; omega
  have up : ∀ W', Below W.heap.size W W' → Below w.heap.size w W' := fun W' hW' => hbW.trans (hW'.mono (by omega))
  have hck : ∀ W', Below W.heap.size W W' → Calls Tryz.prog 17 #[.agg #[s1, .slice a2 o.syms.length c2, .slice a3 o.rels.length c3, s4, s5]] W' (fun e w' => e = .returned (.int .i64 0) ∧ Below W'.heap.size W' w') := fun W' hW' => (pcheck_c (h.below (up W' hW')) hR).mono fun e w' hh => by
    unfold ErrR at hh
    rw [dec_yes hok] at hh
    exact hh
  have cells : ∀ W', Below W.heap.size W W' → W'.cell? ⟨w.heap.size, 0, none⟩ = some s1 ∧ W'.cell? ⟨w.heap.size, 1, none⟩ = some (.slice a2 o.syms.length c2) ∧ W'.cell? ⟨w.heap.size, 2, none⟩ = some (.slice a3 o.rels.length c3) ∧ W'.cell? ⟨w.heap.size, 3, none⟩ = some s4 ∧ W'.cell? ⟨w.heap.size, 4, none⟩ = some s5 := fun W' hW' => by
    have e1 := (hW'.block _ (show w.heap.size < W.heap.size by omega)).trans hB1
    refine ⟨?_, ?_, ?_, ?_, ?_⟩ <;> simp [World.cell?, e1]
  have res : ∀ W', Below W.heap.size W W' → W'.heap[w.heap.size + 1]? = some (.cells #[.slice none 0 0, .slice none 0 0, .slice none 0 0, .slice none 0 0, .slice none 0 0] 28 (0, 0)) := fun W' hW' => (hW'.block _ hWl).trans hB2
  have hn2 : o.syms.length ≤ 500 := hok.2.1.1
  have hn3 : o.rels.length ≤ 2000 := hok.2.2.1.1
  have hW0 := Below.refl W.heap.size W
  obtain ⟨e00, e01, e02, e03, e04⟩ := cells W hW0
  have hok := Lib.hid hok
  have hR := Lib.hid hR
  have hC := Lib.hid hC
  clear h k4 k5 hB1 hB2
  go_enter Tryz.func37, Tryz.ntmps37
  go_wp2_with fail
  rw [← hW]
  clear hW
  go_wp2_with (go_at_call 17; refine (hck _ hW0).mono ?_; rintro e w1 ⟨rfl, hb1⟩; obtain ⟨e10, e11, e12, e13, e14⟩ := cells _ hb1; have e12A := fun A => (World.cell?_alloc_lt w1 A _ (low_of_cell e12)).trans e12)
  clear hck e00 e01 e02 e03 e04 e10 e11 e12 e13 e14 e12A
  go_loopg [20] o.rels.length (fun gn i wr => ∃ k : Nat, gn + k = o.rels.length ∧ k ≤ o.rels.length ∧ i = .int .i64 k ∧ Below w1.heap.size w1 wr ∧ MapN wr w1.heap.size k ((o.rels.take k).map (·.sym)))
  case atStart => exact ⟨0, by omega, by omega, rfl, one_below _ _, mapN_new _⟩
  case round =>
    obtain ⟨k, hgk, hk, rfl, hbl, hM⟩ := hrel
    have hbw := bel_then hb1 (Nat.le_refl _) hbl
    by_cases hlt : k < o.rels.length
    · obtain ⟨b, of, rfl⟩ := rows_some2 k3 hlt
      have hlt' : (k : Int) < (o.rels.length : Int) := by omega
      obtain ⟨r, hr⟩ : ∃ x, o.rels[k]? = some x := ⟨o.rels[k], by simp [hlt]⟩
      obtain ⟨g0, g1, g2, g3, g4⟩ := rows_rel (k3.below (up _ hbw)) hr
      have hkey := key_int (hR.out.2.2.1 r (List.mem_of_getElem? hr)).2.2.2.1
      have htk := Lib.hid (show (o.rels.take (k + 1)).map (·.sym) = (o.rels.take k).map (·.sym) ++ [r.sym] by rw [take_snoc hr, List.map_append]; rfl)
      obtain ⟨D, m0, m1⟩ := hM
      have m0H := Lib.hid m0
      have m1 := Lib.hid m1
      have hB := hbl.size
      clear hr cells res k1 k2 k3
      obtain ⟨rs, ro, rk, ry, ra⟩ := r
      dsimp only at hkey g0 g1 g2 g3 g4 htk
      go_wp2_with (at_mapUpdate; refine wpList_mapUpdate_own _ rfl _ _ _ 146 rfl 3 4 lawI Tryz.underlying146 _ w1.heap.size k _ rfl (m0.alloc _) (by unfold maxLen; omega) _ _ _ rfl rfl hkey _ [] (plainElem_bool Tryz.underlying4 true) ?_; intro w2 hown1 hgrow1)
      have R1 := mapN_step m0H.out m1.out hown1
      rw [← htk.out] at R1
      have R1 := Lib.hid R1
      have R2 := (hbl.alloc hB _).grown hgrow1 (by simp; omega) (fun j hj => by cases hj; exact Nat.le_refl _)
      clear hown1 hgrow1 m0
      go_wp2
      go_roundg (gk - 1)
      case measure => omega
      case rel => exact ⟨k + 1, by omega, by omega, by go_num, R2, R1.out⟩
    · obtain rfl : k = o.rels.length := by omega
      rw [List.take_length] at hM
      have hM : MapN wr w1.heap.size o.rels.length (namedL o) := hM
      have hM := Lib.hid hM
      obtain ⟨e20, e21, e22, e23, e24⟩ := cells _ hbw
      go_wp2
      clear e20 e21 e22 e23 e24
      obtain ⟨w3, rfl⟩ : ∃ w3 : World, w3 = wr := ⟨_, rfl⟩
      obtain ⟨gO, rfl⟩ : ∃ gO : Nat, gO = gk := ⟨_, rfl⟩
      go_loopg [31, 7] o.syms.length (fun gn i v wr => ∃ k : Nat, gn + k = o.syms.length ∧ k ≤ o.syms.length ∧ i = .int .i64 k ∧ Below w3.heap.size w3 wr ∧ wr.ownsRow w3.heap.size 68 6 v (keepK o k).length (flatR SymT.cells (keepK o k)))
      case atStart => exact ⟨0, by omega, by omega, rfl, Below.refl _ _, by rw [keepK_zero]; simpa [flatR] using World.ownsRow_nil _ _ _ _⟩
      case round =>
        obtain ⟨k, hgk2, hk2, rfl, hbl2, hO0⟩ := hrel
        have hO := Lib.hid hO0
        obtain ⟨va, vc, rfl⟩ := own_shape hO0
        clear hO0
        have hbw2 := bel_then hbw (Nat.le_refl _) hbl2
        by_cases hlt2 : k < o.syms.length
        · obtain ⟨b, of, rfl⟩ := rows_some2 k2 hlt2
          have hlt' : (k : Int) < (o.syms.length : Int) := by omega
          obtain ⟨x, hx⟩ : ∃ x, o.syms[k]? = some x := ⟨o.syms[k], by simp [hlt2]⟩
          obtain ⟨g0, g1, g2, g3, g4, g5⟩ := rows_sym (k2.below (up _ hbw2)) hx
          have hkl : (keepK o k).length ≤ 500 := Nat.le_trans (keepK_sub o k).length_le hn2
          have hst := Lib.hid (keepK_step o hx)
          have hB := hbl2.size
          have hin : inI64 (k : Int) := ⟨by omega, by omega⟩
          have hlook := fun A => (hM.out.below (hbl2.alloc hB A)).look hin
          clear hx cells res k1 k2 k3
          obtain ⟨xn, xs, xv, xz, xb, xk⟩ := x
          dsimp only at g0 g1 g2 g3 g4 g5
          have hO2 := Lib.hid (owns_keep hO.out ((one_below wr (.cells #[.string xn, .int .i64 xs, .int .u32 xv, .int .i64 xz, .int .i64 xb, .int .i64 xk] 68)).alloc (by simp) (.cells #[.string xn, .int .i64 xs, .int .u32 xv, .int .i64 xz, .int .i64 xb, .int .i64 xk] 68)))
          have hnew := symNew (wr.alloc (.cells #[.string xn, .int .i64 xs, .int .u32 xv, .int .i64 xz, .int .i64 xb, .int .i64 xk] 68)) ⟨xn, xs, xv, xz, xb, xk⟩
          rw [World.size_alloc] at hnew
          have hnew := Lib.hid hnew
          have hbl3 := Lib.hid (show Below w3.heap.size w3 ((wr.alloc (.cells #[.string xn, .int .i64 xs, .int .u32 xv, .int .i64 xz, .int .i64 xb, .int .i64 xk] 68)).alloc (.cells #[.string xn, .int .i64 xs, .int .u32 xv, .int .i64 xz, .int .i64 xb, .int .i64 xk] 68)) from (hbl2.alloc hB _).alloc (Nat.le_trans hB (by rw [World.size_alloc]; omega)) _)
          have hbl1 := Lib.hid (show Below w3.heap.size w3 (wr.alloc (.cells #[.string xn, .int .i64 xs, .int .u32 xv, .int .i64 xz, .int .i64 xb, .int .i64 xk] 68)) from hbl2.alloc hB _)
          by_cases hb0 : xb = 0
          · have hb1' : (xb != 0) = false := by simp [hb0]
            have hb2' : (xb == 0) = true := by simp [hb0]
            by_cases hmem : (k : Int) ∈ namedL o
            · have hstep := Lib.hid (show keepK o (k + 1) = keepK o k ++ [⟨xn, xs, xv, xz, xb, xk⟩] by
                rw [hst.out, if_pos]
                simp [keepP, hmem])
              rw [show (decide ((k : Int) ∈ namedL o)) = true from decide_eq_true hmem] at hlook
              clear hst hmem hb0
              go_wp2_with (at_builtin; refine wpList_append_own _ rfl _ _ 23 rfl w3.heap.size 68 i0 z0 6 56 Tryz.underlying23 hi hz0 hz1 hz2 hz3 (by decide) _ _ _ rfl hO2.out ⟨wr.heap.size + 1, 0, none⟩ 1 1 (SymT.cells ⟨xn, xs, xv, xz, xb, xk⟩) rfl rfl hnew.out (symC_one _) (by unfold maxLen; omega) (by omega) hbl3.out.size ?_)
              intro v1 w5 hown1 hg1 hnn
              have hbl4 : Below w3.heap.size w3 w5 := hbl3.out.grown hg1 hbl3.out.size (fun m hm => own_low hO2.out m hm)
              clear hg1 hnn
              rw [← flatR_snoc] at hown1
              have hown1 := Lib.hid hown1
              go_wp2
              go_roundg (gk - 1)
              case measure => omega
              case rel =>
                refine ⟨k + 1, by omega, by omega, by go_num, hbl4, ?_⟩
                rw [hstep.out, List.length_append]
                exact hown1.out
            · have hstep := Lib.hid (show keepK o (k + 1) = keepK o k by
                rw [hst.out, if_neg, List.append_nil]
                simp [keepP, hmem, hb0])
              rw [show (decide ((k : Int) ∈ namedL o)) = false from decide_eq_false hmem] at hlook
              clear hst hmem hb0
              go_wp2
              go_roundg (gk - 1)
              case measure => omega
              case rel => exact ⟨k + 1, by omega, by omega, by go_num, hbl1.out, by rw [hstep.out]; exact owns_keep hO.out (one_below _ _)⟩
          · have hb1' : (xb != 0) = true := bne_iff_ne.2 hb0
            have hb2' : (xb == 0) = false := beq_eq_false_iff_ne.2 hb0
            have hstep := Lib.hid (show keepK o (k + 1) = keepK o k ++ [⟨xn, xs, xv, xz, xb, xk⟩] by
              rw [hst.out, if_pos]
              simp [keepP, hb0])
            clear hst hb0 hlook
            go_wp2_with (at_builtin; refine wpList_append_own _ rfl _ _ 23 rfl w3.heap.size 68 i0 z0 6 56 Tryz.underlying23 hi hz0 hz1 hz2 hz3 (by decide) _ _ _ rfl hO2.out ⟨wr.heap.size + 1, 0, none⟩ 1 1 (SymT.cells ⟨xn, xs, xv, xz, xb, xk⟩) rfl rfl hnew.out (symC_one _) (by unfold maxLen; omega) (by omega) hbl3.out.size ?_)
            intro v1 w5 hown1 hg1 hnn
            have hbl4 : Below w3.heap.size w3 w5 := hbl3.out.grown hg1 hbl3.out.size (fun m hm => own_low hO2.out m hm)
            clear hg1 hnn
            rw [← flatR_snoc] at hown1
            have hown1 := Lib.hid hown1
            go_wp2
            go_roundg (gk - 1)
            case measure => omega
            case rel =>
              refine ⟨k + 1, by omega, by omega, by go_num, hbl4, ?_⟩
              rw [hstep.out, List.length_append]
              exact hown1.out
        · obtain rfl : k = o.syms.length := by omega
          have hrows := rows_of_ownR SymT.cells 6 symC_len hO.out rfl
          have hfr := Lib.hid (fresh_own hO.out)
          have hsub := keepK_sub o o.syms.length
          have hkl : (keepK o o.syms.length).length ≤ 500 := Nat.le_trans hsub.length_le hn2
          have hRk : ∀ x ∈ keepK o o.syms.length, x.R := fun x hx => hR.out.2.1 x (hsub.subset hx)
          have hnd : ((keepK o o.syms.length).map (·.name)).Nodup := (hsub.map _).nodup hok.out.2.1.2.2
          have hidx := indicesV_sym hrows hRk (by omega) hnd
          have hidx := Lib.hid hidx
          have hrowsH := Lib.hid hrows
          have hch := Lib.hid (show ∀ w4, Below wr.heap.size wr w4 → MapV w4 wr.heap.size ((keepK o o.syms.length).map (·.name)).length ((keepK o o.syms.length).map (·.name)) → Calls Tryz.prog 115 #[.slice a3 o.rels.length c3, .func (.func 116) #[] #[.pointer (some ⟨w4.heap.size, 0, none⟩), .pointer (some ⟨w.heap.size, 0, none⟩)]] (w4.alloc (.cells #[.map (some wr.heap.size)] 147))
              fun e w' => ∃ a c, e = .returned (.slice a o.rels.length c) ∧ RowsAt w' (.slice a o.rels.length c) RelT.cells 5 (o.rels.map (stripR o)) ∧ Fresh (w4.heap.size + 1) a ∧ Below (w4.heap.size + 1) (w4.alloc (.cells #[.map (some wr.heap.size)] 147)) w' from fun w4 hb4 hMV => by
            have hbw4 := bel_then hbw2 (Nat.le_refl _) hb4
            have hb5 : Below w4.heap.size w4 (w4.alloc (.cells #[.map (some wr.heap.size)] 147)) := one_below _ _
            have hbw5 := bel_then hbw4 (Nat.le_refl _) hb5
            have := changed_rel (k3.below (up _ hbw5)) hn3 (fun r => idxK (keepL o) (o.syms.getD r.sym.toNat default).name) (Bm := w4.heap.size) (Bo := w.heap.size) (m := wr.heap.size) (k2.below (up _ hbw5)) (new_cell w4 _ 147 0 _ rfl) (cells _ hbw5).2.1 (by omega) (keep := keepL o) (by rw [List.length_map] at hMV; exact hMV.below hb5) (fun r hr => by
              obtain ⟨-, ⟨y1, y2⟩, -, -, -⟩ := hok.out.2.2.1.2.1 r hr
              have hj : r.sym.toNat < o.syms.length := by omega
              refine ⟨r.sym.toNat, o.syms[r.sym.toNat], by omega, by simp [hj], hR.out.2.1 _ (List.getElem_mem _), ?_⟩
              have hin : o.syms[r.sym.toNat] ∈ keepL o := keepL_mem.2 ⟨r.sym.toNat, by simp [hj], .inr (List.mem_map.2 ⟨r, hr, by omega⟩)⟩
              rw [show o.syms.getD r.sym.toNat default = o.syms[r.sym.toNat] by simp [List.getD, hj]]
              exact idxK_get hin)
            rw [World.size_alloc] at this
            exact this)
          have hcp := Lib.hid (fun w5 (h5 : Below W.heap.size W w5) => copySecs_c (k1.below (up _ h5)) (Nat.le_trans hok.out.1.1 (by omega)) (C := C) (fun x hx => (hC.out x hx).below (up _ h5)) hR.out.1)
          obtain ⟨as1, cs1, hs1⟩ := rows_slice k1
          subst hs1
          clear hrows hO hsub k1 k2 k3 hRk hnd
          obtain ⟨e30, e31, e32, e33, e34⟩ := cells _ hbw2
          go_wp2_with (first | (go_at_call 113; refine hidx.out.mono ?_; rintro e w4 ⟨rfl, hb4, hMV⟩; have hMV := Lib.hid hMV; have hbw4 := bel_then hbw2 (Nat.le_refl _) hb4; obtain ⟨e40, e41, e42, e43, e44⟩ := cells _ hbw4; have e42A := fun A => (World.cell?_alloc_lt w4 A _ (low_of_cell e42)).trans e42) | (go_at_call 115; refine (hch.out w4 hb4 hMV.out).mono ?_; rintro e w5 ⟨ra, rc, rfl, n1, n2, hb5⟩; have n1 := Lib.hid n1; have n2 := Lib.hid n2; have hbw5 := bel_then (hbw4.alloc hbw4.size (.cells #[.map (some wr.heap.size)] 147)) (Nat.le_refl _) (by rw [World.size_alloc]; exact hb5); obtain ⟨e50, e51, e52, e53, e54⟩ := cells _ hbw5) | (go_at_call 117; refine (hcp.out w5 hbw5).mono ?_; rintro e w6 ⟨sa, sc, m, rfl, m1, m2, m3, m4, hb6⟩; have m1 := Lib.hid m1; have m3 := Lib.hid m3; have m4 := Lib.hid m4; have hbw6 := bel_then hbw5 (Nat.le_refl _) hb6; have hr6 := res _ hbw6; have r0 : w6.cell? ⟨w.heap.size + 1, 0, none⟩ = some (.slice none 0 0) := (by simp [World.cell?, hr6]); have r1 : w6.cell? ⟨w.heap.size + 1, 1, none⟩ = some (.slice none 0 0) := (by simp [World.cell?, hr6]); have r2 : w6.cell? ⟨w.heap.size + 1, 2, none⟩ = some (.slice none 0 0) := (by simp [World.cell?, hr6]); have r3 : w6.cell? ⟨w.heap.size + 1, 3, none⟩ = some (.slice none 0 0) := (by simp [World.cell?, hr6]); have r4 : w6.cell? ⟨w.heap.size + 1, 4, none⟩ = some (.slice none 0 0) := (by simp [World.cell?, hr6]); have q0 : ∀ i, w6.frozen? ⟨w.heap.size + 1, i, none⟩ = false := (fun i => by simp [World.frozen?, hr6])))
          have z3 : W.heap.size ≤ w3.heap.size := hbw.size
          have z4 : W.heap.size ≤ w4.heap.size := hbw4.size
          have z5 : W.heap.size ≤ w5.heap.size := hbw5.size
          have b1 : Below wr.heap.size wr (w4.alloc (.cells #[.map (some wr.heap.size)] 147)) := hb4.alloc hb4.size _
          have b2 := bel_then b1 (Nat.le_refl _) (show Below (w4.alloc (.cells #[.map (some wr.heap.size)] 147)).heap.size _ w5 by rw [World.size_alloc]; exact hb5)
          have b3 := bel_then b2 (Nat.le_refl _) hb6
          obtain ⟨FW, hFW⟩ : ∃ FW, FW = (((((w6.setCell ⟨w.heap.size + 1, 0, none⟩ (.slice sa o.secs.length sc)).setCell ⟨w.heap.size + 1, 1, none⟩ (.slice va (keepK o o.syms.length).length vc)).setCell ⟨w.heap.size + 1, 2, none⟩ (.slice ra o.rels.length rc)).setCell ⟨w.heap.size + 1, 3, none⟩ (.slice none 0 0)).setCell ⟨w.heap.size + 1, 4, none⟩ (.slice none 0 0)) := ⟨_, rfl⟩
          have hH : FW.heap[w.heap.size + 1]? = some (.cells #[.slice sa o.secs.length sc, .slice va (keepK o o.syms.length).length vc, .slice ra o.rels.length rc, .slice none 0 0, .slice none 0 0] 28 (0, 0)) := by
            rw [hFW]
            exact heap_setCell_same _ _ 4 _ _ _ (heap_setCell_same _ _ 3 _ _ _ (heap_setCell_same _ _ 2 _ _ _ (heap_setCell_same _ _ 1 _ _ _ (heap_setCell_same _ _ 0 _ _ _ hr6))))
          have f0 : FW.cell? ⟨w.heap.size + 1, 0, none⟩ = some (.slice sa o.secs.length sc) := by simp [World.cell?, hH]
          have f1 : FW.cell? ⟨w.heap.size + 1, 1, none⟩ = some (.slice va (keepK o o.syms.length).length vc) := by simp [World.cell?, hH]
          have f2 : FW.cell? ⟨w.heap.size + 1, 2, none⟩ = some (.slice ra o.rels.length rc) := by simp [World.cell?, hH]
          have f3 : FW.cell? ⟨w.heap.size + 1, 3, none⟩ = some (.slice none 0 0) := by simp [World.cell?, hH]
          have f4 : FW.cell? ⟨w.heap.size + 1, 4, none⟩ = some (.slice none 0 0) := by simp [World.cell?, hH]
          have hrow : ∀ {α : Type} {a : Option Addr} {n c size : Nat} {f : α → List Value} {l : List α} {N : Nat}, RowsAt w6 (.slice a n c) f size l → Fresh N a → W.heap.size ≤ N → RowsAt FW (.slice a n c) f size l := fun h hf hN => by
            have hne := fun b o s ha => (show b ≠ w.heap.size + 1 by have := hf b o s ha; omega)
            rw [hFW]
            exact rowsAt_set (rowsAt_set (rowsAt_set (rowsAt_set (rowsAt_set h hne _ _) hne _ _) hne _ _) hne _ _) hne _ _
          have hsec : ∀ {a : Option Addr} {n : Nat} {B : ByteArray}, SecIn w6 a n B → Fresh w5.heap.size a → SecIn FW a n B := fun h hf => by
            have hne := fun b o s ha => (show b ≠ w.heap.size + 1 by have := hf b o s ha; omega)
            rw [hFW]
            exact secIn_set (secIn_set (secIn_set (secIn_set (secIn_set h hne _ _) hne _ _) hne _ _) hne _ _) hne _ _
          have hbF : Below w.heap.size w FW := by
            rw [hFW]
            have h0 := up _ hbw6
            exact (((((h0.setCell (p := ⟨w.heap.size + 1, 0, none⟩) (by simp) _).setCell (p := ⟨w.heap.size + 1, 1, none⟩) (by simp) _).setCell (p := ⟨w.heap.size + 1, 2, none⟩) (by simp) _).setCell (p := ⟨w.heap.size + 1, 3, none⟩) (by simp) _).setCell (p := ⟨w.heap.size + 1, 4, none⟩) (by simp) _)
          have hfin : StripR o C w (.returned (.tuple #[.agg #[.slice sa o.secs.length sc, .slice va (keepK o o.syms.length).length vc, .slice ra o.rels.length rc, .slice none 0 0, .slice none 0 0], .int .i64 0])) FW :=
            ⟨_, ⟨m, keepL o, o.rels.map (stripR o), [], []⟩, rfl, ⟨_, _, _, _, _, rfl, hrow m1.out m4.out z5, hrow (hrowsH.out.below b3) hfr.out z3, hrow (n1.out.below hb6) n2.out (by omega), ⟨none, 0, rfl, .inl rfl⟩, ⟨none, 0, rfl, .inl rfl⟩⟩, hbF, rfl, rfl, rfl, rfl, m2, fun j a b ha hb => by
              obtain ⟨t1, t2, t3⟩ := m3.out j a b ha hb
              exact ⟨t1, hsec t2 t3⟩⟩
          have hfin := Lib.hid hfin
          rw [← hFW]
          clear hFW hrow hsec hbF hH
          refine bodyPost_ret (v := .tuple #[.agg #[.slice sa o.secs.length sc, .slice va (keepK o o.syms.length).length vc, .slice ra o.rels.length rc, .slice none 0 0, .slice none 0 0], .int .i64 0]) (by simp [results, Tryz.f37, go_sem, f0, f1, f2, f3, f4]) rfl ?_
          exact hfin.out
end Go.Ev

/-
  Stage 3: what a stripped object is.
-/
namespace Go.Ev
open Go.RowKit Go.Proofs Go.Rw
def SecsRel (l m : List SecT) : Prop := m.length = l.length ∧ ∀ (j : Nat) (a b : SecT), l[j]? = some a → m[j]? = some b → SecSim a b
/-- x is o stripped. -/
structure Stripped (o x : ObjT) : Prop where
  secs : SecsRel o.secs x.secs
  syms : x.syms = keepL o
  rels : x.rels = o.rels.map (stripR o)
  files : x.files = []
  lines : x.lines = []
theorem SecsRel.back {l m : List SecT} (h : SecsRel l m) {j : Nat} {b : SecT} (hb : m[j]? = some b) : ∃ a, l[j]? = some a ∧ SecSim a b := by
  have hj := (List.getElem?_eq_some_iff.1 hb).1
  rw [h.1] at hj
  exact ⟨l[j], by simp [hj], h.2 j _ b (by simp [hj]) hb⟩
theorem SecsRel.forth {l m : List SecT} (h : SecsRel l m) {j : Nat} {a : SecT} (ha : l[j]? = some a) : ∃ b, m[j]? = some b ∧ SecSim a b := by
  have hj := (List.getElem?_eq_some_iff.1 ha).1
  rw [← h.1] at hj
  exact ⟨m[j], by simp [hj], h.2 j a _ ha (by simp [hj])⟩
theorem SecsRel.names {l m : List SecT} (h : SecsRel l m) : m.map (·.name) = l.map (·.name) := List.ext_getElem? fun j => by
  rw [List.getElem?_map, List.getElem?_map]
  cases ha : l[j]? with
  | none => rw [List.getElem?_eq_none (by rw [h.1]; exact List.getElem?_eq_none_iff.1 ha)]
  | some a =>
    obtain ⟨b, hb, hs⟩ := h.forth ha
    rw [hb]
    simp [hs.1]
theorem SecsRel.lens {l m : List SecT} (h : SecsRel l m) : lens m = lens l := by
  unfold Go.Ev.lens
  congr 1
  refine List.ext_getElem? fun j => ?_
  rw [List.getElem?_map, List.getElem?_map]
  cases ha : l[j]? with
  | none => rw [List.getElem?_eq_none (by rw [h.1]; exact List.getElem?_eq_none_iff.1 ha)]
  | some a =>
    obtain ⟨b, hb, hs⟩ := h.forth ha
    rw [hb]
    simp [hs.2.2.2.1, hs.2.2.2.2]
theorem SecsRel.ok {l m : List SecT} (h : SecsRel l m) (hl : SecsOk l) : SecsOk m := by
  obtain ⟨h1, h2, h3, h4⟩ := hl
  refine ⟨by rw [h.1]; exact h1, fun b hb => ?_, by rw [h.names]; exact h3, by rw [h.lens]; exact h4⟩
  obtain ⟨j, hj⟩ := List.getElem?_of_mem hb
  obtain ⟨a, ha, s1, s2, s3, s4, s5⟩ := h.back hj
  obtain ⟨t1, t2, t3, t4, t5⟩ := h2 a (List.mem_of_getElem? ha)
  exact ⟨by rw [s1]; exact t1, by rw [s2]; exact t2, by rw [s3]; exact t3, by rw [s3]; exact t4, by rw [s5]; exact t5⟩
theorem SecsRel.def_ok {l m : List SecT} (h : SecsRel l m) {x : SymT} (hd : DefOk l x) : DefOk m x := by
  rcases hd with hd | hd | ⟨h0, y, hy, h1, h2⟩
  · exact .inl hd
  · exact .inr (.inl hd)
  · obtain ⟨b, hb, s1, s2, s3, s4, s5⟩ := h.forth hy
    exact .inr (.inr ⟨h0, b, hb, by rw [s4, s5]; exact h1, by rw [s2]; exact h2⟩)
theorem getD_mem {o : ObjT} (hok : ObjOk o) {r : RelT} (hr : r ∈ o.rels) : o.syms[r.sym.toNat]? = some (o.syms.getD r.sym.toNat default) ∧ o.syms.getD r.sym.toNat default ∈ keepL o ∧ 0 ≤ r.sym := by
  obtain ⟨-, ⟨y1, y2⟩, -, -, -⟩ := hok.2.2.1.2.1 r hr
  have hj : r.sym.toNat < o.syms.length := by omega
  have e : o.syms.getD r.sym.toNat default = o.syms[r.sym.toNat] := by simp [List.getD, hj]
  refine ⟨by rw [e]; simp [hj], ?_, y1⟩
  rw [e]
  exact keepL_mem.2 ⟨r.sym.toNat, by simp [hj], .inr (List.mem_map.2 ⟨r, hr, by omega⟩)⟩
theorem keepL_nodup {o : ObjT} (hok : ObjOk o) : ((keepL o).map (·.name)).Nodup := ((keepK_sub o _).map _).nodup hok.2.1.2.2
theorem stripR_sym {o : ObjT} (hok : ObjOk o) {r : RelT} (hr : r ∈ o.rels) : (keepL o)[(stripR o r).sym.toNat]? = some (o.syms.getD r.sym.toNat default) ∧ 0 ≤ (stripR o r).sym := by
  obtain ⟨h1, h2, h3⟩ := getD_mem hok hr
  have := idxK_sym (keepL_nodup hok) h2
  refine ⟨?_, ?_⟩
  · show (keepL o)[((idxK (keepL o) (o.syms.getD r.sym.toNat default).name : Nat) : Int).toNat]? = _
    rw [Int.toNat_natCast]
    exact this
  · show (0 : Int) ≤ ((idxK (keepL o) (o.syms.getD r.sym.toNat default).name : Nat) : Int)
    omega
theorem Stripped.ok {o x : ObjT} (h : Stripped o x) (hok : ObjOk o) : ObjOk x := by
  obtain ⟨g1, g2, g3, g4, g5⟩ := id hok
  have hsub := keepK_sub o o.syms.length
  have hkl : (keepL o).length ≤ 500 := Nat.le_trans hsub.length_le g2.1
  refine ⟨h.secs.ok g1, ⟨by rw [h.syms]; exact hkl, fun s hs => ?_, by rw [h.syms]; exact keepL_nodup hok⟩, ⟨by rw [h.rels, List.length_map]; exact g3.1, fun r hr => ?_, fun j a b ha hb => ?_⟩, ?_, ?_, ?_⟩
  · rw [h.syms] at hs
    obtain ⟨t1, t2, t3, t4⟩ := g2.2.1 s (hsub.subset hs)
    exact ⟨t1, t2, t3, h.secs.def_ok t4⟩
  · rw [h.rels] at hr
    obtain ⟨q, hq, rfl⟩ := List.mem_map.1 hr
    obtain ⟨⟨t1, t2⟩, t3, t4, t5, y, hy, t6, t7⟩ := g3.2.1 q hq
    obtain ⟨u1, u2⟩ := stripR_sym hok hq
    have u3 := (List.getElem?_eq_some_iff.1 u1).1
    obtain ⟨b, hb, s1, s2, s3, s4, s5⟩ := h.secs.forth hy
    exact ⟨⟨t1, by rw [h.secs.1]; exact t2⟩, ⟨u2, by rw [h.syms]; omega⟩, t4, t5, b, hb, t6, by rw [s4]; exact t7⟩
  · rw [h.rels, List.getElem?_map] at ha hb
    cases ha' : o.rels[j]? with
    | none => rw [ha'] at ha; cases ha
    | some a' =>
      cases hb' : o.rels[j + 1]? with
      | none => rw [hb'] at hb; cases hb
      | some b' =>
        rw [ha'] at ha
        rw [hb'] at hb
        cases ha
        cases hb
        exact g3.2.2 j a' b' ha' hb'
  · rw [h.files]
    exact ⟨by simp, fun s hs => (by cases hs), by simp⟩
  · rw [h.lines]
    exact ⟨by simp, fun s hs => (by cases hs), fun j a b ha => (by simp at ha)⟩
  · rw [h.lines]
    exact fun s hs => by cases hs
theorem Stripped.r {o x : ObjT} (h : Stripped o x) (hok : ObjOk o) (hR : o.R) : x.R := by
  obtain ⟨r1, r2, r3, r4, r5, n1, n2, n3, n4, n5⟩ := hR
  have hsub := keepK_sub o o.syms.length
  have hkl : (keepL o).length ≤ 500 := Nat.le_trans hsub.length_le hok.2.1.1
  refine ⟨fun b hb => ?_, fun s hs => ?_, fun r hr => ?_, fun s hs => ?_, fun s hs => ?_, by rw [h.secs.1]; exact n1, by rw [h.syms]; omega, by rw [h.rels, List.length_map]; exact n3, by rw [h.files]; simp, by rw [h.lines]; simp⟩
  · obtain ⟨j, hj⟩ := List.getElem?_of_mem hb
    obtain ⟨a, ha, s1, s2, s3, s4, s5⟩ := h.secs.back hj
    obtain ⟨t1, t2, t3, t4, t5⟩ := r1 a (List.mem_of_getElem? ha)
    exact ⟨by rw [s2]; exact t1, by rw [s3]; exact t2, by rw [s4]; exact t3, by rw [s5]; exact t4, by rw [s1]; exact t5⟩
  · rw [h.syms] at hs
    exact r2 s (hsub.subset hs)
  · rw [h.rels] at hr
    obtain ⟨q, hq, rfl⟩ := List.mem_map.1 hr
    obtain ⟨t1, t2, t3, t4, t5⟩ := r3 q hq
    obtain ⟨u1, u2⟩ := stripR_sym hok hq
    have u3 := (List.getElem?_eq_some_iff.1 u1).1
    exact ⟨t1, t2, t3, ⟨by omega, by omega⟩, t5⟩
  · rw [h.files] at hs; cases hs
  · rw [h.lines] at hs; cases hs
theorem Stripped.names {o x : ObjT} (h : Stripped o x) (hok : ObjOk o) : namesL x = namesL o := by
  unfold namesL
  rw [h.rels, List.map_map]
  refine List.map_congr_left fun r hr => ?_
  obtain ⟨u1, u2⟩ := stripR_sym hok hr
  show x.syms.getD (stripR o r).sym.toNat default = _
  rw [h.syms, List.getD, u1]
  rfl
theorem same_idx {l : List SymT} (hn : (l.map (·.name)).Nodup) {i j : Nat} {x : SymT} (hi : l[i]? = some x) (hj : l[j]? = some x) : i = j := by
  have hiL := (List.getElem?_eq_some_iff.1 hi).1
  have hjL := (List.getElem?_eq_some_iff.1 hj).1
  exact (List.getElem_inj (xs := l.map (·.name)) (i := i) (j := j) (h₀ := by simpa using hiL) (h₁ := by simpa using hjL) hn).1 (by simp [(List.getElem?_eq_some_iff.1 hi).2, (List.getElem?_eq_some_iff.1 hj).2])
/-- All symbols of a stripped object are kept. -/
theorem Stripped.keep {o x : ObjT} (h : Stripped o x) (hok : ObjOk o) : keepL x = x.syms := by
  have hall : ∀ p ∈ x.syms.zipIdx, keepP x p = true := fun p hp => by
    obtain ⟨s, i⟩ := p
    rw [List.mem_zipIdx_iff_getElem?] at hp
    have hp' : x.syms[i]? = some s := hp
    simp only [keepP, decide_eq_true_eq]
    rw [h.syms] at hp'
    obtain ⟨i0, h1, h2⟩ := keepL_mem.1 (List.mem_of_getElem? hp')
    rcases h2 with h2 | h2
    · exact .inl h2
    · right
      obtain ⟨r, hr, he⟩ := List.mem_map.1 h2
      have he : r.sym = (i0 : Int) := he
      obtain ⟨u1, u2⟩ := stripR_sym hok hr
      obtain ⟨v1, v2, v3⟩ := getD_mem hok hr
      rw [he, Int.toNat_natCast, h1] at v1
      injection v1 with v1
      rw [he, Int.toNat_natCast, ← v1] at u1
      have := same_idx (keepL_nodup hok) u1 hp'
      exact List.mem_map.2 ⟨stripR o r, by rw [h.rels]; exact List.mem_map.2 ⟨r, hr, rfl⟩, by show (stripR o r).sym = (i : Int); omega⟩
  unfold keepL keepK
  rw [List.take_length, List.filter_eq_self.2 hall]
  simp [List.zipIdx_map_fst]
/-- Stripped twice. -/
theorem Stripped.twice {o x y : ObjT} (h : Stripped o x) (h' : Stripped x y) (hok : ObjOk o) : y.syms = x.syms ∧ y.rels = x.rels ∧ y.files = x.files ∧ y.lines = x.lines := by
  have hk := h.keep hok
  refine ⟨by rw [h'.syms, hk], ?_, by rw [h'.files, h.files], by rw [h'.lines, h.lines]⟩
  rw [h'.rels]
  have hx := h.ok hok
  have : ∀ r ∈ x.rels, stripR x r = r := fun r hr => by
    obtain ⟨u1, u2⟩ := stripR_sym hx hr
    obtain ⟨v1, v2, v3⟩ := getD_mem hx hr
    rw [hk] at u1
    have := same_idx hx.2.1.2.2 u1 v1
    obtain ⟨rs, ro, rk, ry, ra⟩ := r
    have e : (stripR x ⟨rs, ro, rk, ry, ra⟩).sym = ry := by
      dsimp only at v3 this
      omega
    show ({ sec := rs, off := ro, kind := rk, sym := _, add := ra } : RelT) = _
    congr 1
  conv => rhs; rw [← List.map_id x.rels]
  exact List.map_congr_left this
/-- All symbols that are not local are there. -/
theorem Stripped.global {o x : ObjT} (h : Stripped o x) {s : SymT} (hs : s ∈ o.syms) (hb : s.bind ≠ 0) : s ∈ x.syms := by
  rw [h.syms]
  obtain ⟨i, hi⟩ := List.getElem?_of_mem hs
  exact keepL_mem.2 ⟨i, hi, .inl hb⟩
theorem Stripped.local {o x : ObjT} (h : Stripped o x) {s : SymT} (hs : s ∈ x.syms) (hb : s.bind = 0) : s ∈ namesL o := by
  rw [h.syms] at hs
  obtain ⟨i, h1, h2⟩ := keepL_mem.1 hs
  rcases h2 with h2 | h2
  · exact absurd hb h2
  · obtain ⟨r, hr, he⟩ := List.mem_map.1 h2
    have he : r.sym = (i : Int) := he
    exact List.mem_map.2 ⟨r, hr, by show o.syms.getD r.sym.toNat default = s; rw [he, Int.toNat_natCast, List.getD, h1]; rfl⟩
end Go.Ev

/-
  Stage 3: ObjStripped's law.
-/
namespace Go.Ev
open Go.RowKit Go.Proofs Go.Rw
set_option maxRecDepth 100000 in
set_option maxHeartbeats 8000000 in
theorem stripped_calls {w : World} {v : Value} {o : ObjT} {C : SecT → ByteArray} (h : ObjAt w v o) (hR : o.R) (hC : ∀ x ∈ o.secs, SecIn w x.ba x.bn (C x)) : Calls Tryz.prog 13 #[v] w (TrueC w) := by
  obtain ⟨s1, s2, s3, s4, s5, rfl, k1, k2, k3, k4, k5⟩ := id h
  obtain ⟨a1, c1, rfl⟩ := rows_slice k1
  obtain ⟨a2, c2, rfl⟩ := rows_slice k2
  obtain ⟨a3, c3, rfl⟩ := rows_slice k3
  obtain ⟨W, hW⟩ : ∃ W, W = w.alloc (.cells #[.slice a1 o.secs.length c1, .slice a2 o.syms.length c2, .slice a3 o.rels.length c3, s4, s5] 28) := ⟨_, rfl⟩
  have hbW : Below w.heap.size w W := by rw [hW]; exact one_below _ _
  have hB1 : W.heap[w.heap.size]? = some (.cells #[.slice a1 o.secs.length c1, .slice a2 o.syms.length c2, .slice a3 o.rels.length c3, s4, s5] 28 (0, 0)) := by rw [hW]; exact heap_alloc_new w _
  have hWl : w.heap.size < W.heap.size := by rw [hW, World.size_alloc]; omega
  have up : ∀ W', Below W.heap.size W W' → Below w.heap.size w W' := fun W' hW' => hbW.trans (hW'.mono (by omega))
  have cells : ∀ W', Below W.heap.size W W' → W'.cell? ⟨w.heap.size, 0, none⟩ = some (.slice a1 o.secs.length c1) ∧ W'.cell? ⟨w.heap.size, 1, none⟩ = some (.slice a2 o.syms.length c2) ∧ W'.cell? ⟨w.heap.size, 2, none⟩ = some (.slice a3 o.rels.length c3) ∧ W'.cell? ⟨w.heap.size, 3, none⟩ = some s4 ∧ W'.cell? ⟨w.heap.size, 4, none⟩ = some s5 := fun W' hW' => by
    have e1 := (hW'.block _ hWl).trans hB1
    refine ⟨?_, ?_, ?_, ?_, ?_⟩ <;> simp [World.cell?, e1]
  have hsm := fun W' (hW' : Below W.heap.size W W') => small_b (h.below (up W' hW')) hR
  have his := fun W' (hW' : Below W.heap.size W W') => ris_c (h.below (up W' hW')) hR
  have hst := fun hok W' (hW' : Below W.heap.size W W') => strip_c (h.below (up W' hW')) hR hok (fun x hx => (hC x hx).below (up W' hW'))
  clear hB1
  go_enter Tryz.func13, Tryz.ntmps13
  go_wp2_with fail
  rw [← hW]
  clear hW
  refine (sane_calls _).mono ?_
  rintro e w1 ⟨rfl, hb1⟩
  obtain ⟨e10, e11, e12, e13, e14⟩ := cells _ hb1
  go_wp2_with fail
  refine (hsm _ hb1).mono ?_
  rintro e w2 ⟨r, rfl, hb2⟩
  have hb2 := bel_then hb1 (Nat.le_refl _) hb2
  obtain ⟨e20, e21, e22, e23, e24⟩ := cells _ hb2
  cases r
  · go_wp2
    go_ret
    exact ⟨rfl, up _ hb2⟩
  go_wp2_with fail
  refine (his _ hb2).mono ?_
  rintro e w3 ⟨rfl, hb3⟩
  have hb3 := bel_then hb2 (Nat.le_refl _) hb3
  obtain ⟨e30, e31, e32, e33, e34⟩ := cells _ hb3
  by_cases hok : ObjOk o
  case neg =>
    rw [dec_no hok]
    go_wp2
    go_ret
    exact ⟨rfl, up _ hb3⟩
  rw [dec_yes hok]
  clear e10 e11 e12 e13 e14 e20 e21 e22 e23 e24 hsm his hb1 hb2
  go_wp2_with fail
  refine (hst hok _ hb3).mono ?_
  rintro e w4 ⟨xv, x, rfl, hx, hb4, x1, x2, x3, x4, x5, x6⟩
  have hS : Stripped o x := ⟨⟨x5, fun j a b ha hb => (x6 j a b ha hb).1⟩, x1, x2, x3, x4⟩
  have hcx := Lib.hid (fun j a b ha hb => (x6 j a b ha hb).2)
  have hxO := hS.ok hok
  have hxR := hS.r hok hR
  have hS := Lib.hid hS
  have hb4 := bel_then hb3 (Nat.le_refl _) hb4
  obtain ⟨e40, e41, e42, e43, e44⟩ := cells _ hb4
  obtain ⟨t1, t2, t3, t4, t5, rfl, m1, m2, m3, m4, m5⟩ := id hx
  obtain ⟨d1, g1, rfl⟩ := rows_slice m1
  obtain ⟨d2, g2, rfl⟩ := rows_slice m2
  obtain ⟨d3, g3, rfl⟩ := rows_slice m3
  obtain ⟨d4, g4, rfl⟩ := rows_slice m4
  obtain ⟨d5, g5, rfl⟩ := rows_slice m5
  have l2 : x.syms.length ≤ 500 := hxO.2.1.1
  have l3 : x.rels.length = o.rels.length := by rw [x2, List.length_map]
  have l4 : x.files.length = 0 := by rw [x3]; rfl
  have l5 : x.lines.length = 0 := by rw [x4]; rfl
  rw [l3, l4, l5] at hx
  rw [l3, l4, l5]
  clear x1 x2 x3 x4 x5 x6 m1 m2 m3 m4 m5 l3 l4 l5
  obtain ⟨w5, hw5⟩ : ∃ w5, w5 = w4.alloc (.cells #[.slice d1 x.secs.length g1, .slice d2 x.syms.length g2, .slice d3 o.rels.length g3, .slice d4 0 g4, .slice d5 0 g5] 28) := ⟨_, rfl⟩
  have hb45 : Below w4.heap.size w4 w5 := by rw [hw5]; exact one_below _ _
  have hB5 : w5.heap[w4.heap.size]? = some (.cells #[.slice d1 x.secs.length g1, .slice d2 x.syms.length g2, .slice d3 o.rels.length g3, .slice d4 0 g4, .slice d5 0 g5] 28 (0, 0)) := by rw [hw5]; exact heap_alloc_new w4 _
  have hl5 : w4.heap.size < w5.heap.size := by rw [hw5, World.size_alloc]; omega
  have hb5 := bel_then hb4 (Nat.le_refl _) hb45
  have up4 : ∀ W', Below w5.heap.size w5 W' → Below w4.heap.size w4 W' := fun W' hW' => bel_then hb45 (Nat.le_refl _) hW'
  have up5 : ∀ W', Below w5.heap.size w5 W' → Below W.heap.size W W' := fun W' hW' => bel_then hb5 (Nat.le_refl _) hW'
  have cells5 : ∀ W', Below w5.heap.size w5 W' → (W'.cell? ⟨w4.heap.size, 0, none⟩ = some (.slice d1 x.secs.length g1) ∧ W'.cell? ⟨w4.heap.size, 1, none⟩ = some (.slice d2 x.syms.length g2) ∧ W'.cell? ⟨w4.heap.size, 2, none⟩ = some (.slice d3 o.rels.length g3) ∧ W'.cell? ⟨w4.heap.size, 3, none⟩ = some (.slice d4 0 g4) ∧ W'.cell? ⟨w4.heap.size, 4, none⟩ = some (.slice d5 0 g5)) ∧
      W'.cell? ⟨w.heap.size, 0, none⟩ = some (.slice a1 o.secs.length c1) ∧ W'.cell? ⟨w.heap.size, 1, none⟩ = some (.slice a2 o.syms.length c2) ∧ W'.cell? ⟨w.heap.size, 2, none⟩ = some (.slice a3 o.rels.length c3) ∧ W'.cell? ⟨w.heap.size, 3, none⟩ = some s4 ∧ W'.cell? ⟨w.heap.size, 4, none⟩ = some s5 := fun W' hW' => by
    have e1 := (hW'.block _ hl5).trans hB5
    refine ⟨⟨?_, ?_, ?_, ?_, ?_⟩, cells _ (up5 _ hW')⟩ <;> simp [World.cell?, e1]
  have hck : ∀ W', Below w5.heap.size w5 W' → Calls Tryz.prog 17 #[.agg #[.slice d1 x.secs.length g1, .slice d2 x.syms.length g2, .slice d3 o.rels.length g3, .slice d4 0 g4, .slice d5 0 g5]] W' (fun e w' => e = .returned (.int .i64 0) ∧ Below W'.heap.size W' w') := fun W' hW' => (pcheck_c (hx.below (up4 _ hW')) hxR).mono fun e w' hh => by
    unfold ErrR at hh
    rw [dec_yes hxO] at hh
    exact hh
  have hnx : ∀ W', Below w5.heap.size w5 W' → Calls Tryz.prog 54 #[.agg #[.slice d1 x.secs.length g1, .slice d2 x.syms.length g2, .slice d3 o.rels.length g3, .slice d4 0 g4, .slice d5 0 g5]] W' (fun e w' => ∃ s, e = .returned s ∧ RowsAt w' s SymT.cells 6 (namesL o) ∧ Below W'.heap.size W' w') := fun W' hW' => by
    have := names_c (hx.below (up4 _ hW')) hxR hxO.2.2.1.1 (fun r hr => (hxO.2.2.1.2.1 r hr).2.1)
    rw [hS.out.names hok] at this
    exact this
  have hno : ∀ W', Below w5.heap.size w5 W' → Calls Tryz.prog 54 #[.agg #[.slice a1 o.secs.length c1, .slice a2 o.syms.length c2, .slice a3 o.rels.length c3, s4, s5]] W' (fun e w' => ∃ s, e = .returned s ∧ RowsAt w' s SymT.cells 6 (namesL o) ∧ Below W'.heap.size W' w') := fun W' hW' =>
    names_c (h.below (up _ (up5 _ hW'))) hR hok.2.2.1.1 (fun r hr => (hok.2.2.1.2.1 r hr).2.1)
  have hnl : (namesL o).length ≤ 140737488351232 := by
    have := hok.2.2.1.1
    simp only [namesL, List.length_map]
    omega
  have heq : ∀ W' s1 s2, RowsAt W' s1 SymT.cells 6 (namesL o) → RowsAt W' s2 SymT.cells 6 (namesL o) → Calls Tryz.prog 53 #[s1, s2] W' (fun e w' => e = .returned (.bool true) ∧ Below W'.heap.size W' w') := fun W' s1 s2 h1 h2 => by
    have := eqSyms_c h1 h2 hnl hnl
    rw [dec_yes rfl] at this
    exact this
  have hokH := Lib.hid hok
  have hxOH := Lib.hid hxO
  have hRH := Lib.hid hR
  have hxRH := Lib.hid hxR
  have hCH := Lib.hid hC
  have hb0 : Below w5.heap.size w5 w5.drew := (Below.refl _ _).drew
  have hwr0 : IntKind.i64.wrap 0 = 0 := by decide
  have hC2 : ∀ b ∈ x.secs, SecIn w4 b.ba b.bn (secStr w4 b) := fun b hb => by
    obtain ⟨j, hj⟩ := List.getElem?_of_mem hb
    obtain ⟨a, ha, -⟩ := hS.out.secs.back hj
    exact secStr_in ⟨_, hcx.out j a b ha hj⟩
  have hC2 := Lib.hid hC2
  have hst2 : ∀ W', Below w5.heap.size w5 W' → Calls Tryz.prog 37 #[.agg #[.slice d1 x.secs.length g1, .slice d2 x.syms.length g2, .slice d3 o.rels.length g3, .slice d4 0 g4, .slice d5 0 g5]] W' (StripR x (secStr w4) W') := fun W' hW' => strip_c (hx.below (up4 _ hW')) hxRH.out hxOH.out (fun b hb => (hC2.out b hb).below (up4 _ hW'))
  clear hok hxO hR hxR hC e30 e31 e32 e33 e34 e40 e41 e42 e43 e44 hB5 cells hst
  go_wp2_with fail
  rw [← hw5]
  clear hw5
  go_region_held3 (fun w' => (w'.cell? ⟨w4.heap.size, 0, none⟩ = some (.slice d1 x.secs.length g1) ∧ w'.cell? ⟨w4.heap.size, 1, none⟩ = some (.slice d2 x.syms.length g2) ∧ w'.cell? ⟨w4.heap.size, 2, none⟩ = some (.slice d3 o.rels.length g3) ∧ w'.cell? ⟨w4.heap.size, 3, none⟩ = some (.slice d4 0 g4) ∧ w'.cell? ⟨w4.heap.size, 4, none⟩ = some (.slice d5 0 g5)) ∧
      w'.cell? ⟨w.heap.size, 0, none⟩ = some (.slice a1 o.secs.length c1) ∧ w'.cell? ⟨w.heap.size, 1, none⟩ = some (.slice a2 o.syms.length c2) ∧ w'.cell? ⟨w.heap.size, 2, none⟩ = some (.slice a3 o.rels.length c3) ∧ w'.cell? ⟨w.heap.size, 3, none⟩ = some s4 ∧ w'.cell? ⟨w.heap.size, 4, none⟩ = some s5)
    (first
      | go_keep
      | exact cells5 _ (by assumption))
    (first
      | (go_simp; go_at_call 17; refine (hck _ hb0).mono ?_; rintro e w6 ⟨rfl, hb6⟩; have hbA := bel_then hb0 (Nat.le_refl _) hb6)
      | (go_simp; go_at_call 54; refine (hno _ hbB).mono ?_; rintro e w8 ⟨q2, rfl, hq2, hb8⟩; have hbC := bel_then hbB (Nat.le_refl _) hb8)
      | (go_simp; go_at_call 54; refine (hnx _ hbA).mono ?_; rintro e w7 ⟨q1, rfl, hq1, hb7⟩; have hbB := bel_then hbA (Nat.le_refl _) hb7)
      | (go_simp; go_at_call 53; refine (heq _ _ _ (hq1.below hb8) hq2).mono ?_; rintro e w9 ⟨rfl, hb9⟩; have hbD := bel_then hbC (Nat.le_refl _) hb9))
  all_goals (
    clear hck hnx heq hb6 hbA hb7 hbB hb8 hbC hq1 hq2 hb9
    obtain ⟨⟨p0, p1, p2, p3, p4⟩, u0, u1, u2, u3, u4⟩ := cells5 _ hbD
    go_wp2_with fail
    refine (hst2 _ hbD).mono ?_
    rintro e w10 ⟨yv, y, rfl, hy, hb10, y1, y2, y3, y4, y5, y6⟩
    have hS2 : Stripped x y := ⟨⟨y5, fun j a b ha hb => (y6 j a b ha hb).1⟩, y1, y2, y3, y4⟩
    have hb10 := bel_then hbD (Nat.le_refl _) hb10
    have hcy := Lib.hid (fun j a b ha hb => (y6 j a b ha hb).2)
    have hyR := hS2.r hxOH.out hxRH.out
    have yq := Lib.hid (hS.out.twice hS2 hokH.out)
    have hS2 := Lib.hid hS2
    clear y1 y2 y3 y4 y5 y6 hbD p0 p1 p2 p3 p4 u0 u1 u2 u3 u4 hst2
    obtain ⟨⟨p0, p1, p2, p3, p4⟩, u0, u1, u2, u3, u4⟩ := cells5 _ hb10
    obtain ⟨f1, f2, f3, f4, f5, rfl, m1, m2, m3, m4, m5⟩ := id hy
    obtain ⟨fa1, fc1, rfl⟩ := rows_slice m1
    obtain ⟨fa2, fc2, rfl⟩ := rows_slice m2
    obtain ⟨fa3, fc3, rfl⟩ := rows_slice m3
    obtain ⟨fa4, fc4, rfl⟩ := rows_slice m4
    obtain ⟨fa5, fc5, rfl⟩ := rows_slice m5
    clear m1 m2 m3 m4 m5
    have hsame : ∀ A W', Below (w10.alloc A).heap.size (w10.alloc A) W' → Calls Tryz.prog 20 #[.agg #[.slice d1 x.secs.length g1, .slice d2 x.syms.length g2, .slice d3 o.rels.length g3, .slice d4 0 g4, .slice d5 0 g5], .agg #[.slice fa1 y.secs.length fc1, .slice fa2 y.syms.length fc2, .slice fa3 y.rels.length fc3, .slice fa4 y.files.length fc4, .slice fa5 y.lines.length fc5]] W' (fun e w' => e = .returned (.bool true) ∧ Below W'.heap.size W' w') := fun A W' hW' => by
      have hW2 : Below w10.heap.size w10 W' := bel_then (one_below w10 A) (Nat.le_refl _) hW'
      have hW4 : Below w4.heap.size w4 W' := up4 _ (bel_then hb10 (Nat.le_refl _) hW2)
      have e1 : ∀ b ∈ x.secs, SecIn W' b.ba b.bn (secStr w4 b) := fun b hb => (hC2.out b hb).below hW4
      have e2 : ∀ (j : Nat) (a b : SecT), x.secs[j]? = some a → y.secs[j]? = some b → SecIn W' b.ba b.bn (secStr w4 a) := fun j a b ha hb => (hcy.out j a b ha hb).below hW2
      have e3 : ∀ b ∈ y.secs, SecIn W' b.ba b.bn (secStr W' b) := fun b hb => by
        obtain ⟨j, hj⟩ := List.getElem?_of_mem hb
        obtain ⟨a, ha, -⟩ := hS2.out.secs.back hj
        exact secStr_in ⟨_, e2 j a b ha hj⟩
      have := rsame_c (hx.below hW4) (hy.below hW2) hxRH.out hyR (C := secStr W') (fun b hb => secStr_in ⟨_, e1 b hb⟩) e3
      rw [dec_yes] at this
      · exact this
      · refine ⟨⟨hS2.out.secs.1.symm, fun k a b ha hb => ?_⟩, yq.out.1.symm, yq.out.2.1.symm, yq.out.2.2.1.symm, yq.out.2.2.2.symm⟩
        obtain ⟨t1, t2, t3, t4, t5⟩ := hS2.out.secs.2 k a b ha hb
        refine ⟨t1.symm, t2.symm, t3.symm, ?_, t5.symm⟩
        rw [secIn_one (secStr_in ⟨_, e1 a (List.mem_of_getElem? ha)⟩) (e1 a (List.mem_of_getElem? ha))]
        exact secIn_one (e2 k a b ha hb) (e3 b (List.mem_of_getElem? hb))
    have hsame2 : ∀ A W', Below (w10.alloc A).heap.size (w10.alloc A) W' → Calls Tryz.prog 20 #[.agg #[.slice d1 x.secs.length g1, .slice none 0 0, .slice none 0 0, .slice none 0 0, .slice none 0 0], .agg #[.slice a1 o.secs.length c1, .slice none 0 0, .slice none 0 0, .slice none 0 0, .slice none 0 0]] W' (fun e w' => e = .returned (.bool true) ∧ Below W'.heap.size W' w') := fun A W' hW' => by
      have hW2 : Below w10.heap.size w10 W' := bel_then (one_below w10 A) (Nat.le_refl _) hW'
      have hW4 : Below w4.heap.size w4 W' := up4 _ (bel_then hb10 (Nat.le_refl _) hW2)
      have hW0 : Below w.heap.size w W' := up _ (up5 _ (bel_then hb10 (Nat.le_refl _) hW2))
      have e1 : ∀ (j : Nat) (a b : SecT), o.secs[j]? = some a → x.secs[j]? = some b → SecIn W' b.ba b.bn (C a) := fun j a b ha hb => (hcx.out j a b ha hb).below hW4
      have e2 : ∀ b ∈ x.secs, SecIn W' b.ba b.bn (secStr W' b) := fun b hb => by
        obtain ⟨j, hj⟩ := List.getElem?_of_mem hb
        obtain ⟨a, ha, -⟩ := hS.out.secs.back hj
        exact secStr_in ⟨_, e1 j a b ha hj⟩
      have e3 : ∀ b ∈ o.secs, SecIn W' b.ba b.bn (secStr W' b) := fun b hb => secStr_in ⟨_, (hCH.out b hb).below hW0⟩
      obtain ⟨v1, v2, v3, v4, v5, hv, k1', -, -, -, -⟩ := hx.below hW4
      have hv1 : v1 = .slice d1 x.secs.length g1 := by
        injection hv with hv
        injection hv with hv
        simp only [List.cons.injEq] at hv
        exact hv.1.symm
      rw [hv1] at k1'
      obtain ⟨r1, -, -, -, -, n1, -, -, -, -⟩ := hxRH.out
      obtain ⟨r1', -, -, -, -, n1', -, -, -, -⟩ := hRH.out
      have nilr : ∀ {α : Type} (f : α → List Value) (size : Nat), RowsAt W' (.slice none 0 0) f size ([] : List α) := fun f size => ⟨none, 0, rfl, .inl rfl⟩
      have := rsame_c (a := ⟨x.secs, [], [], [], []⟩) (b := ⟨o.secs, [], [], [], []⟩) ⟨_, _, _, _, _, rfl, k1', nilr _ _, nilr _ _, nilr _ _, nilr _ _⟩ ⟨_, _, _, _, _, rfl, k1.below hW0, nilr _ _, nilr _ _, nilr _ _, nilr _ _⟩
        ⟨r1, by simp, by simp, by simp, by simp, n1, by simp, by simp, by simp, by simp⟩ ⟨r1', by simp, by simp, by simp, by simp, n1', by simp, by simp, by simp, by simp⟩ (C := secStr W') e2 e3
      rw [dec_yes] at this
      · exact this
      · refine ⟨⟨hS.out.secs.1, fun k b a hb ha => ?_⟩, rfl, rfl, rfl, rfl⟩
        obtain ⟨t1, t2, t3, t4, t5⟩ := hS.out.secs.2 k a b ha hb
        refine ⟨t1, t2, t3, ?_, t5⟩
        rw [secIn_one (e2 b (List.mem_of_getElem? hb)) (e1 k a b ha hb)]
        exact secIn_one ((hCH.out a (List.mem_of_getElem? ha)).below hW0) (e3 a (List.mem_of_getElem? ha))
    obtain ⟨w11, hw11⟩ : ∃ w11, w11 = w10.alloc (.cells #[.slice fa1 y.secs.length fc1, .slice fa2 y.syms.length fc2, .slice fa3 y.rels.length fc3, .slice fa4 y.files.length fc4, .slice fa5 y.lines.length fc5] 28) := ⟨_, rfl⟩
    have hB11 : w11.heap[w10.heap.size]? = some (.cells #[.slice fa1 y.secs.length fc1, .slice fa2 y.syms.length fc2, .slice fa3 y.rels.length fc3, .slice fa4 y.files.length fc4, .slice fa5 y.lines.length fc5] 28 (0, 0)) := by rw [hw11]; exact heap_alloc_new w10 _
    have hb11 : Below w5.heap.size w5 w11 := bel_then hb10 (Nat.le_refl _) (by rw [hw11]; exact one_below _ _)
    have hl11 : w10.heap.size < w11.heap.size := by rw [hw11, World.size_alloc]; omega
    have hsame := hsame (.cells #[.slice fa1 y.secs.length fc1, .slice fa2 y.syms.length fc2, .slice fa3 y.rels.length fc3, .slice fa4 y.files.length fc4, .slice fa5 y.lines.length fc5] 28)
    have hsame2 := hsame2 (.cells #[.slice fa1 y.secs.length fc1, .slice fa2 y.syms.length fc2, .slice fa3 y.rels.length fc3, .slice fa4 y.files.length fc4, .slice fa5 y.lines.length fc5] 28)
    rw [← hw11] at hsame hsame2
    have celly : ∀ W', Below w11.heap.size w11 W' → W'.cell? ⟨w10.heap.size, 0, none⟩ = some (.slice fa1 y.secs.length fc1) ∧ W'.cell? ⟨w10.heap.size, 1, none⟩ = some (.slice fa2 y.syms.length fc2) ∧ W'.cell? ⟨w10.heap.size, 2, none⟩ = some (.slice fa3 y.rels.length fc3) ∧ W'.cell? ⟨w10.heap.size, 3, none⟩ = some (.slice fa4 y.files.length fc4) ∧ W'.cell? ⟨w10.heap.size, 4, none⟩ = some (.slice fa5 y.lines.length fc5) := fun W' hW' => by
      have e1 := (hW'.block _ hl11).trans hB11
      refine ⟨?_, ?_, ?_, ?_, ?_⟩ <;> simp [World.cell?, e1]
    clear p0 p1 p2 p3 p4 u0 u1 u2 u3 u4
    obtain ⟨⟨v0, v1, v2, v3, v4⟩, u0, u1, u2, u3, u4⟩ := cells5 _ hb10
    have p0 := fun A => (World.cell?_alloc_lt w10 A _ (low_of_cell v0)).trans v0
    have p1 := fun A => (World.cell?_alloc_lt w10 A _ (low_of_cell v1)).trans v1
    have p2 := fun A => (World.cell?_alloc_lt w10 A _ (low_of_cell v2)).trans v2
    have p3 := fun A => (World.cell?_alloc_lt w10 A _ (low_of_cell v3)).trans v3
    have p4 := fun A => (World.cell?_alloc_lt w10 A _ (low_of_cell v4)).trans v4
    go_wp2_with fail
    rw [← hw11]
    clear hw11 hB11 v0 v1 v2 v3 v4
    refine (hsame _ (Below.refl _ _)).mono ?_
    rintro e w12 ⟨rfl, hb12⟩
    have hb12' := bel_then hb11 (Nat.le_refl _) hb12
    clear p0 p1 p2 p3 p4 u0 u1 u2 u3 u4 hsame
    obtain ⟨⟨p0, p1, p2, p3, p4⟩, u0, u1, u2, u3, u4⟩ := cells5 _ hb12'
    go_wp2_with fail
    refine (hsame2 _ hb12).mono ?_
    rintro e w13 ⟨rfl, hb13⟩
    have hb13 := bel_then hb12' (Nat.le_refl _) hb13
    clear p0 p1 p2 p3 p4 u0 u1 u2 u3 u4 hsame2 hb12 hb12' celly hb11 hl11 hcy hyR yq hS2 hy hb10
    obtain ⟨⟨p0, p1, p2, p3, p4⟩, u0, u1, u2, u3, u4⟩ := cells5 _ hb13
    go_wp2_with fail
    clear p0 p1 p2 p3 p4 u0 u1 u2 u3 u4
    have hsyms : ∀ W', Below w5.heap.size w5 W' → RowsAt W' (.slice d2 x.syms.length g2) SymT.cells 6 x.syms := fun W' hW' => by
      obtain ⟨v1, v2, v3, v4, v5, hv, -, k2', -, -, -⟩ := hx.below (up4 _ hW')
      injection hv with hv
      injection hv with hv
      simp only [List.cons.injEq] at hv
      rw [← hv.2.1] at k2'
      exact k2'
    have hct : ∀ W', Below w5.heap.size w5 W' → ∀ s : SymT, s ∈ x.syms → Calls Tryz.prog 55 #[.slice d2 x.syms.length g2, .agg #[.string s.name, .int .i64 s.sec, .int .u32 s.val, .int .i64 s.size, .int .i64 s.bind, .int .i64 s.kind]] W' (fun e w' => e = .returned (.bool true) ∧ Below W'.heap.size W' w') := fun W' hW' s hs => by
      have := contains_sym (hsyms W' hW') (by omega) s
      rw [dec_yes hs] at this
      exact this
    have hcn : ∀ W' q (s : SymT), RowsAt W' q SymT.cells 6 (namesL o) → s ∈ namesL o → Calls Tryz.prog 55 #[q, .agg #[.string s.name, .int .i64 s.sec, .int .u32 s.val, .int .i64 s.size, .int .i64 s.bind, .int .i64 s.kind]] W' (fun e w' => e = .returned (.bool true) ∧ Below W'.heap.size W' w') := fun W' q s hq hs => by
      have := contains_sym hq hnl s
      rw [dec_yes hs] at this
      exact this
    have hro : ∀ W', Below w5.heap.size w5 W' → RowsAt W' (.slice a2 o.syms.length c2) SymT.cells 6 o.syms := fun W' hW' => k2.below (up _ (up5 _ hW'))
    have hn2 : o.syms.length ≤ 500 := hokH.out.2.1.1
    clear hx hcx hC2 k1 k2 k3 k4 k5 h hb45 hb3 hb4 hb5
    go_loopg [85] o.syms.length (fun gn i wr => ∃ k : Nat, gn + k = o.syms.length ∧ k ≤ o.syms.length ∧ i = .int .i64 k ∧ Below w5.heap.size w5 wr)
    case atStart => exact ⟨0, by omega, by omega, rfl, hb13⟩
    case round =>
      clear hb13
      obtain ⟨k, hgk, hk, rfl, hbl⟩ := hrel
      obtain ⟨⟨p0, p1, p2, p3, p4⟩, u0, u1, u2, u3, u4⟩ := cells5 _ hbl
      have hB := hbl.size
      by_cases hlt : k < o.syms.length
      · obtain ⟨b, of, rfl⟩ := rows_some2 (hro _ hbl) hlt
        have hlt' : (k : Int) < (o.syms.length : Int) := by omega
        obtain ⟨s, hs⟩ : ∃ s, o.syms[k]? = some s := ⟨o.syms[k], by simp [hlt]⟩
        obtain ⟨q0, q1, q2, q3, q4, q5⟩ := rows_sym (hro _ hbl) hs
        have hglob := Lib.hid (fun hb => hS.out.global (List.mem_of_getElem? hs) hb)
        have v1 := fun A => (World.cell?_alloc_lt wr A _ (low_of_cell p1)).trans p1
        have hbA := fun A => hbl.alloc hB A
        clear hs hro cells5 hsyms hcn hno
        have hct := fun A => hct _ (hbA A) s
        obtain ⟨sn, ss, sv, sz, sb, sk⟩ := s
        dsimp only at q0 q1 q2 q3 q4 q5 hct hglob
        by_cases hb0 : sb = 0
        · have hb1 : (sb != 0) = false := by simp [hb0]
          clear hb0 hct
          go_wp2
          go_roundg (gk - 1)
          case measure => omega
          case rel => exact ⟨k + 1, by omega, by omega, by go_num, hbA _⟩
        · have hb1 : (sb != 0) = true := bne_iff_ne.2 hb0
          have hct := fun A => hct A (hglob.out hb0)
          clear hb0
          go_wp2_with (go_at_call 55; refine (hct _).mono ?_; rintro e w14 ⟨rfl, hb14⟩)
          have hb15 := bel_then (hbA _) (Nat.le_refl _) hb14
          go_roundg (gk - 1)
          case measure => omega
          case rel => exact ⟨k + 1, by omega, by omega, by go_num, hb15⟩
      · obtain rfl : k = o.syms.length := by omega
        go_wp2
        clear p0 p1 p2 p3 p4 u0 u1 u2 u3 u4 hct
        obtain ⟨wo, rfl⟩ : ∃ wo : World, wo = wr := ⟨_, rfl⟩
        obtain ⟨gO, rfl⟩ : ∃ gO : Nat, gO = gk := ⟨_, rfl⟩
        go_loopg [103] x.syms.length (fun gn i wr => ∃ k : Nat, gn + k = x.syms.length ∧ k ≤ x.syms.length ∧ i = .int .i64 k ∧ Below w5.heap.size w5 wr)
        case atStart => exact ⟨0, by omega, by omega, rfl, hbl⟩
        case round =>
          clear hbl hB
          obtain ⟨k, hgk2, hk2, rfl, hbl⟩ := hrel
          obtain ⟨⟨p0, p1, p2, p3, p4⟩, u0, u1, u2, u3, u4⟩ := cells5 _ hbl
          have hB := hbl.size
          by_cases hlt : k < x.syms.length
          · obtain ⟨b, of, rfl⟩ := rows_some2 (hsyms _ hbl) hlt
            have hlt' : (k : Int) < (x.syms.length : Int) := by omega
            obtain ⟨s, hs⟩ : ∃ s, x.syms[k]? = some s := ⟨x.syms[k], by simp [hlt]⟩
            obtain ⟨q0, q1, q2, q3, q4, q5⟩ := rows_sym (hsyms _ hbl) hs
            have hloc := Lib.hid (fun hb => hS.out.local (List.mem_of_getElem? hs) hb)
            have hcn := fun W' q => hcn W' q s
            clear hs hro hsyms
            obtain ⟨sn, ss, sv, sz, sb, sk⟩ := s
            dsimp only at q0 q1 q2 q3 q4 q5 hcn hloc
            obtain ⟨w14, hw14⟩ : ∃ w14, w14 = wr.alloc (.cells #[.string sn, .int .i64 ss, .int .u32 sv, .int .i64 sz, .int .i64 sb, .int .i64 sk] 68) := ⟨_, rfl⟩
            have hb14 : Below w5.heap.size w5 w14 := by rw [hw14]; exact hbl.alloc hB _
            have hB14 : w14.heap[wr.heap.size]? = some (.cells #[.string sn, .int .i64 ss, .int .u32 sv, .int .i64 sz, .int .i64 sb, .int .i64 sk] 68 (0, 0)) := by rw [hw14]; exact heap_alloc_new wr _
            have hl14 : wr.heap.size < w14.heap.size := by rw [hw14, World.size_alloc]; omega
            have cell14 : ∀ W', Below w14.heap.size w14 W' → (W'.cell? ⟨wr.heap.size, 0, none⟩ = some (.string sn) ∧ W'.cell? ⟨wr.heap.size, 1, none⟩ = some (.int .i64 ss) ∧ W'.cell? ⟨wr.heap.size, 2, none⟩ = some (.int .u32 sv) ∧ W'.cell? ⟨wr.heap.size, 3, none⟩ = some (.int .i64 sz) ∧ W'.cell? ⟨wr.heap.size, 4, none⟩ = some (.int .i64 sb) ∧ W'.cell? ⟨wr.heap.size, 5, none⟩ = some (.int .i64 sk)) ∧
                W'.cell? ⟨w.heap.size, 0, none⟩ = some (.slice a1 o.secs.length c1) ∧ W'.cell? ⟨w.heap.size, 1, none⟩ = some (.slice a2 o.syms.length c2) ∧ W'.cell? ⟨w.heap.size, 2, none⟩ = some (.slice a3 o.rels.length c3) ∧ W'.cell? ⟨w.heap.size, 3, none⟩ = some s4 ∧ W'.cell? ⟨w.heap.size, 4, none⟩ = some s5 := fun W' hW' => by
              have e1 := (hW'.block _ hl14).trans hB14
              refine ⟨⟨?_, ?_, ?_, ?_, ?_, ?_⟩, (cells5 _ (bel_then hb14 (Nat.le_refl _) hW')).2⟩ <;> simp [World.cell?, e1]
            go_wp2_with fail
            rw [← hw14]
            clear hw14 hB14 p0 p1 p2 p3 p4 u0 u1 u2 u3 u4
            obtain ⟨⟨v0, v1, v2, v3, v4, v5⟩, u0, u1, u2, u3, u4⟩ := cell14 _ (Below.refl _ _)
            by_cases hb0 : sb = 0
            · have hb1 : (sb == 0) = true := beq_iff_eq.2 hb0
              have hin := hloc.out hb0
              have hcn := fun W' q hq => hcn W' q hq hin
              have hbd : Below w14.heap.size w14 w14.drew := (Below.refl _ _).drew
              have hno := fun W' (hW' : Below w14.heap.size w14 W') => hno W' (bel_then hb14 (Nat.le_refl _) hW')
              clear hb0 hin cells5
              go_region_held3 (fun w' => (w'.cell? ⟨wr.heap.size, 0, none⟩ = some (.string sn) ∧ w'.cell? ⟨wr.heap.size, 1, none⟩ = some (.int .i64 ss) ∧ w'.cell? ⟨wr.heap.size, 2, none⟩ = some (.int .u32 sv) ∧ w'.cell? ⟨wr.heap.size, 3, none⟩ = some (.int .i64 sz) ∧ w'.cell? ⟨wr.heap.size, 4, none⟩ = some (.int .i64 sb) ∧ w'.cell? ⟨wr.heap.size, 5, none⟩ = some (.int .i64 sk)) ∧
                  w'.cell? ⟨w.heap.size, 0, none⟩ = some (.slice a1 o.secs.length c1) ∧ w'.cell? ⟨w.heap.size, 1, none⟩ = some (.slice a2 o.syms.length c2) ∧ w'.cell? ⟨w.heap.size, 2, none⟩ = some (.slice a3 o.rels.length c3) ∧ w'.cell? ⟨w.heap.size, 3, none⟩ = some s4 ∧ w'.cell? ⟨w.heap.size, 4, none⟩ = some s5)
                (first
                  | go_keep
                  | exact cell14 _ (by assumption))
                (first
                  | (go_simp; go_at_call 54; refine (hno _ hbd).mono ?_; rintro e w15 ⟨q, rfl, hq, hb15⟩; have hbE := bel_then hbd (Nat.le_refl _) hb15)
                  | (go_simp; go_at_call 55; refine (hcn _ _ hq).mono ?_; rintro e w16 ⟨rfl, hb16⟩; have hbF := bel_then hbE (Nat.le_refl _) hb16))
              all_goals (
                have hbG := bel_then hb14 (Nat.le_refl _) hbF
                clear hq hb15 hb16 hbE hbF hcn hno cell14 hbd
                go_wp2
                go_roundg (gk - 1)
                case measure => omega
                case rel => exact ⟨k + 1, by omega, by omega, by go_num, hbG⟩)
            · have hb1 : (sb == 0) = false := beq_eq_false_iff_ne.2 hb0
              clear hb0 hcn hno cell14
              go_quiet (fail)
              go_wp2
              go_roundg (gk - 1)
              case measure => omega
              case rel => exact ⟨k + 1, by omega, by omega, by go_num, below_drewN hb14 _⟩
          · obtain rfl : k = x.syms.length := by omega
            have hfin := up _ (up5 _ hbl)
            go_wp2
            go_ret
            exact ⟨rfl, hfin⟩)
end Go.Ev

