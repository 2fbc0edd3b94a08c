import Derived.Test.YtmiccmelipbakaaGreatDoorIsaCuEo
import Derived.Deep.RegionHeld3
import Derived.Deep.AppendLies
import Derived.Deep.DrawnRows
import Derived.Test.YtmiccmelipbakaaGreatDoorIsaFs
import Derived.Deep.Slices
set_option linter.unusedSectionVars false
set_option linter.unusedVariables false
set_option linter.unusedSimpArgs false
/-
  The first half of the law IsaLists: the bytes of those that are instructions, one behind the other.
-/
namespace Go.Ev
open Go.RowKit Go.Proofs
def I7.ok (x : I7) : Bool := validB x.op x.a x.b x.c x.d x.k x.i
def I7.rng (x : I7) : Prop := R7 x.op x.a x.b x.c x.d x.k x.i
theorem good_of {x : I7} (hr : x.rng) (h : x.ok = true) : x.good := by
  obtain ⟨k, hk⟩ := isX_some hr
  refine ⟨k, hk, ?_⟩
  cases k
  · have := hk.2
    unfold I7.ok at h
    rw [h] at this; cases this
  · decide
  · decide
theorem inv_of {x : I7} (hr : x.rng) (h : x.ok = false) : IsX .inv x.op x.a x.b x.c x.d x.k x.i := ⟨hr, h⟩
theorem sizeAll_snoc (l : List I7) (x : I7) : sizeAll (l ++ [x]) = sizeAll l + x.size := by
  induction l with
  | nil => simp [sizeAll]
  | cons y l ih => simp only [List.cons_append, sizeAll, ih]; omega
theorem bytes_lo : ∀ (l : List I7) (x : I7) (j : Nat), j < sizeAll l → bytesOf (l ++ [x]) j = bytesOf l j
  | [], _, _, h => absurd h (by simp [sizeAll])
  | y :: l, x, j, h => by
    show catN y.size y.byte (bytesOf (l ++ [x])) j = catN y.size y.byte (bytesOf l) j
    unfold catN
    by_cases hj : j < y.size
    · rw [if_pos hj, if_pos hj]
    · rw [if_neg hj, if_neg hj]
      exact bytes_lo l x _ (by simp only [sizeAll] at h; omega)
theorem bytes_hi : ∀ (l : List I7) (x : I7) (j : Nat), j < x.size → bytesOf (l ++ [x]) (sizeAll l + j) = x.byte j
  | [], x, j, h => by
    show catN x.size x.byte (bytesOf []) (0 + j) = _
    unfold catN
    rw [Nat.zero_add, if_pos h]
  | y :: l, x, j, h => by
    show catN y.size y.byte (bytesOf (l ++ [x])) (y.size + sizeAll l + j) = _
    unfold catN
    rw [if_neg (by omega)]
    have : y.size + sizeAll l + j - y.size = sizeAll l + j := by omega
    rw [this]
    exact bytes_hi l x j h
theorem byV_snoc (l : List I7) (x : I7) : byV (bytesOf (l ++ [x])) (sizeAll (l ++ [x])) = byV (bytesOf l) (sizeAll l) ++ byV x.byte x.size := by
  rw [sizeAll_snoc]
  unfold byV
  rw [List.range_add, List.map_append, List.map_map]
  congr 1
  · apply List.map_congr_left
    intro j hj
    rw [bytes_lo l x j (List.mem_range.1 hj)]
  · apply List.map_congr_left
    intro j hj
    simp only [Function.comp_apply]
    rw [bytes_hi l x j (List.mem_range.1 hj)]
theorem size_le (x : I7) : x.size ≤ 8 ∧ 4 ≤ x.size := by unfold I7.size; split <;> omega
theorem sizeAll_le (l : List I7) : sizeAll l ≤ 8 * l.length := by
  induction l with
  | nil => simp [sizeAll]
  | cons y l ih => have := size_le y; simp only [sizeAll, List.length_cons]; omega
/-- Those of the first k that are instructions. -/
def goods (l : List I7) (k : Nat) : List I7 := (l.take k).filter I7.ok
theorem goods_len (l : List I7) (k : Nat) : (goods l k).length ≤ k := by
  unfold goods
  have := List.length_filter_le I7.ok (l.take k)
  have := List.length_take_le k l
  omega
theorem goods_yes {l : List I7} {k : Nat} {x : I7} (h : l[k]? = some x) (hx : x.ok = true) : goods l (k + 1) = goods l k ++ [x] := by
  unfold goods
  rw [List.take_add_one, h, List.filter_append]
  simp [hx]
theorem goods_no {l : List I7} {k : Nat} {x : I7} (h : l[k]? = some x) (hx : x.ok = false) : goods l (k + 1) = goods l k := by
  unfold goods
  rw [List.take_add_one, h, List.filter_append]
  simp [hx]
/-- A slice whose cells lie from block N on lies on wherever those blocks do. -/
def SrcFrom (N : Nat) (w : World) (s : Value) (m : Nat) (news : List Value) (size : Nat) : Prop :=
  ∃ b o c, s = .slice (some ⟨b, o, none⟩) m c ∧ N ≤ b ∧ news.length = m * size ∧ (∀ j u, news[j]? = some u → w.cell? ⟨b, o + j, none⟩ = some u) ∧ ∀ u ∈ news, u.oneCell' = true
theorem SrcFrom.src {N : Nat} {w : World} {s : Value} {m size : Nat} {news : List Value} (h : SrcFrom N w s m news size) : SrcAt w s m news size := by
  obtain ⟨b, o, c, rfl, _, h2, h3, h4⟩ := h
  exact ⟨_, c, rfl, .inr ⟨b, o, rfl, h2, h3⟩, h4⟩
theorem SrcFrom.drew {N : Nat} {w : World} {s : Value} {m size : Nat} {news : List Value} (h : SrcFrom N w s m news size) : SrcFrom N w.drew s m news size := h
theorem SrcFrom.grown {N : Nat} {w w' : World} {row : Option Nat} {s : Value} {m size : Nat} {news : List Value} (h : SrcFrom N w s m news size) (hg : w.grownBy w' row) (hr : ∀ k, row = some k → k < N) : SrcFrom N w' s m news size := by
  obtain ⟨b, o, c, rfl, h1, h2, h3, h4⟩ := h
  refine ⟨b, o, c, rfl, h1, h2, fun j u hj => ?_, h4⟩
  have hc := h3 j u hj
  exact (hg.cell hc (fun e => by have := hr b e.symm; omega))
theorem SrcFrom.alloc {N : Nat} {w : World} {s : Value} {m size : Nat} {news : List Value} (h : SrcFrom N w s m news size) (o : Obj) : SrcFrom N (w.alloc o) s m news size := h.grown (World.grownBy_alloc w o none) (fun k e => by cases e)
theorem SrcFrom.le {N N' : Nat} {w : World} {s : Value} {m size : Nat} {news : List Value} (h : SrcFrom N w s m news size) (hN : N' ≤ N) : SrcFrom N' w s m news size := by
  obtain ⟨b, o, c, rfl, h1, h2⟩ := h
  exact ⟨b, o, c, rfl, by omega, h2⟩
theorem src_new {N : Nat} {w : World} {t : TypeId} {size : Nat} (cs : List Value) (hN : N ≤ w.heap.size) (hl : cs.length = size) (h1 : ∀ u ∈ cs, u.oneCell' = true) : SrcFrom N (w.alloc (.cells cs.toArray t)) (.slice (some ⟨w.heap.size, 0, none⟩) 1 1) 1 cs size :=
  ⟨_, 0, 1, rfl, hN, by omega, fun j u hj => by have := cells_new w cs t j u hj; rwa [cell_add] at this, h1⟩
theorem row_drew {w : World} {b e z n : Nat} {v : Value} {xs : List Value} (h : w.ownsRow b e z v n xs) : w.drew.ownsRow b e z v n xs := h
section
variable {P : Program} {w : World}
theorem step_append_src {ops : Array Oper} {o : Oper} {a : Act} {K : Act → World → Prop} {Q : Exit → Act → World → Prop} {E : Prop} (hgd : o.guard = none) (s x : Operand) (t : TypeId)
    (ho : o.op = .call { callee := .builtin .append, args := #[s, x], argTypes := #[t, t] })
    (base : Nat) (e : TypeId) (i : TypeInfo) (z : Value) (size bytes : Nat) (ht : P.underlying t = some (.slice e)) (hi : P.info? e = some i) (hz : i.zero = some z)
    (hsize : i.size = size) (hby : i.bytes = bytes) (hzs : z.cells.size = size) (hsz : 0 < size)
    (v : Value) (n : Nat) (xs : List Value) (hs : a.eval s = v) (hown : w.ownsRow base e size v n xs)
    (N : Nat) (u : Value) (m : Nat) (news : List Value) (hx : a.eval x = u) (hu : SrcFrom N w u m news size)
    (h63 : n + m ≤ maxLen) (hbytes : (n + m) * bytes ≤ 140737488355328) (hbase : base ≤ w.heap.size)
    (h : ∀ v' w', w'.ownsRow base e size v' (n + m) (xs ++ news) → w.grownBy w' v.ownBlock → K (a.put o.dst v') w') :
    if Region.wanted o (yielded ops a.tmps) = true then Oper.wp P o a w K Q else E := by
  have hw : Region.wanted o (yielded ops a.tmps) = true := by simp [Region.wanted, hgd]
  rw [if_pos hw]
  obtain ⟨b, o', c, rfl, _, h2, h3, h4⟩ := hu
  exact wp_append_own w s x t ho base e i z size bytes ht hi hz hsize hby hzs hsz v n xs hs hown ⟨b, o', none⟩ m c news hx h2 (fun j u hj => by rw [cell_add]; exact h3 j u hj) h4 h63 hbytes hbase fun v' w' h5 h6 _ => h v' w' h5 h6
end
/-- The rows that a call owns, of other types, don't meet. -/
theorem own_apart {w : World} {b1 b2 e1 e2 z1 z2 n1 n2 : Nat} {v1 v2 : Value} {x1 x2 : List Value} (h1 : w.ownsRow b1 e1 z1 v1 n1 x1) (h2 : w.ownsRow b2 e2 z2 v2 n2 x2) (he : e1 ≠ e2) : v1.ownBlock = none ∨ v1.ownBlock ≠ v2.ownBlock := by
  rcases h1.2 with ⟨rfl, _⟩ | ⟨g1, c1, u1, rfl, _, k1, _⟩
  · exact .inl rfl
  · refine .inr fun e => ?_
    rcases h2.2 with ⟨rfl, _⟩ | ⟨g2, c2, u2, rfl, _, k2, _⟩
    · simp [Value.ownBlock] at e
    · have e : g1 = g2 := by simpa [Value.ownBlock] using e
      subst e
      rw [k1] at k2
      simp at k2
      exact he k2.2
theorem own_grown {w w' : World} {b e z n : Nat} {v : Value} {xs : List Value} (h : w.ownsRow b e z v n xs) (hg : w.grownBy w' none) : w'.ownsRow b e z v n xs := by
  refine h.kept hg ?_
  rcases h.2 with ⟨rfl, _⟩ | ⟨g, c, u, rfl, _⟩
  · exact .inl rfl
  · exact .inr (by simp [Value.ownBlock])
theorem fin1 {w w3 wA wB : World} {o : Obj} {u7 u8 vA : Value} {n7 n8 nA : Nat} {x7 x8 xA : List Value} (hb : Below w.heap.size w w3) (h7 : w3.ownsRow w.heap.size 5 1 u7 n7 x7) (h8 : w3.ownsRow w.heap.size 24 7 u8 n8 x8) (hA : wA.ownsRow w.heap.size 5 1 vA nA xA)
    (gA : w3.drew.grownBy wA u7.ownBlock) (gB : (wA.alloc o).grownBy wB u8.ownBlock) : wB.ownsRow w.heap.size 5 1 vA nA xA ∧ Below w.heap.size w wB := by
  have h8A := ((row_drew h8).kept gA (own_apart (row_drew h8) (row_drew h7) (by decide))).alloc o
  have hbA := (hb.drew.grown gA hb.size (fun k e => (h7.lt k e).1))
  have hbB := hbA.alloc hbA.size o
  exact ⟨(hA.alloc _).kept gB (own_apart (hA.alloc _) h8A (by decide)), hbB.grown gB hbB.size (fun k e => (h8.lt k e).1)⟩
theorem fin2 {w w3 wA wB : World} {o : Obj} {u7 u8 vA : Value} {n7 n8 nA : Nat} {x7 x8 xA : List Value} (hb : Below w.heap.size w w3) (h7 : w3.ownsRow w.heap.size 5 1 u7 n7 x7) (h8 : w3.ownsRow w.heap.size 24 7 u8 n8 x8) (hA : wA.ownsRow w.heap.size 5 1 vA nA xA)
    (gA : (w3.alloc o).drew.grownBy wA u7.ownBlock) (gB : wA.grownBy wB u8.ownBlock) : wB.ownsRow w.heap.size 5 1 vA nA xA ∧ Below w.heap.size w wB := by
  have h8A := (row_drew (h8.alloc o)).kept gA (own_apart (row_drew (h8.alloc o)) (row_drew (h7.alloc o)) (by decide))
  have hb1' := (hb.alloc hb.size o).drew
  have hbA := hb1'.grown gA hb1'.size (fun k e => (h7.lt k e).1)
  exact ⟨hA.kept gB (own_apart hA h8A (by decide)), hbA.grown gB hbA.size (fun k e => (h8.lt k e).1)⟩
/-! ### What List answers -/
theorem run_ex (n : Nat) (q : Nat → Int) : ∃ K, RunK n q K := by
  have h : ∀ m, (∀ k, k < m → okAt n q k = true) ∨ ∃ K, RunK n q K := by
    intro m
    induction m with
    | zero => exact .inl fun k hk => absurd hk (by omega)
    | succ m ih =>
      rcases ih with ih | ih
      · cases hm : okAt n q m with
        | true =>
          refine .inl fun k hk => ?_
          by_cases hkm : k < m
          · exact ih k hkm
          · obtain rfl : k = m := by omega
            exact hm
        | false => exact .inr ⟨m, ih, hm⟩
      · exact .inr ih
  rcases h (n + 1) with h | h
  · have h1 := pos_le h
    have h2 := pos_ge q (n + 1)
    omega
  · exact h
theorem insAt_own {w : World} {base : Nat} {v : Value} {K : Nat} {l : List I7} (h : w.ownsRow base 24 7 v K (l.flatMap I7.cells)) (hK : K = l.length) : InsAt w v l := by
  subst hK
  exact SrcAt.of_own h (flat_one l)
theorem list_no {m : Int} {w : World} (hG : GlobU m w) {a : Option Addr} {len cap : Nat} {q : Nat → Int} (hb : BytesW w a len cap q) (hlen : len ≤ 1000000) {K p : Nat} (hR : RunK len q K) (hp : posN q K = p) (hlt : p < len) :
    Calls Tryz.prog 23 #[.slice a len cap] w fun e w' => e = .returned (.tuple #[.slice none 0 0, .int .i64 (p : Int), .int .i64 6]) ∧ Below w.heap.size w w' := by
  refine (list_any hG hb hlen).mono ?_
  rintro e w' ⟨K', hR', _, hbl, ⟨_, he⟩ | ⟨h, _⟩⟩
  · obtain rfl := hR.unique hR'
    exact ⟨by rw [he, hp], hbl⟩
  · obtain rfl := hR.unique hR'
    omega
theorem list_yes {m : Int} {w : World} (hG : GlobU m w) {a : Option Addr} {len cap : Nat} {q : Nat → Int} (hb : BytesW w a len cap q) (hlen : len ≤ 1000000) {K : Nat} {l : List I7} (hR : RunK len q K) (hp : posN q K = len) (hi : items q K = l) :
    Calls Tryz.prog 23 #[.slice a len cap] w fun e w' => ∃ v, e = .returned (.tuple #[v, .int .i64 0, .int .i64 0]) ∧ InsAt w' v l ∧ Below w.heap.size w w' := by
  subst hi
  refine (list_any hG hb hlen).mono ?_
  rintro e w' ⟨K', hR', _, hbl, ⟨h, _⟩ | ⟨_, v, he, hown, _⟩⟩
  · obtain rfl := hR.unique hR'
    omega
  · obtain rfl := hR.unique hR'
    exact ⟨v, he, insAt_own hown (items_len _ _).symm, hbl⟩
theorem row_bytes {w : World} {base : Nat} {v : Value} {n : Nat} {q : Nat → Int} (h : w.ownsRow base 5 1 v n (byV q n)) (hq : ∀ j, InB (q j)) : ∃ a cap, v = .slice a n cap ∧ BytesW w a n cap q := by
  have hl := h.1
  rcases h.2 with ⟨rfl, rfl⟩ | ⟨g, cap, cur, rfl, _, _, h1, h2, _⟩
  · exact ⟨none, 0, rfl, .inl ⟨rfl, rfl, rfl⟩, Nat.le_refl _, by omega, hq⟩
  · refine ⟨_, cap, rfl, .inr ⟨g, 0, rfl, fun j hj => ?_⟩, h1, by unfold maxLen at h2; exact h2, hq⟩
    have := h.cells (g := g) rfl j _ (byV_at hj)
    rwa [cell_add] at this
theorem BytesAt.src {w : World} {a : Option Addr} {n cap : Nat} {q : Nat → Int} (h : BytesAt w a n cap q) : SrcAt w (.slice a n cap) n (byV q n) 1 := by
  refine ⟨a, cap, rfl, ?_, byV_one _ _⟩
  rcases h.1 with ⟨rfl, rfl, rfl⟩ | ⟨b, o, rfl, hc⟩
  · exact .inl ⟨rfl, rfl, rfl, rfl⟩
  · refine .inr ⟨b, o, rfl, by rw [byV_len]; omega, fun j u hj => ?_⟩
    obtain ⟨hj', rfl⟩ := byV_get hj
    exact hc j hj'
theorem byV_cat (n n2 : Nat) (f g : Nat → Int) : byV f n ++ byV g n2 = byV (catN n f g) (n + n2) := by
  unfold byV
  rw [List.range_add, List.map_append, List.map_map]
  congr 1
  · apply List.map_congr_left
    intro j hj
    unfold catN
    rw [if_pos (List.mem_range.1 hj)]
  · apply List.map_congr_left
    intro j _
    unfold catN
    simp only [Function.comp_apply]
    rw [if_neg (by omega)]
    congr 3; omega
theorem goods_ok (l : List I7) (hr : ∀ x ∈ l, x.rng) : ∀ x ∈ l.filter I7.ok, x.good := fun x hx => by
  rw [List.mem_filter] at hx
  exact good_of (hr x hx.1) hx.2
/-- What Encode answers, in the walk's words. -/
theorem encode_good {m : Int} {w : World} (hG : GlobU m w) {x : I7} (hr : x.rng) (h : x.ok = true) : Calls Tryz.prog 16 #[x.v] w fun e w' => ∃ b o c, e = .returned (.tuple #[.slice (some ⟨b, o, none⟩) x.size c, .int .i64 0]) ∧
    SrcFrom w.heap.size w' (.slice (some ⟨b, o, none⟩) x.size c) x.size (byV x.byte x.size) 1 ∧ Below w.heap.size w w' := by
  obtain ⟨k, hx, hn⟩ := good_of hr h
  have hs := size_of hx hn
  refine (encode_new hG hx hn).mono ?_
  rintro e w' ⟨b, o, c, he, hc, hnew, hcell, hb⟩
  refine ⟨b, o, c, by rw [he, hs], ⟨b, o, c, rfl, hnew, by rw [byV_len]; omega, fun j u hj => ?_, byV_one _ _⟩, hb⟩
  obtain ⟨hj', rfl⟩ := byV_get hj
  exact hcell j (by omega)
set_option maxRecDepth 100000 in
set_option maxHeartbeats 4000000 in
theorem lists_calls0 {m : Int} {w : World} (hG : GlobU m w) {sl : Value} {l : List I7} (hl : InsAt w sl l) (hr : ∀ x ∈ l, x.rng) {aa ba : Option Addr} {na ca nb cb : Nat} {f g : Nat → Int} (hA : BytesAt w aa na ca f) (hB : BytesAt w ba nb cb g) (hn1 : (l.length : Int) ≤ 10000) (hn2 : (na : Int) + (nb : Int) ≤ 10000) :
    Calls Tryz.prog 10 #[sl, .slice aa na ca, .slice ba nb cb] w fun e w' => e = .returned (.bool true) ∧ Below w.heap.size w w' := by
  obtain ⟨al, cl, rfl, kl, jl⟩ := hl
  have hl : InsAt w (.slice al l.length cl) l := ⟨al, cl, rfl, kl, jl⟩
  obtain ⟨i0, hi, hz0, hz1, hz2⟩ := info_parts infoB
  obtain ⟨i1, hi', hz0', hz1', hz2'⟩ := info_parts infoI
  go_enter Tryz.func10, Tryz.ntmps10
  go_wp2_with (go_at_call 15; refine (sane_b hG).mono ?_; rintro e w1 ⟨rfl, hb1⟩)
  clear jl
  go_loopw [7, 8, 38] (fun v7 v8 i wr => ∃ k : Nat, k ≤ l.length ∧ i = .int .i64 k ∧ wr.ownsRow w.heap.size 5 1 v7 (sizeAll (goods l k)) (byV (bytesOf (goods l k)) (sizeAll (goods l k))) ∧
      wr.ownsRow w.heap.size 24 7 v8 (goods l k).length ((goods l k).flatMap I7.cells) ∧ Below w.heap.size w wr) (fun _ _ i _ => l.length - (intOf i).toNat)
  case atStart => exact ⟨0, Nat.zero_le _, rfl, World.ownsRow_nil _ _ _ _, World.ownsRow_nil _ _ _ _, hb1⟩
  case round =>
    obtain ⟨k, hk, rfl, h7, h8, hbl⟩ := hrel
    have hsz := hbl.size
    by_cases hlt : k < l.length
    · obtain ⟨bl, ol, rfl⟩ : ∃ b o, al = some ⟨b, o, none⟩ := by
        rcases kl with ⟨_, h, _⟩ | ⟨b, o, h, _⟩
        · omega
        · exact ⟨b, o, h⟩
      obtain ⟨x, hx⟩ : ∃ x, l[k]? = some x := ⟨l[k], by simp [hlt]⟩
      have hxr : x.rng := hr x (List.mem_of_getElem? hx)
      obtain ⟨p0, p1, p2, p3, p4, p5, p6⟩ := InsAt.cells (SrcAt.below hl hbl) hx
      have hlt' : (k : Int) < (l.length : Int) := by omega
      clear kl
      cases hok : x.ok with
      | false =>
        have hgn := Lib.hid (goods_no hx hok)
        have hinv := inv_of hxr hok
        clear hx hok
        obtain ⟨xo, xa, xb, xc, xd, xk, xi⟩ := x
        dsimp only at p0 p1 p2 p3 p4 p5 p6 hinv
        go_wp2_with (go_at_call 16; refine (encode_no (globU_below hG (hbl.alloc hsz _)) hinv).mono ?_; rintro e w3 ⟨rfl, hb3⟩)
        have hg3 := grown_of (bel_alloc hb3)
        refine ⟨⟨k + 1, by omega, by go_num, ?_, ?_, (hbl.trans ((bel_alloc hb3).mono hsz))⟩, by simp [intOf]; omega⟩
        · rw [hgn.out]; exact own_grown h7 hg3
        · rw [hgn.out]; exact own_grown h8 hg3
      | true =>
        have hgy := Lib.hid (goods_yes hx hok)
        have hsx := (size_le x).1
        obtain ⟨n, hn⟩ : ∃ n, x.size = n := ⟨_, rfl⟩
        obtain ⟨ys, hys⟩ : ∃ ys, byV x.byte x.size = ys := ⟨_, rfl⟩
        have henc : ∀ w, GlobU m w → Calls Tryz.prog 16 #[agI x.op x.a x.b x.c x.d x.k x.i] w fun e w' => ∃ b o c, e = .returned (.tuple #[.slice (some ⟨b, o, none⟩) n c, .int .i64 0]) ∧
            SrcFrom w.heap.size w' (.slice (some ⟨b, o, none⟩) n c) n ys 1 ∧ Below w.heap.size w w' := fun w hG => by
          rw [← hys, ← hn]
          exact encode_good hG hxr hok
        have hgl := goods_len l k
        have hgs := sizeAll_le (goods l k)
        rw [hn] at hsx
        have hn := Lib.hid hn
        have hys := Lib.hid hys
        clear hx hok hxr
        obtain ⟨xo, xa, xb, xc, xd, xk, xi⟩ := x
        dsimp only at p0 p1 p2 p3 p4 p5 p6 henc
        go_wp2_with (go_at_call 16; refine (henc _ (globU_below hG (hbl.alloc hsz _))).mono ?_; clear henc; rintro e w3 ⟨sb, so, sc, rfl, hsrc, hb3⟩; have hA3 := bel_alloc hb3; have hg3 := grown_of hA3; have h7' := own_grown h7 hg3; have h8' := own_grown h8 hg3)
        have hbx : ∀ j v, #[Value.int .i64 xo, .int .i64 xa, .int .i64 xb, .int .i64 xc, .int .i64 xd, .int .i64 xk, .int .u32 xi][j]? = some v → w3.cell? ⟨wr.heap.size, j, none⟩ = some v := fun j v hj => (hb3.cell (p := ⟨wr.heap.size, j, none⟩) (by simp)).trans (alloc_at hj)
        have c0 := hbx 0 _ rfl
        have c1 := hbx 1 _ rfl
        have c2 := hbx 2 _ rfl
        have c3 := hbx 3 _ rfl
        have c4 := hbx 4 _ rfl
        have c5 := hbx 5 _ rfl
        have c6 := hbx 6 _ rfl
        have hs3 : wr.heap.size < w3.heap.size := by have := hb3.size; simp at this; omega
        have hsrc := hsrc.le (N' := wr.heap.size) (by simp)
        have l7 : ∀ k, u7.ownBlock = some k → k < wr.heap.size := fun k e => (h7.lt k e).2
        have l8 : ∀ k, u8.ownBlock = some k → k < wr.heap.size := fun k e => (h8.lt k e).2
        have n7 : some wr.heap.size ≠ u7.ownBlock := fun e => by have := l7 _ e.symm; omega
        have n8 : some wr.heap.size ≠ u8.ownBlock := fun e => by have := l8 _ e.symm; omega
        have hap := own_apart h8' h7' (by decide)
        have hE : w.heap.size ≤ w3.heap.size := by omega
        clear hbx h7 h8 p0 p1 p2 p3 p4 p5 p6 hg3
        go_region_held3 (fun w' => w'.cell? ⟨wr.heap.size, 0, none⟩ = some (.int .i64 xo) ∧ w'.cell? ⟨wr.heap.size, 1, none⟩ = some (.int .i64 xa) ∧ w'.cell? ⟨wr.heap.size, 2, none⟩ = some (.int .i64 xb) ∧ w'.cell? ⟨wr.heap.size, 3, none⟩ = some (.int .i64 xc) ∧
            w'.cell? ⟨wr.heap.size, 4, none⟩ = some (.int .i64 xd) ∧ w'.cell? ⟨wr.heap.size, 5, none⟩ = some (.int .i64 xk) ∧ w'.cell? ⟨wr.heap.size, 6, none⟩ = some (.int .u32 xi))
          (first
            | go_keep
            | (go_split_ands
               refine ⟨?_, ?_, ?_, ?_, ?_, ?_, ?_⟩ <;> (rw [gA.cell_far _ (by simp; omega) n7]; assumption))
            | (go_split_ands
               refine ⟨?_, ?_, ?_, ?_, ?_, ?_, ?_⟩ <;> (rw [gB.cell_far _ (low_of_cell (by assumption)) n8]; assumption)))
          (first
            | (refine step_append_src (by rfl) _ _ 25 (by rfl) w.heap.size 5 i0 _ 1 1 Tryz.underlying25 hi hz0 hz1 hz2 (by rfl) (by decide) u7 _ _ (by rfl) (by first | exact row_drew h7' | exact (row_drew h7').alloc _) wr.heap.size _ n ys (by rfl) (by first | exact hsrc.drew | exact hsrc.drew.alloc _) (by unfold maxLen; omega) (by omega) (by first | exact hE | (simp; omega)) ?_; intro vA wA hA gA)
            | (refine step_append_src (by rfl) _ _ 35 (by rfl) w.heap.size 24 i1 _ 7 56 Tryz.underlying35 hi' hz0' hz1' hz2' (by rfl) (by decide) u8 _ _ (by rfl) (by first | exact ((row_drew h8').kept gA hap).alloc _ | exact ((row_drew h8').alloc _).kept gA hap) wr.heap.size _ 1 (I7.mk xo xa xb xc xd xk xi).cells (by rfl)
                (by first | exact src_new (I7.mk xo xa xb xc xd xk xi).cells (Nat.le_trans (Nat.le_of_lt hs3) gA.size) rfl (cells_one _) | exact (src_new (w := w3.drew) (I7.mk xo xa xb xc xd xk xi).cells (Nat.le_of_lt hs3) rfl (cells_one _)).grown gA l7) (by unfold maxLen; omega) (by omega) (by have := gA.size; (try simp at this); (try simp); omega) ?_; intro vB wB hB gB))
        all_goals have hb03 : Below w.heap.size w w3 := hbl.trans (hA3.mono hsz)
        all_goals have hfin := by first | exact fin1 hb03 h7' h8' hA gA gB | exact fin2 hb03 h7' h8' hA gA gB
        all_goals clear hA gA gB hsrc h7' h8' hA3 hb3 hb03 hap n7 n8 l7 l8 c0 c1 c2 c3 c4 c5 c6
        all_goals go_wp2
        all_goals refine ⟨⟨k + 1, by omega, by go_num, ?_, ?_, hfin.2⟩, by simp [intOf]; omega⟩
        all_goals rw [hgy.out]
        all_goals first
          | (rw [byV_snoc, sizeAll_snoc, hys.out, hn.out]; exact hfin.1)
          | (rw [List.length_append, List.flatMap_append]; simpa using hB)
    · have hke : k = l.length := by omega
      subst hke
      have hgo : goods l l.length = l.filter I7.ok := by unfold goods; rw [List.take_length]
      rw [hgo] at h7 h8
      have hfl : (l.filter I7.ok).length ≤ l.length := List.length_filter_le _ _
      have hG7 := goods_ok l hr
      generalize l.filter I7.ok = gl at h7 h8 hfl hG7
      obtain ⟨b1, b2, b3, b4⟩ := all_run hG7
      have hs7 := sizeAll_le gl
      obtain ⟨a7, c7, rfl, w7⟩ := row_bytes h7 b1
      have i8 := insAt_own h8 rfl
      obtain ⟨Ka, hKa⟩ := run_ex na f
      obtain ⟨Kb, hKb⟩ := run_ex nb g
      clear hgo h7 h8 hl kl
      go_wp2_with fail
      refine (list_yes (globU_below hG hbl) w7 (by omega) b2 b3 b4).mono ?_
      rintro e w2 ⟨v13, rfl, i13, hb2⟩
      have hbl2 := bel_then hbl (Nat.le_refl _) hb2
      have i8' := SrcAt.below i8 hb2
      clear w7 hb2 i8 hbl b1 b2 b3 b4
      go_wp2_with fail
      refine (equal_insns (by omega) i13 i8').mono ?_
      rintro e w3 ⟨rfl, hb3⟩
      have hbl3 := bel_then hbl2 (Nat.le_refl _) hb3
      clear i13 i8' hb3 hbl2
      by_cases hpa : posN f Ka < na
      · generalize hpe : posN f Ka = pa at hpa
        have hpe := Lib.hid hpe
        go_wp2_with fail
        refine (list_no (globU_below hG hbl3) (hA.below hbl3).wide (by omega) hKa hpe.out hpa).mono ?_
        rintro e w4 ⟨rfl, hb4⟩
        have hbl4 := bel_then hbl3 (Nat.le_refl _) hb4
        go_wp2
        go_ret
        exact ⟨rfl, hbl4⟩
      · have hpa' : Hid (posN f Ka = na) := Lib.hid (by have := pos_le hKa.1; omega)
        clear hpa
        go_wp2_with fail
        refine (list_yes (globU_below hG hbl3) (hA.below hbl3).wide (by omega) hKa hpa'.out rfl).mono ?_
        rintro e w4 ⟨v16, rfl, i16, hb4⟩
        obtain ⟨a16, c16, rfl, k16⟩ := id i16
        clear k16
        have hbl4 := bel_then hbl3 (Nat.le_refl _) hb4
        clear hbl3 hb4
        obtain ⟨pb, hpb⟩ : ∃ pb, posN g Kb = pb := ⟨_, rfl⟩
        have hpe := Lib.hid hpb
        have hple : pb ≤ nb := by rw [← hpb]; exact pos_le hKb.1
        clear hpb
        have hR := run_cat hA.2.2.2 hKa hpa'.out hKb
        have hP : Hid (posN (catN na f g) (Ka + Kb) = na + pb) := Lib.hid (by rw [cat_hi hA.2.2.2 hKa.1 hpa'.out, hpe.out])
        have hI := items_cat (g := g) hA.2.2.2 hKa.1 hpa'.out Kb
        have hin := catN_in (N := na) hA.2.2.2 hB.2.2.2
        by_cases hlt2 : pb < nb
        · go_wp2_with fail
          refine (list_no (globU_below hG hbl4) (hB.below hbl4).wide (by omega) hKb hpe.out hlt2).mono ?_
          rintro e w5 ⟨rfl, hb5⟩
          have hbl5 := bel_then hbl4 (Nat.le_refl _) hb5
          clear hbl4 hb5 i16
          go_wp2_with fail
          refine (concatB (alloc_at rfl) (alloc_at rfl) (SrcAt.below (hA.below hbl5).src ((Below.refl _ _).alloc (Nat.le_refl _) _)) (SrcAt.below (hB.below hbl5).src ((Below.refl _ _).alloc (Nat.le_refl _) _)) (by omega)).mono ?_
          rintro e w6 ⟨v, rfl, hown, hb6⟩
          have hbl6 := bel_then hbl5 (Nat.le_refl _) (bel_alloc hb6)
          rw [byV_cat] at hown
          obtain ⟨a6, c6, rfl, h6⟩ := row_bytes hown hin
          clear hbl5 hb6 hown
          go_wp2_with fail
          refine (list_no (globU_below hG hbl6) h6 (by omega) hR hP.out (by omega)).mono ?_
          rintro e w7 ⟨rfl, hb7⟩
          have hbl7 := bel_then hbl6 (Nat.le_refl _) hb7
          go_wp2
          go_ret
          exact ⟨by simp, hbl7⟩
        · have hpb' : pb = nb := by omega
          subst hpb'
          go_wp2_with fail
          refine (list_yes (globU_below hG hbl4) (hB.below hbl4).wide (by omega) hKb hpe.out rfl).mono ?_
          rintro e w5 ⟨v18, rfl, i18, hb5⟩
          obtain ⟨a18, c18, rfl, k18⟩ := id i18
          clear k18
          have hbl5 := bel_then hbl4 (Nat.le_refl _) hb5
          have i16 := SrcAt.below i16 hb5
          clear hbl4 hb5
          go_wp2_with fail
          refine (concatB (alloc_at rfl) (alloc_at rfl) (SrcAt.below (hA.below hbl5).src ((Below.refl _ _).alloc (Nat.le_refl _) _)) (SrcAt.below (hB.below hbl5).src ((Below.refl _ _).alloc (Nat.le_refl _) _)) (by omega)).mono ?_
          rintro e w6 ⟨v, rfl, hown, hb6⟩
          have hb6 := bel_alloc hb6
          have hbl6 := bel_then hbl5 (Nat.le_refl _) hb6
          have i16 := SrcAt.below i16 hb6
          have i18 := SrcAt.below i18 hb6
          rw [byV_cat] at hown
          obtain ⟨a6, c6, rfl, h6⟩ := row_bytes hown hin
          clear hbl5 hb6 hown
          go_wp2_with fail
          refine (list_yes (globU_below hG hbl6) h6 (by omega) hR hP.out hI).mono ?_
          rintro e w7 ⟨v20, rfl, i20, hb7⟩
          have hbl7 := bel_then hbl6 (Nat.le_refl _) hb7
          have i16 := SrcAt.below i16 hb7
          have i18 := SrcAt.below i18 hb7
          clear hbl6 hb7 h6
          go_wp2_with fail
          have hla := items_len f Ka
          have hlb := items_len g Kb
          have hKa4 := pos_ge f Ka
          have hKb4 := pos_ge g Kb
          rw [hpa'.out] at hKa4
          rw [hpe.out] at hKb4
          refine (concatI (alloc_at rfl) (alloc_at rfl) (SrcAt.below i16 ((Below.refl _ _).alloc (Nat.le_refl _) _)) (SrcAt.below i18 ((Below.refl _ _).alloc (Nat.le_refl _) _)) (by omega)).mono ?_
          rintro e w8 ⟨v, rfl, hown, hb8⟩
          have hb8 := bel_alloc hb8
          have hbl8 := bel_then hbl7 (Nat.le_refl _) hb8
          have i20 := SrcAt.below i20 hb8
          have i21 : InsAt w8 v (items f Ka ++ items g Kb) := insAt_own (by rw [List.flatMap_append]; exact hown) (by rw [List.length_append])
          clear hbl7 hb8 hown
          go_wp2_with fail
          refine (equal_insns (by rw [List.length_append]; omega) i20 i21).mono ?_
          rintro e w9 ⟨rfl, hb9⟩
          have hbl9 := bel_then hbl8 (Nat.le_refl _) hb9
          clear hbl8 hb9
          go_wp2
          go_ret
          exact ⟨rfl, hbl9⟩
end Go.Ev

/-
  The law IsaLists at whatever came in; a slice of instructions as an argument.
-/
namespace Go.Ev
open Go.ChangeShapes Go.WideShapes Go.ChangeAt Go.RowKit Go.Proofs Go.Deep
set_option maxRecDepth 100000 in
set_option maxHeartbeats 1000000 in
theorem lists_long {m : Int} {w : World} (hG : GlobU m w) {al aa ba : Option Addr} {nl cl na ca nb cb : Nat} (h1 : 10000 < (nl : Int)) :
    Calls Tryz.prog 10 #[.slice al nl cl, .slice aa na ca, .slice ba nb cb] w fun e w' => e = .returned (.bool true) ∧ Below w.heap.size w w' := by
  go_enter Tryz.func10, Tryz.ntmps10
  go_wp2_with (go_at_call 15; refine (sane_b hG).mono ?_; rintro e w1 ⟨rfl, hb1⟩)
  go_ret
  exact ⟨rfl, hb1⟩
set_option maxRecDepth 100000 in
set_option maxHeartbeats 1000000 in
theorem lists_wide {m : Int} {w : World} (hG : GlobU m w) {al aa ba : Option Addr} {nl cl na ca nb cb : Nat} (h1 : (nl : Int) ≤ 10000) (h2 : 10000 < (na : Int) + (nb : Int)) (h3 : (na : Int) + (nb : Int) ≤ 281474976710655) :
    Calls Tryz.prog 10 #[.slice al nl cl, .slice aa na ca, .slice ba nb cb] w fun e w' => e = .returned (.bool true) ∧ Below w.heap.size w w' := by
  go_enter Tryz.func10, Tryz.ntmps10
  go_wp2_with (go_at_call 15; refine (sane_b hG).mono ?_; rintro e w1 ⟨rfl, hb1⟩)
  go_ret
  exact ⟨rfl, hb1⟩
set_option maxRecDepth 100000 in
/-- The cells of an instruction, as they are read. -/
theorem insn_cells {H : Type} {enc : TypeId × Value → H} {w : World} {base : Nat} {spare : Nat → Bool} {held : Bool} {n : Nat} {cs : List Value} {y : DataW H × List MemPlace} (hl : cs.length = 7) (h : DataW.trod enc Tryz.prog w base spare held n 24 cs = some y) : ∃ x : I7, cs = x.cells ∧ x.rng := by
  match cs, hl with
  | [c0, c1, c2, c3, c4, c5, c6], _ =>
    obtain ⟨xs, n, _, _, _, hlen, hel⟩ := DataW.trod_struct Tryz.underlying24 h
    match xs, hlen with
    | [y0, y1, y2, y3, y4, y5, y6], _ =>
      have h0 := hel 0 _ rfl
      have h1 := hel 1 _ rfl
      have h2 := hel 2 _ rfl
      have h3 := hel 3 _ rfl
      have h4 := hel 4 _ rfl
      have h5 := hel 5 _ rfl
      have h6 := hel 6 _ rfl
      (try simp only [cells3] at h0); (try simp only [cells3] at h1); (try simp only [cells3] at h2); (try simp only [cells3] at h3); (try simp only [cells3] at h4); (try simp only [cells3] at h5); (try simp only [cells22] at h6)
      obtain ⟨n0, rfl, w0⟩ := one_int Tryz.underlying3 (show DataW.trod _ _ _ _ _ _ n 3 [c0] = some y0 from h0)
      obtain ⟨n1, rfl, w1⟩ := one_int Tryz.underlying3 (show DataW.trod _ _ _ _ _ _ n 3 [c1] = some y1 from h1)
      obtain ⟨n2, rfl, w2⟩ := one_int Tryz.underlying3 (show DataW.trod _ _ _ _ _ _ n 3 [c2] = some y2 from h2)
      obtain ⟨n3, rfl, w3⟩ := one_int Tryz.underlying3 (show DataW.trod _ _ _ _ _ _ n 3 [c3] = some y3 from h3)
      obtain ⟨n4, rfl, w4⟩ := one_int Tryz.underlying3 (show DataW.trod _ _ _ _ _ _ n 3 [c4] = some y4 from h4)
      obtain ⟨n5, rfl, w5⟩ := one_int Tryz.underlying3 (show DataW.trod _ _ _ _ _ _ n 3 [c5] = some y5 from h5)
      obtain ⟨n6, rfl, w6⟩ := one_int Tryz.underlying22 (show DataW.trod _ _ _ _ _ _ n 22 [c6] = some y6 from h6)
      exact ⟨⟨n0, n1, n2, n3, n4, n5, n6⟩, rfl, inI64_wf w0, inI64_wf w1, inI64_wf w2, inI64_wf w3, inI64_wf w4, inI64_wf w5, inU32_wf w6⟩
theorem flat_len (l : List I7) : (l.flatMap I7.cells).length = l.length * 7 := by
  induction l with
  | nil => rfl
  | cons x l ih => rw [List.flatMap_cons, List.length_append, ih, List.length_cons]; simp [I7.cells]; omega
instance : Inhabited I7 := ⟨⟨0, 0, 0, 0, 0, 0, 0⟩⟩
theorem flat_at : ∀ {l : List I7} {j : Nat} {u : Value}, (l.flatMap I7.cells)[j]? = some u → ∃ k x i, l[k]? = some x ∧ j = k * 7 + i ∧ i < 7 ∧ x.cells[i]? = some u
  | [], j, u, h => by simp at h
  | y :: l, j, u, h => by
    rw [List.flatMap_cons] at h
    by_cases hj : j < 7
    · rw [List.getElem?_append_left (by simp [I7.cells]; omega)] at h
      exact ⟨0, y, j, rfl, by omega, hj, h⟩
    · rw [List.getElem?_append_right (by simp [I7.cells]; omega)] at h
      obtain ⟨k, x, i, h1, h2, h3, h4⟩ := flat_at h
      refine ⟨k + 1, x, i, by simpa using h1, ?_, h3, h4⟩
      simp [I7.cells] at h2
      omega
set_option maxRecDepth 100000 in
/-- A slice of instructions as an argument. -/
theorem open_insns {H : Type} {enc : TypeId × Value → H} {W : World} {r : Go.Reach} {b0 : Nat} {v : Value} {d : DataW H} {p : List MemPlace} (hv : Value.okWide Tryz.prog W r b0 35 v) (h : DataW.Trod enc Tryz.prog W 0 (fun _ => true) true 35 v d p) :
    ∃ l : List I7, InsAt W v l ∧ ∀ x ∈ l, x.rng := by
  obtain ⟨a0, len, cap, rfl⟩ := okWide_slice Tryz.underlying35 hv
  obtain ⟨fuel, hf⟩ := h
  rcases open_slice Tryz.underlying35 hf with ⟨hcs, _⟩ | ⟨a, len', cap', m, n, D, Pl, hcs, _, hl, hm, hmm, _, hx⟩
  · simp [Value.cells] at hcs
    obtain ⟨rfl, rfl, rfl⟩ := hcs
    exact ⟨[], ⟨none, 0, rfl, .inl ⟨rfl, rfl, rfl, rfl⟩, fun u hu => by simp at hu⟩, fun x hx => by simp at hx⟩
  · simp [Value.cells] at hcs
    obtain ⟨rfl, rfl, rfl⟩ := hcs
    obtain ⟨blk, off, spot⟩ := a
    have hs : spot = none := by
      unfold Value.okWide at hv
      rw [Tryz.underlying35] at hv
      unfold Cell.okWide at hv
      rw [Tryz.underlying35] at hv
      unfold Cell.ok at hv
      rw [Tryz.underlying35] at hv
      exact hv.2.2.2.1
    subst hs
    simp only [if_true] at hmm
    subst hmm
    have each : ∀ i, i < len → ∃ x : I7, x.rng ∧ ∀ j u, x.cells[j]? = some u → W.cell? ⟨blk, off + (i * 7 + j), none⟩ = some u := by
      intro i hi
      obtain ⟨cs', h1, h2⟩ := hx i (by omega)
      rw [cells24] at h1
      obtain ⟨_, hlen, hcell⟩ := World.cells?_some h1
      obtain ⟨x, rfl, hr⟩ := insn_cells hlen h2
      refine ⟨x, hr, fun j u hj => ?_⟩
      have hj7 : j < 7 := by have := (List.getElem?_eq_some_iff.1 hj).1; simpa [I7.cells] using this
      have := hcell j hj7
      rw [cell_add, cell_add, Nat.add_assoc] at this
      rw [this]; exact hj
    obtain ⟨X, hX⟩ := choose_lt each
    refine ⟨(List.range len).map X, ⟨_, _, by rw [List.length_map, List.length_range], .inr ⟨blk, off, rfl, flat_len _, fun j u hj => ?_⟩, flat_one _⟩, fun x hx => ?_⟩
    · obtain ⟨k, x, i, e1, e2, e3, e4⟩ := flat_at hj
      have hk : k < len := by have := (List.getElem?_eq_some_iff.1 e1).1; simpa using this
      simp [hk] at e1
      subst e1
      rw [e2]
      exact (hX k hk).2 i u e4
    · obtain ⟨k, hk, rfl⟩ := List.mem_map.1 hx
      exact (hX k (List.mem_range.1 hk)).1
theorem lists_calls {m : Int} {w : World} (hG : GlobU m w) {sl : Value} {l : List I7} (hl : InsAt w sl l) (hr : ∀ x ∈ l, x.rng) {aa ba : Option Addr} {na ca nb cb : Nat} {f g : Nat → Int} (hA : BytesAt w aa na ca f) (hB : BytesAt w ba nb cb g) :
    Calls Tryz.prog 10 #[sl, .slice aa na ca, .slice ba nb cb] w fun e w' => e = .returned (.bool true) ∧ Below w.heap.size w w' := by
  by_cases h1 : (l.length : Int) ≤ 10000
  · by_cases h2 : (na : Int) + (nb : Int) ≤ 10000
    · exact lists_calls0 hG hl hr hA hB h1 h2
    · obtain ⟨al, cl, rfl, _⟩ := hl
      have := hA.2.1
      have := hA.2.2.1
      have := hB.2.1
      have := hB.2.2.1
      exact lists_wide hG h1 (by omega) (by omega)
  · obtain ⟨al, cl, rfl, _⟩ := hl
    exact lists_long hG (by omega)
end Go.Ev

