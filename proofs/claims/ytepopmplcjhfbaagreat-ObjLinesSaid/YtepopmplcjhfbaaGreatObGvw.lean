import Derived.Test.YtepopmplcjhfbaaGreatObGsu
import Derived.Test.YtepopmplcjhfbaaGreatObSane
set_option linter.unusedSectionVars false
set_option linter.unusedVariables false
set_option linter.unusedSimpArgs false
set_option linter.unnecessarySimpa false
/-
  Stage 3: the specification's IsTable, exactly.
-/
namespace Go.Ev
open Go.RowKit Go.Proofs Go.Rw
theorem tab_step {l : List LineT} {k : Nat} {x : LineT} (hx : l[k]? = some x) (h1 : ∀ j x, j < k → l[j]? = some x → EntOk x) (h2 : ∀ (j : Nat) (x y : LineT), j + 1 < k → l[j]? = some x → l[j + 1]? = some y → x.sec < y.sec ∨ (x.sec = y.sec ∧ x.off < y.off))
    (hok : EntOk x) (hp : k = 0 ∨ ∃ y, l[k - 1]? = some y ∧ (y.sec < x.sec ∨ (y.sec = x.sec ∧ y.off < x.off))) :
    (∀ j x, j < k + 1 → l[j]? = some x → EntOk x) ∧ (∀ (j : Nat) (x y : LineT), j + 1 < k + 1 → l[j]? = some x → l[j + 1]? = some y → x.sec < y.sec ∨ (x.sec = y.sec ∧ x.off < y.off)) := by
  refine ⟨fun j x' hj hx' => ?_, fun j x' y' hj hx' hy' => ?_⟩
  · by_cases h : j < k
    · exact h1 j x' h hx'
    · obtain rfl : j = k := by omega
      rw [hx] at hx'
      cases hx'
      exact hok
  · by_cases h : j + 1 < k
    · exact h2 j x' y' h hx' hy'
    · obtain rfl : k = j + 1 := by omega
      rw [hx] at hy'
      cases hy'
      rcases hp with hp | ⟨y, hy, hp⟩
      · omega
      · rw [Nat.add_sub_cancel, hx'] at hy
        cases hy
        exact hp
set_option maxRecDepth 100000 in
set_option maxHeartbeats 8000000 in
theorem table_x {w : World} {s : Value} {l : List LineT} (h : RowsAt w s LineT.cells 4 l) (hr : ∀ x ∈ l, x.R) (hl : l.length ≤ 140737488351232) :
    Calls Tryz.prog 44 #[s] w fun e w' => e = .returned (.bool (dec (TabOk l))) ∧ Below w.heap.size w w' := by
  obtain ⟨a, c, rfl⟩ := rows_slice h
  obtain ⟨r, hR0⟩ : ∃ r, r = dec (TabOk l) := ⟨_, rfl⟩
  rw [← hR0]
  by_cases h4 : l.length ≤ 4000
  · have hl4 : (l.length : Int) ≤ 4000 := by omega
    have hR := Lib.hid (show r = dec (TabOk l) from hR0)
    clear hR0
    go_enter Tryz.func44, Tryz.ntmps44
    go_wp2
    go_loopw [3] (fun i wr => ∃ k : Nat, k ≤ l.length ∧ i = .int .i64 k ∧ Below w.heap.size w wr ∧ (∀ j x, j < k → l[j]? = some x → EntOk x) ∧ (∀ (j : Nat) (x y : LineT), j + 1 < k → l[j]? = some x → l[j + 1]? = some y → x.sec < y.sec ∨ (x.sec = y.sec ∧ x.off < y.off))) (fun i _ => l.length - (intOf i).toNat)
    case atStart => exact ⟨0, by omega, rfl, Below.refl _ _, fun j x hj => by omega, fun j x y hj => by omega⟩
    case round =>
      obtain ⟨k, hk, rfl, hbl, h1, h2⟩ := hrel
      by_cases hlt : k < l.length
      · obtain ⟨b, o, rfl⟩ := rows_some2 h hlt
        obtain ⟨⟨xs, xo, xf, xl⟩, hx⟩ : ∃ x, l[k]? = some x := ⟨l[k], by simp [hlt]⟩
        obtain ⟨g0, g1, g2, g3⟩ := rows_line (h.below hbl) hx
        obtain ⟨r0, r1, r2, r3⟩ := hr _ (List.mem_of_getElem? hx)
        dsimp only at g0 g1 g2 g3 r0 r1 r2 r3
        have hB := hbl.size
        have hB2 : ∀ o, w.heap.size ≤ (wr.alloc o).heap.size := fun o => by rw [World.size_alloc]; omega
        by_cases z1 : xl = 0
        · subst z1
          have z1' : ((0 : Int) == 0) = true := by simp
          by_cases z2 : xf = 0
          · subst z2
            have z2' : ((0 : Int) != 0) = false := by simp
            by_cases ce : EntOk ⟨xs, xo, 0, 0⟩
            · have ce2 := ce
              unfold EntOk RngOk at ce2
              dsimp only at ce2
              obtain ⟨⟨⟨d0, d1⟩, ⟨d2, d3⟩, ⟨d4, d5⟩, ⟨d6, d7⟩⟩, d8⟩ := ce2
              have ce := Lib.hid ce
              by_cases hk0 : 0 < k
              · obtain ⟨⟨ys, yo, yf, yl⟩, hy⟩ : ∃ y, l[k - 1]? = some y := ⟨l[k - 1], List.getElem?_eq_getElem (by omega)⟩
                obtain ⟨p0, p1, p2, p3⟩ := rows_line (h.below hbl) hy
                obtain ⟨q0, q1, q2, q3⟩ := hr _ (List.mem_of_getElem? hy)
                dsimp only at p0 p1 p2 p3 q0 q1 q2 q3
                have p0 := fun o => (World.cell?_alloc_lt wr o _ (low_of_cell p0)).trans p0
                have p1 := fun o => (World.cell?_alloc_lt wr o _ (low_of_cell p1)).trans p1
                have p2 := fun o => (World.cell?_alloc_lt wr o _ (low_of_cell p2)).trans p2
                have p3 := fun o => (World.cell?_alloc_lt wr o _ (low_of_cell p3)).trans p3
                by_cases cs : ys < xs ∨ (ys = xs ∧ yo < xo)
                · have hnew := Lib.hid (tab_step hx h1 h2 ce.out (.inr ⟨_, hy, cs⟩))
                  clear hx h1 h2 hy
                  go_wp2
                  all_goals first
                    | (exfalso; omega)
                    | (go_roundw; (case rel => exact ⟨k + 1, by omega, by go_num, (hbl.alloc hB _).alloc (hB2 _) _, hnew.out.1, hnew.out.2⟩); (case measure => simp [intOf]; omega))
                · have hf := Lib.hid (show r = false by
                    rw [hR.out]
                    refine dec_no fun hT => cs ?_
                    have := hT.2.2 (k - 1) _ _ hy (by rw [show k - 1 + 1 = k by omega]; exact hx)
                    dsimp only at this
                    exact this)
                  clear hx h1 h2 hy
                  go_wp2
                  all_goals first
                    | (go_ret; exact ⟨by rw [hf.out]; rfl, (hbl.alloc hB _).alloc (hB2 _) _⟩)
                    | (exfalso; omega)
              · have hnew := Lib.hid (tab_step hx h1 h2 ce.out (.inl (by omega)))
                clear hx h1 h2
                go_wp2
                all_goals first
                  | (exfalso; omega)
                  | (go_roundw; (case rel => exact ⟨k + 1, by omega, by go_num, hbl.alloc hB _, hnew.out.1, hnew.out.2⟩); (case measure => simp [intOf]; omega))
            · have hf := Lib.hid (show r = false by
                rw [hR.out]
                exact dec_no fun hT => ce (hT.2.1 _ (List.mem_of_getElem? hx)))
              unfold EntOk RngOk at ce
              dsimp only at ce
              clear hx h1 h2
              go_wp2
              all_goals first
                | (go_ret; exact ⟨by rw [hf.out]; rfl, hbl.alloc hB _⟩)
                | (exfalso; omega)
          · have z2' : (xf != 0) = true := bne_iff_ne.2 z2
            by_cases ce : EntOk ⟨xs, xo, xf, 0⟩
            · have ce2 := ce
              unfold EntOk RngOk at ce2
              dsimp only at ce2
              obtain ⟨⟨⟨d0, d1⟩, ⟨d2, d3⟩, ⟨d4, d5⟩, ⟨d6, d7⟩⟩, d8⟩ := ce2
              have ce := Lib.hid ce
              by_cases hk0 : 0 < k
              · obtain ⟨⟨ys, yo, yf, yl⟩, hy⟩ : ∃ y, l[k - 1]? = some y := ⟨l[k - 1], List.getElem?_eq_getElem (by omega)⟩
                obtain ⟨p0, p1, p2, p3⟩ := rows_line (h.below hbl) hy
                obtain ⟨q0, q1, q2, q3⟩ := hr _ (List.mem_of_getElem? hy)
                dsimp only at p0 p1 p2 p3 q0 q1 q2 q3
                have p0 := fun o => (World.cell?_alloc_lt wr o _ (low_of_cell p0)).trans p0
                have p1 := fun o => (World.cell?_alloc_lt wr o _ (low_of_cell p1)).trans p1
                have p2 := fun o => (World.cell?_alloc_lt wr o _ (low_of_cell p2)).trans p2
                have p3 := fun o => (World.cell?_alloc_lt wr o _ (low_of_cell p3)).trans p3
                by_cases cs : ys < xs ∨ (ys = xs ∧ yo < xo)
                · have hnew := Lib.hid (tab_step hx h1 h2 ce.out (.inr ⟨_, hy, cs⟩))
                  clear hx h1 h2 hy
                  go_wp2
                  all_goals first
                    | (exfalso; omega)
                    | (go_roundw; (case rel => exact ⟨k + 1, by omega, by go_num, (hbl.alloc hB _).alloc (hB2 _) _, hnew.out.1, hnew.out.2⟩); (case measure => simp [intOf]; omega))
                · have hf := Lib.hid (show r = false by
                    rw [hR.out]
                    refine dec_no fun hT => cs ?_
                    have := hT.2.2 (k - 1) _ _ hy (by rw [show k - 1 + 1 = k by omega]; exact hx)
                    dsimp only at this
                    exact this)
                  clear hx h1 h2 hy
                  go_wp2
                  all_goals first
                    | (go_ret; exact ⟨by rw [hf.out]; rfl, (hbl.alloc hB _).alloc (hB2 _) _⟩)
                    | (exfalso; omega)
              · have hnew := Lib.hid (tab_step hx h1 h2 ce.out (.inl (by omega)))
                clear hx h1 h2
                go_wp2
                all_goals first
                  | (exfalso; omega)
                  | (go_roundw; (case rel => exact ⟨k + 1, by omega, by go_num, hbl.alloc hB _, hnew.out.1, hnew.out.2⟩); (case measure => simp [intOf]; omega))
            · have hf := Lib.hid (show r = false by
                rw [hR.out]
                exact dec_no fun hT => ce (hT.2.1 _ (List.mem_of_getElem? hx)))
              unfold EntOk RngOk at ce
              dsimp only at ce
              clear hx h1 h2
              go_wp2
              all_goals first
                | (go_ret; exact ⟨by rw [hf.out]; rfl, hbl.alloc hB _⟩)
                | (exfalso; omega)
        · have z1' : (xl == 0) = false := beq_eq_false_iff_ne.2 z1
          by_cases ce : EntOk ⟨xs, xo, xf, xl⟩
          · have ce2 := ce
            unfold EntOk RngOk at ce2
            dsimp only at ce2
            obtain ⟨⟨⟨d0, d1⟩, ⟨d2, d3⟩, ⟨d4, d5⟩, ⟨d6, d7⟩⟩, d8⟩ := ce2
            have ce := Lib.hid ce
            by_cases hk0 : 0 < k
            · obtain ⟨⟨ys, yo, yf, yl⟩, hy⟩ : ∃ y, l[k - 1]? = some y := ⟨l[k - 1], List.getElem?_eq_getElem (by omega)⟩
              obtain ⟨p0, p1, p2, p3⟩ := rows_line (h.below hbl) hy
              obtain ⟨q0, q1, q2, q3⟩ := hr _ (List.mem_of_getElem? hy)
              dsimp only at p0 p1 p2 p3 q0 q1 q2 q3
              have p0 := fun o => (World.cell?_alloc_lt wr o _ (low_of_cell p0)).trans p0
              have p1 := fun o => (World.cell?_alloc_lt wr o _ (low_of_cell p1)).trans p1
              have p2 := fun o => (World.cell?_alloc_lt wr o _ (low_of_cell p2)).trans p2
              have p3 := fun o => (World.cell?_alloc_lt wr o _ (low_of_cell p3)).trans p3
              by_cases cs : ys < xs ∨ (ys = xs ∧ yo < xo)
              · have hnew := Lib.hid (tab_step hx h1 h2 ce.out (.inr ⟨_, hy, cs⟩))
                clear hx h1 h2 hy
                go_wp2
                all_goals first
                  | (exfalso; omega)
                  | (go_roundw; (case rel => exact ⟨k + 1, by omega, by go_num, (hbl.alloc hB _).alloc (hB2 _) _, hnew.out.1, hnew.out.2⟩); (case measure => simp [intOf]; omega))
              · have hf := Lib.hid (show r = false by
                  rw [hR.out]
                  refine dec_no fun hT => cs ?_
                  have := hT.2.2 (k - 1) _ _ hy (by rw [show k - 1 + 1 = k by omega]; exact hx)
                  dsimp only at this
                  exact this)
                clear hx h1 h2 hy
                go_wp2
                all_goals first
                  | (go_ret; exact ⟨by rw [hf.out]; rfl, (hbl.alloc hB _).alloc (hB2 _) _⟩)
                  | (exfalso; omega)
            · have hnew := Lib.hid (tab_step hx h1 h2 ce.out (.inl (by omega)))
              clear hx h1 h2
              go_wp2
              all_goals first
                | (exfalso; omega)
                | (go_roundw; (case rel => exact ⟨k + 1, by omega, by go_num, hbl.alloc hB _, hnew.out.1, hnew.out.2⟩); (case measure => simp [intOf]; omega))
          · have hf := Lib.hid (show r = false by
              rw [hR.out]
              exact dec_no fun hT => ce (hT.2.1 _ (List.mem_of_getElem? hx)))
            unfold EntOk RngOk at ce
            dsimp only at ce
            clear hx h1 h2
            go_wp2
            all_goals first
              | (go_ret; exact ⟨by rw [hf.out]; rfl, hbl.alloc hB _⟩)
              | (exfalso; omega)
      · have : k = l.length := by omega
        subst this
        have hf := Lib.hid (show r = true by
          rw [hR.out]
          refine dec_yes ⟨h4, fun x hx => ?_, fun j x y hx hy => ?_⟩
          · obtain ⟨j, hj⟩ := List.getElem?_of_mem hx
            exact h1 j x (List.getElem?_eq_some_iff.1 hj).1 hj
          · exact h2 j x y (List.getElem?_eq_some_iff.1 hy).1 hx hy)
        go_wp2
        go_ret
        exact ⟨by rw [hf.out]; rfl, hbl⟩
  · have hf := Lib.hid (show r = false by rw [hR0]; exact dec_no fun hT => h4 hT.1)
    have hl4 : (4000 : Int) < (l.length : Int) := by omega
    clear hR0
    go_enter Tryz.func44, Tryz.ntmps44
    go_wp2
    go_ret
    exact ⟨by rw [hf.out]; rfl, Below.refl _ _⟩
end Go.Ev

/-
  Stage 3: Unpack of Pack's bytes, and of a slice of bytes.
-/
namespace Go.Ev
open Go.RowKit Go.Proofs Go.Rw
theorem numL_byte (n : Nat) : ∀ z ∈ numL n, 0 ≤ z ∧ z < 256 := by
  induction n using Nat.strongRecOn with
  | ind n ih =>
    intro z hz
    by_cases h : n < 128
    · rw [numL_lt h, List.mem_singleton] at hz
      omega
    · rw [numL_ge h, List.mem_cons] at hz
      rcases hz with hz | hz
      · omega
      · exact ih (n / 128) (by omega) z hz
theorem entry_byte (a b : LineT) (h1 : RngOk a) (h2 : RngOk b) (hs : a.sec ≤ b.sec) (ho : a.sec = b.sec → a.off ≤ b.off) : ∀ z ∈ entryL a b, 0 ≤ z ∧ z < 256 := by
  intro z hz
  have hd : 0 ≤ offD a b := by
    unfold offD
    unfold RngOk at h1 h2
    split
    · have := ho (by omega); omega
    · omega
  have hcons : ∀ (k : Int) (n : Nat), 0 ≤ k → k < 256 → ∀ z ∈ k :: numL n, 0 ≤ z ∧ z < 256 := fun k n k0 k1 z hz => by
    rcases List.mem_cons.1 hz with hz | hz
    · omega
    · exact numL_byte _ z hz
  unfold entryL at hz
  simp only [List.mem_append] at hz
  rcases hz with hz | hz | hz | hz | hz
  · unfold secP at hz
    split at hz
    · simp at hz
    · exact hcons 4 _ (by omega) (by omega) z hz
  · unfold fileP at hz
    split at hz
    · simp at hz
    · exact hcons 3 _ (by omega) (by omega) z hz
  · unfold offP at hz
    split at hz
    · simp at hz
    · exact hcons 1 _ (by omega) (by omega) z hz
  · unfold lineP at hz
    split at hz
    · simp at hz
    · exact hcons 2 _ (by omega) (by omega) z hz
  · rw [List.mem_singleton] at hz
    generalize offD a b = d at hz hd
    generalize b.line - a.line = e at hz
    subst hz
    unfold lastP offB lineB
    repeat' split
    all_goals omega
theorem packL_byte {l : List LineT} (ht : TabOk l) : ∀ z ∈ packL default l, 0 ≤ z ∧ z < 256 := by
  have hk : ∀ k, k ≤ l.length → ∀ z ∈ packL default (l.take k), 0 ≤ z ∧ z < 256 := by
    intro k
    induction k with
    | zero => intro _ z hz; simp [packL] at hz
    | succ k ih =>
      intro hk z hz
      have hlt : k < l.length := by omega
      have hx : l[k]? = some l[k] := List.getElem?_eq_getElem hlt
      rw [pack_step hx, List.mem_append] at hz
      rcases hz with hz | hz
      · exact ih (by omega) z hz
      · have hxR := (ht.2.1 _ (List.mem_of_getElem? hx)).1
        have hord : (nowAt l k).sec ≤ (l[k]).sec ∧ ((nowAt l k).sec = (l[k]).sec → (nowAt l k).off ≤ (l[k]).off) := by
          cases k with
          | zero => exact ⟨hxR.1.1, fun _ => hxR.2.1.1⟩
          | succ k =>
            have h1 : k < l.length := by omega
            have e : nowAt l (k + 1) = l[k] := by simp [nowAt, h1]
            have := ht.2.2 k _ _ (List.getElem?_eq_getElem h1) hx
            rw [e]
            omega
        exact entry_byte _ _ (nowAt_rng (fun y hy => (ht.2.1 y hy).1) (by omega)) hxR hord.1 hord.2 z hz
  have := hk l.length (Nat.le_refl _)
  rwa [List.take_length] at this
theorem unpack_bytes {w : World} {a : Option Addr} {n c : Nat} {q : Nat → Int} (hb : BytesAt w a n q) (hi : ∀ j, InB (q j)) (hnc : n ≤ c) (hc : c ≤ 140737488351232) :
    ∃ all : List Nat, all.length = n ∧ (∀ x ∈ all, x < 256) ∧ ∀ w', Below w.heap.size w w' → Calls Tryz.prog 30 #[.slice a n c] w' (UpR all w') := by
  by_cases hn : n = 0
  · subst hn
    exact ⟨[], rfl, by simp, fun w' _ => unpack_none⟩
  · rcases hb with ⟨_, h⟩ | ⟨b, o, rfl, h⟩
    · exact absurd h hn
    · refine ⟨(List.range n).map fun j => (q j).toNat, by simp, fun x hx => ?_, fun w' hw' => ?_⟩
      · obtain ⟨j, _, rfl⟩ := List.mem_map.1 hx
        have := hi j
        unfold InB at this
        omega
      · refine unpack_some ⟨by simp, fun x hx => ?_, fun j hj => ?_⟩ ?_ (by omega) hnc (by omega)
        · obtain ⟨j, _, rfl⟩ := List.mem_map.1 hx
          have := hi j
          unfold InB at this
          omega
        · have h2 := (hw'.cell (low_of_cell (h j hj))).trans (h j hj)
          rw [h2]
          have h3 := hi j
          unfold InB at h3
          have e : (((List.range n).map fun j => (q j).toNat).getD j 0 : Nat) = (q j).toNat := by simp [List.getD, hj]
          rw [e, Int.toNat_of_nonneg h3.1]
        · exact Nat.lt_of_lt_of_le (low_of_cell (h 0 (by omega))) hw'.size
theorem unpack_row {w : World} {base : Nat} {v : Value} {xs : List Int} (h : w.ownsRow base 5 1 v xs.length (byL xs)) (hr : ∀ z ∈ xs, 0 ≤ z ∧ z < 256) (hl : xs.length ≤ 140737488351232) :
    Calls Tryz.prog 30 #[v] w (UpR (toN xs) w) := by
  have h' := h
  rcases h'.2 with ⟨rfl, h0⟩ | ⟨g, cap, cur, rfl, _, hg, hcap, _⟩
  · obtain rfl : xs = [] := List.eq_nil_of_length_eq_zero h0
    exact unpack_none
  · by_cases h0 : xs.length = 0
    · obtain rfl : xs = [] := List.eq_nil_of_length_eq_zero h0
      exact unpack_none
    · refine unpack_some ⟨by simp [toN], fun x hx => ?_, fun j hj => ?_⟩ ?_ (by omega) hcap hl
      · obtain ⟨z, hz, rfl⟩ := List.mem_map.1 hx
        have := hr z hz
        omega
      · have h1 := h.cells (g := g) rfl j (.int .u8 xs[j]) (by simp [byL, hj])
        rw [cell_add] at h1
        have h2 := hr _ (List.getElem_mem hj)
        rw [h1]
        have e : ((toN xs).getD j 0 : Nat) = (xs[j]).toNat := by simp [toN, List.getD, hj]
        rw [e, Int.toNat_of_nonneg h2.1]
      · by_cases hlt : g < w.heap.size
        · exact hlt
        · rw [Array.getElem?_eq_none (by omega)] at hg
          cases hg
end Go.Ev

/-
  Stage 3: ObjShortest's law.
-/
namespace Go.Ev
open Go.RowKit Go.Proofs Go.Rw
def TrueS (w : World) (e : Ending) (w' : World) : Prop := e = .returned (.bool true) ∧ Below w.heap.size w w'
theorem row_form {w : World} {base e size n : Nat} {v : Value} {xs : List Value} (h : w.ownsRow base e size v n xs) : ∃ a c, v = .slice a n c := by
  rcases h.2 with ⟨rfl, h0⟩ | ⟨g, cap, cur, rfl, _⟩
  · exact ⟨none, 0, by rw [h0]⟩
  · exact ⟨_, cap, rfl⟩
theorem owns_below {w W : World} {base e size n : Nat} {v : Value} {xs : List Value} (h : w.ownsRow base e size v n xs) (hb : Below w.heap.size w W) : W.ownsRow base e size v n xs := by
  refine ⟨h.1, h.2.imp id fun ⟨g, cap, cur, e1, h1, h2, h3⟩ => ⟨g, cap, cur, e1, h1, (hb.block g ?_).trans h2, h3⟩⟩
  by_cases hlt : g < w.heap.size
  · exact hlt
  · rw [Array.getElem?_eq_none (by omega)] at h2
    cases h2
set_option maxRecDepth 100000 in
set_option maxHeartbeats 4000000 in
theorem short_calls {w : World} {s : Value} {l : List LineT} (h : RowsAt w s LineT.cells 4 l) (hr : ∀ x ∈ l, x.R) (hl : l.length ≤ 140737488351232) {ba : Option Addr} {n c : Nat} {q : Nat → Int} (hb : BytesAt w ba n q) (hi : ∀ j, InB (q j)) (hnc : n ≤ c) (hc : c ≤ 140737488351232) :
    Calls Tryz.prog 9 #[s, .slice ba n c] w (TrueS w) := by
  obtain ⟨a, c1, rfl⟩ := rows_slice h
  obtain ⟨all, ha1, ha2, hU⟩ := unpack_bytes hb hi hnc hc
  have hsh := fun tab (e : unpackF all = some tab) => unpack_short e ha2
  go_enter Tryz.func9, Tryz.ntmps9
  go_wp2_with fail
  refine (sane_calls _).mono ?_
  rintro e w1 ⟨rfl, hb1⟩
  by_cases z1 : (5000 : Int) < (l.length : Int)
  · go_wp2
    go_ret
    exact ⟨rfl, hb1⟩
  by_cases z2 : (20000 : Int) < (n : Int)
  · go_wp2
    go_ret
    exact ⟨rfl, hb1⟩
  go_wp2_with fail
  refine (pack_c (h.below hb1) hl).mono ?_
  rintro e w2 ⟨hb2, hp⟩
  have hB2 := bel_then hb1 (Nat.le_refl _) hb2
  have hT := table_x (h.below hB2) hr hl
  rcases hp with ⟨ht, rfl⟩ | ⟨ht, v, rfl, hown⟩
  · rw [dec_no ht] at hT
    clear hb2 hb1
    go_wp2_with fail
    refine hT.mono ?_
    rintro e w3 ⟨rfl, hb3⟩
    have hB3 := bel_then hB2 (Nat.le_refl _) hb3
    clear hb3 hB2
    go_wp2_with fail
    refine (hU _ hB3).mono ?_
    rintro e w4 ⟨hb4, (⟨hu, rfl⟩ | ⟨tab, tv, hu, rfl, hrow⟩)⟩
    · have hB4 := bel_then hB3 (Nat.le_refl _) hb4
      go_wp2
      go_ret
      exact ⟨rfl, hB4⟩
    · have hB4 := bel_then hB3 (Nat.le_refl _) hb4
      obtain ⟨hto, hle⟩ := hsh _ hu
      obtain ⟨ta, tc, rfl⟩ := rows_slice hrow
      have ht4 := hto.1
      have hto := Lib.hid hto
      go_wp2_with fail
      refine (pack_c hrow (by omega)).mono ?_
      rintro e w5 ⟨hb5, (⟨hno, rfl⟩ | ⟨-, v2, rfl, hown2⟩)⟩
      · exact absurd hto.out hno
      · have hB5 := bel_then hB4 (Nat.le_refl _) hb5
        obtain ⟨va, vc, rfl⟩ := row_form hown2
        have hle2 : ((packL default tab).length : Int) ≤ (n : Int) := by omega
        go_wp2
        go_ret
        exact ⟨rfl, hB5⟩
  · rw [dec_yes ht] at hT
    have ht4 := ht.1
    have hplen := packL_len default l rng_default (fun x hx => (ht.2.1 x hx).1)
    have hup := fun (W : World) (hw : Below w2.heap.size w2 W) => unpack_row (base := w1.heap.size) (owns_below hown hw) (packL_byte ht) (by omega)
    have hpk := unpack_pack ht
    generalize toN (packL default l) = R at hup hpk
    clear ht hown
    go_wp2_with fail
    refine hT.mono ?_
    rintro e w3 ⟨rfl, hb3⟩
    have hB3 := bel_then hB2 (Nat.le_refl _) hb3
    go_wp2_with fail
    refine (hup _ hb3).mono ?_
    rintro e w4 ⟨hb4, (⟨hu, -⟩ | ⟨tab, tv, hu, rfl, hrow⟩)⟩
    · rw [hpk] at hu; cases hu
    · rw [hpk] at hu
      cases hu
      have hB4 := bel_then hB3 (Nat.le_refl _) hb4
      have heq := equal_lines (by omega) (h.below hB4) hrow
      clear hb2 hb1 hup hb3 hb4
      go_wp2_with fail
      refine heq.mono ?_
      rintro e w5 ⟨rfl, hb5⟩
      have hB5 := bel_then hB4 (Nat.le_refl _) hb5
      clear hB3 hB4 heq hrow hT hb5
      go_wp2_with fail
      refine (hU _ hB5).mono ?_
      rintro e w6 ⟨hb6, (⟨hu, rfl⟩ | ⟨tab, tv, hu, rfl, hrow⟩)⟩
      · have hB6 := bel_then hB5 (Nat.le_refl _) hb6
        go_wp2
        go_ret
        exact ⟨rfl, hB6⟩
      · have hB6 := bel_then hB5 (Nat.le_refl _) hb6
        obtain ⟨hto, hle⟩ := hsh _ hu
        obtain ⟨ta, tc, rfl⟩ := rows_slice hrow
        have ht4 := hto.1
        have hto := Lib.hid hto
        go_wp2_with fail
        refine (pack_c hrow (by omega)).mono ?_
        rintro e w7 ⟨hb7, (⟨hno, rfl⟩ | ⟨-, v2, rfl, hown2⟩)⟩
        · exact absurd hto.out hno
        · have hB7 := bel_then hB6 (Nat.le_refl _) hb7
          obtain ⟨va, vc, rfl⟩ := row_form hown2
          have hle2 : ((packL default tab).length : Int) ≤ (n : Int) := by omega
          go_wp2
          go_ret
          exact ⟨rfl, hB7⟩
end Go.Ev

