import Derived.Test.YtepopmplcjhfbaaGreatObHk1
import Derived.Maps.OwnSet
import Derived.Maps.Views
import Derived.Deep.LoopGhost
set_option linter.unusedSectionVars false
set_option linter.unusedVariables false
set_option linter.unusedSimpArgs false
set_option linter.unnecessarySimpa false
/-
  Stage 3: names that differ: the program's map of indices.
-/
namespace Go.Ev
open Go.RowKit Go.Proofs Go.Rw Go.Maps Go.WideMaps
def keyL (s : ByteArray) : Lit := .string s.data.toList
theorem keyL_inj {s t : ByteArray} (h : keyL s = keyL t) : s = t := by
  unfold keyL at h
  injection h with h
  cases s with
  | mk a => cases t with
    | mk b =>
      cases a with
      | mk x => cases b with
        | mk y => simp at h; subst h; rfl
theorem lawK : Keyed Tryz.prog 9 := string_keyed Tryz.underlying9
theorem key_of (s : ByteArray) (h : s.size ≤ 140737488351232) : keyOf Tryz.prog 9 (.string s) = some (keyL s) := keyOf_string_mk Tryz.underlying9 (by unfold maxLen; omega)
/-- Block b is the map of the first k names. -/
def MapK (W : World) (b k : Nat) (l : List ByteArray) : Prop := ∃ D : DataW Unit, W.ownsMap Tryz.prog 9 (plainElem Tryz.prog 3) b k D ∧ (∀ s, has D (keyL s) = true ↔ s ∈ l.take k) ∧ size D ≤ k ∧ (size D = k ↔ (l.take k).Nodup)
theorem mapK_step {W : World} {b k : Nat} {l : List ByteArray} {D : DataW Unit} {d : DataW Unit} {s : ByteArray} {W' : World} (h0 : W.ownsMap Tryz.prog 9 (plainElem Tryz.prog 3) b k D) (h1 : ∀ s, has D (keyL s) = true ↔ s ∈ l.take k) (h2 : size D ≤ k) (h3 : size D = k ↔ (l.take k).Nodup)
    (hs : l[k]? = some s) (h : W'.ownsMap Tryz.prog 9 (plainElem Tryz.prog 3) b (k + 1) (D.put (keyL s) d)) : MapK W' b (k + 1) l := by
  have ht := h0.tidy lawK
  have htk : l.take (k + 1) = l.take k ++ [s] := by
    have hk := (List.getElem?_eq_some_iff.1 hs).1
    rw [List.take_add_one, hs]; rfl
  have hsz := size_put (k := keyL s) ht d
  refine ⟨_, h, fun t => ?_, ?_, ?_⟩
  · rw [htk, List.mem_append, List.mem_singleton]
    by_cases e : t = s
    · subst e
      exact iff_of_true (has_put_same ht.isMap (show WideAt.IsKeyLit (keyL t) from trivial) d) (.inr rfl)
    · rw [has_put_other (fun h' => e (keyL_inj h')) d, h1 t]
      simp [e]
  · rw [hsz]; split <;> omega
  · rw [hsz, htk]
    by_cases hm : s ∈ l.take k
    · rw [if_pos ((h1 s).2 hm)]
      constructor
      · intro h; omega
      · intro h
        rw [List.nodup_append] at h
        exact absurd rfl (h.2.2 s hm s (by simp))
    · rw [if_neg (fun h' => hm ((h1 s).1 h'))]
      constructor
      · intro h
        rw [List.nodup_append]
        refine ⟨h3.1 (by omega), by simp, fun a ha b hb => ?_⟩
        rw [List.mem_singleton.1 hb]
        rintro rfl
        exact hm ha
      · intro h
        rw [List.nodup_append] at h
        have := h3.2 h.1
        omega
theorem mapK_new (w : World) (l : List ByteArray) : MapK (w.alloc (.map #[] 0)) w.heap.size 0 l :=
  ⟨_, World.ownsMap_made _ _ _ _, fun s => by simp [has_eq], Nat.le_refl _, by simp [size_eq]⟩
def IdxR (l : List ByteArray) (w : World) (e : Ending) (w' : World) : Prop := e = .returned (.map (some w.heap.size)) ∧ Below w.heap.size w w' ∧ MapK w' w.heap.size l.length l
theorem fname_c (s : ByteArray) (w : World) : Calls Tryz.prog 122 #[.string s] w fun e w' => e = .returned (.string s) ∧ w' = w := by
  go_enter Tryz.func122, Tryz.ntmps122
  go_wp2
  go_ret
  exact ⟨rfl, rfl⟩
theorem enters122 : ∀ args w, (callFunc 122 args).run Tryz.prog w = .ok (.enter 122 args) w := enters_of Tryz.func122 (by kernel_rfl) rfl
theorem wf_i64 {z : Int} (h0 : 0 ≤ z) (h1 : z ≤ 140737488351232) : (Lit.int .i64 z).wf = true := by
  simp [Lit.wf, IntKind.min, IntKind.max, IntKind.signed, IntKind.bits]
  omega
set_option maxRecDepth 100000 in
set_option maxHeartbeats 1000000 in
theorem indices_file {w : World} {s : Value} {l : List ByteArray} (h : RowsAt w s fileCells 1 l) (hr : ∀ x ∈ l, fileR x) (hl : l.length ≤ 140737488351232) : Calls Tryz.prog 212 #[s, .func (.func 122) #[] #[]] w (IdxR l w) := by
  obtain ⟨a, c, rfl⟩ := rows_slice h
  have hmm := @run_makeMap Tryz.prog
  have e122 := enters122
  go_enter Tryz.func212, Tryz.ntmps212
  go_wp2
  go_loopw [11] (fun i wr => ∃ k : Nat, k ≤ l.length ∧ i = .int .i64 k ∧ MapK wr w.heap.size k l ∧ Below w.heap.size w wr) (fun i _ => l.length - (intOf i).toNat)
  case atStart => exact ⟨0, Nat.zero_le _, rfl, mapK_new _ _, (Below.refl _ _).alloc (Nat.le_refl _) _⟩
  case round =>
    obtain ⟨k, hk, rfl, hM, hbl⟩ := hrel
    by_cases hlt : k < l.length
    · obtain ⟨b, of, rfl⟩ := rows_some2 h hlt
      obtain ⟨x, hx⟩ : ∃ x, l[k]? = some x := ⟨l[k], by simp [hlt]⟩
      have g0 := rows_file (h.below hbl) hx
      have hkey := key_of x (hr x (List.mem_of_getElem? hx))
      have hlt' : (k : Int) < (l.length : Int) := by omega
      obtain ⟨D, m0, m1, m2, m3⟩ := hM
      have hx := Lib.hid hx
      have hfc := fun W => fname_c x W
      have m1 := Lib.hid m1
      have m2 := Lib.hid m2
      have m3 := Lib.hid m3
      clear hr h
      go_wp2_with (first
        | (go_at_fn 122; refine (hfc _).mono ?_; rintro e w1 ⟨rfl, rfl⟩)
        | (at_mapUpdate; refine wpList_mapUpdate_own _ rfl _ _ _ 147 rfl 9 3 lawK Tryz.underlying147 _ w.heap.size k _ rfl m0 (by unfold maxLen; omega) _ _ _ rfl rfl hkey _ [] (plainElem_int Tryz.underlying3 (wf_i64 (by omega) (by omega))) ?_; intro w1 hown1 hgrow1))
      have R1 := mapK_step m0 m1.out m2.out m3.out hx.out hown1
      have R2 := hbl.grown hgrow1 hbl.size (fun j hj => by cases hj; exact Nat.le_refl _)
      clear hown1 hgrow1 m0
      go_wp2
      go_roundw
      case rel => exact ⟨k + 1, by omega, by go_num, R1, R2⟩
      case measure => simp [intOf]; omega
    · obtain rfl : k = l.length := by omega
      go_wp2
      go_ret
      exact ⟨rfl, hbl, hM⟩
set_option maxRecDepth 100000 in
set_option maxHeartbeats 1000000 in
theorem differ_file {w : World} {s : Value} {l : List ByteArray} (h : RowsAt w s fileCells 1 l) (hr : ∀ x ∈ l, fileR x) (hl : l.length ≤ 140737488351232) : Calls Tryz.prog 166 #[s, .func (.func 122) #[] #[]] w fun e w' => e = .returned (.bool (dec l.Nodup)) ∧ Below w.heap.size w w' := by
  have hI := indices_file h hr hl
  obtain ⟨r, hr0⟩ : ∃ r, r = dec l.Nodup := ⟨_, rfl⟩
  rw [← hr0]
  have hrr := Lib.hid hr0
  clear hr0
  obtain ⟨a, c, rfl⟩ := rows_slice h
  go_enter Tryz.func166, Tryz.ntmps166
  go_wp2_with fail
  refine hI.mono ?_
  rintro e w1 ⟨rfl, hb1, D, m0, m1, m2, m3⟩
  rw [List.take_length] at m3
  have hlen := m0.len Tryz.underlying147 3
  clear m0 m1 m2
  by_cases hn : l.Nodup
  · have hz := m3.2 hn
    have hr2 := Lib.hid (hrr.out.trans (dec_yes hn))
    have hzb : ((size D : Int) == (l.length : Int)) = true := beq_iff_eq.2 (by omega)
    clear m3 hn hz
    go_wp2
    go_ret
    exact ⟨by rw [hr2.out]; rfl, hb1⟩
  · have hz : ¬ size D = l.length := fun e => hn (m3.1 e)
    have hr2 := Lib.hid (hrr.out.trans (dec_no hn))
    have hzb : ((size D : Int) == (l.length : Int)) = false := beq_eq_false_iff_ne.2 (by omega)
    clear m3 hn hz
    go_wp2
    go_ret
    exact ⟨by rw [hr2.out]; rfl, hb1⟩
end Go.Ev

/-
  Stage 3: files, in the program and in the specification, exactly.
-/
namespace Go.Ev
open Go.RowKit Go.Proofs Go.Rw
def FilesOk (l : List ByteArray) : Prop := l.length ≤ 20 ∧ (∀ x ∈ l, FileOk x) ∧ l.Nodup
def BelR (r : Bool) (w : World) (e : Ending) (w' : World) : Prop := e = .returned (.bool r) ∧ Below w.heap.size w w'
theorem enters165 : ∀ args w, (callFunc 165 args).run Tryz.prog w = .ok (.enter 165 args) w := enters_of Tryz.func165 (by kernel_rfl) rfl
set_option maxRecDepth 100000 in
set_option maxHeartbeats 1000000 in
/-- The program's areFiles. -/
theorem pfiles_c {w : World} {s : Value} {l : List ByteArray} (h : RowsAt w s fileCells 1 l) (hr : ∀ x ∈ l, fileR x) (hl : l.length ≤ 140737488351232) : Calls Tryz.prog 68 #[s] w (BelR (dec (FilesOk l)) w) := by
  have hE := every_file h hl 20 165 #[] enters165 (fun x => dec (FileOk x)) (fun W hW x hx => (pfile_c x (hr x hx)).mono fun e w' hh => ⟨hh.1, by rw [hh.2]; exact Below.refl _ _⟩)
  obtain ⟨r, hr0⟩ : ∃ r, r = dec (FilesOk l) := ⟨_, rfl⟩
  rw [← hr0]
  have hrr := Lib.hid hr0
  clear hr0
  by_cases hc : (l.length : Int) ≤ 20 ∧ ∀ x ∈ l, FileOk x
  · rw [show (decide ((l.length : Int) ≤ 20) && l.all fun x => dec (FileOk x)) = true by
      simp only [Bool.and_eq_true, decide_eq_true_eq, List.all_eq_true]
      exact ⟨hc.1, fun x hx => dec_yes (hc.2 x hx)⟩] at hE
    have hD := fun W (hW : Below w.heap.size w W) => differ_file (h.below hW) hr hl
    have hrt : r = dec l.Nodup := by
      rw [hrr.out]
      unfold dec
      congr 1
      exact propext ⟨fun h => h.2.2, fun h => ⟨by have := hc.1; omega, hc.2, h⟩⟩
    rw [← hrt] at hD
    clear hc hrt h hr
    go_enter Tryz.func68, Tryz.ntmps68
    go_wp2_with fail
    refine hE.mono ?_
    rintro e w1 ⟨rfl, hb1⟩
    go_wp2_with fail
    refine (hD _ hb1).mono ?_
    rintro e w2 ⟨rfl, hb2⟩
    go_wp2
    go_ret
    exact ⟨rfl, bel_then hb1 (Nat.le_refl _) hb2⟩
  · rw [show (decide ((l.length : Int) ≤ 20) && l.all fun x => dec (FileOk x)) = false by
      rw [← Bool.not_eq_true]
      simp only [Bool.and_eq_true, decide_eq_true_eq, List.all_eq_true]
      exact fun h => hc ⟨h.1, fun x hx => dec_iff.1 (h.2 x hx)⟩] at hE
    have hrt := Lib.hid (show r = false by
      rw [hrr.out]
      exact dec_no fun h => hc ⟨by have := h.1; omega, h.2.1⟩)
    clear hc h hr
    go_enter Tryz.func68, Tryz.ntmps68
    go_wp2_with fail
    refine hE.mono ?_
    rintro e w1 ⟨rfl, hb1⟩
    go_wp2
    go_ret
    exact ⟨by rw [hrt.out]; rfl, hb1⟩
end Go.Ev

/-
  Stage 3: the specification's files, exactly.
-/
namespace Go.Ev
open Go.RowKit Go.Proofs Go.Rw
theorem bytes_ne {x y : ByteArray} (e : ¬ y = x) : (y.toList == x.toList) = false := beq_eq_false_iff_ne.2 (fun h => e (Go.WideShapes.bytes_inj (by rw [← ByteArray.toList_eq, ← ByteArray.toList_eq, h])))
theorem nodup_snoc {l : List ByteArray} {k : Nat} {x : ByteArray} (hx : l[k]? = some x) (hn : (l.take k).Nodup) (hd : ∀ j y, j < k → l[j]? = some y → y ≠ x) : (l.take (k + 1)).Nodup := by
  have hk := (List.getElem?_eq_some_iff.1 hx).1
  rw [show l.take (k + 1) = l.take k ++ [x] by rw [List.take_add_one, hx]; rfl, List.nodup_append]
  refine ⟨hn, by simp, fun a ha b hb => ?_⟩
  rw [List.mem_singleton.1 hb]
  obtain ⟨j, hj⟩ := List.getElem?_of_mem ha
  have hjl := (List.getElem?_eq_some_iff.1 hj).1
  rw [List.length_take] at hjl
  rw [List.getElem?_take_of_lt (by omega)] at hj
  exact hd j a (by omega) hj
theorem nodup_not {l : List ByteArray} {j k : Nat} {x : ByteArray} (hx : l[k]? = some x) (hy : l[j]? = some x) (hjk : j < k) : ¬ l.Nodup := fun h => by
  have h1 := (List.getElem?_eq_some_iff.1 hx).1
  have h2 := (List.getElem?_eq_some_iff.1 hy).1
  exact List.pairwise_iff_getElem.1 h j k h2 h1 hjk (by rw [(List.getElem?_eq_some_iff.1 hy).2, (List.getElem?_eq_some_iff.1 hx).2])
set_option maxRecDepth 100000 in
set_option maxHeartbeats 2000000 in
/-- The specification's files. -/
theorem rfiles_c {w : World} {s : Value} {l : List ByteArray} (h : RowsAt w s fileCells 1 l) (hr : ∀ x ∈ l, fileR x) (hl : l.length ≤ 140737488351232) : Calls Tryz.prog 138 #[s] w (BelR (dec (FilesOk l)) w) := by
  obtain ⟨a, c, rfl⟩ := rows_slice h
  obtain ⟨r, hr0⟩ : ∃ r, r = dec (FilesOk l) := ⟨_, rfl⟩
  rw [← hr0]
  have hrr := Lib.hid hr0
  clear hr0
  by_cases h20 : l.length ≤ 20
  · have h20' : (l.length : Int) ≤ 20 := by omega
    go_enter Tryz.func138, Tryz.ntmps138
    go_wp2
    go_loopw [3] (fun i wr => ∃ k : Nat, k ≤ l.length ∧ i = .int .i64 k ∧ Below w.heap.size w wr ∧ (∀ j x, j < k → l[j]? = some x → FileOk x) ∧ (l.take k).Nodup) (fun i _ => l.length - (intOf i).toNat)
    case atStart => exact ⟨0, by omega, rfl, Below.refl _ _, fun j x hj => by omega, by simp⟩
    case round =>
      obtain ⟨k, hk, rfl, hbl, hA, hN⟩ := hrel
      have hA := Lib.hid hA
      have hN := Lib.hid hN
      by_cases hlt : k < l.length
      · obtain ⟨b, o, rfl⟩ := rows_some2 h hlt
        obtain ⟨x, hx⟩ : ∃ x, l[k]? = some x := ⟨l[k], by simp [hlt]⟩
        have g := rows_file (h.below hbl) hx
        have hxr := hr x (List.mem_of_getElem? hx)
        have hxH := Lib.hid hx
        by_cases hf : FileOk x
        · have hC := fun (W : World) => (rfile_c (w := W) x hxr).mono (fun e w' hh => (⟨by rw [hh.1, dec_yes hf], hh.2⟩ : e = .returned (.bool true) ∧ w' = W))
          have hf := Lib.hid hf
          clear hx
          go_wp2_with fail
          refine (hC _).mono ?_
          rintro e w1 ⟨rfl, rfl⟩
          have hb2 := hbl
          clear hbl g
          go_wp2
          obtain ⟨wo, rfl⟩ : ∃ wo : World, wo = w1 := ⟨_, rfl⟩
          go_loopg [4] k (fun gn i wr => ∃ j : Nat, gn + j = k ∧ j ≤ k ∧ i = .int .i64 j ∧ Below w.heap.size w wr ∧ (∀ j' y, j' < j → l[j']? = some y → y ≠ x))
          case atStart => exact ⟨0, by omega, by omega, rfl, hb2, fun j' y hj' => by omega⟩
          case round =>
            obtain ⟨j, hgk, hj, rfl, hbl, hD⟩ := hrel
            have hD := Lib.hid hD
            by_cases hjk : j < k
            · obtain ⟨y, hy⟩ : ∃ y, l[j]? = some y := ⟨l[j], by simp [Nat.lt_trans hjk hlt]⟩
              have g1 := rows_file (h.below hbl) hxH.out
              have g2 := rows_file (h.below hbl) hy
              have hj' : (j : Int) < (l.length : Int) := by omega
              have hk' : (k : Int) < (l.length : Int) := by omega
              have hyH := Lib.hid hy
              clear hy
              by_cases e : y = x
              · subst e
                have hno := Lib.hid (show r = false by rw [hrr.out]; exact dec_no fun h => nodup_not hxH.out hyH.out hjk h.2.2)
                go_wp2
                go_quiet (fail)
                go_wp2
                go_ret
                exact ⟨by rw [hno.out]; rfl, below_drewN hbl _⟩
              · have eH := Lib.hid e
                have e2 := bytes_ne e
                go_wp2
                go_quiet (fail)
                go_wp2
                go_roundg (gk - 1)
                case measure => omega
                case rel =>
                  refine ⟨j + 1, by omega, by omega, by go_num, below_drewN hbl _, fun j' z hj' hz => ?_⟩
                  by_cases e' : j' < j
                  · exact hD.out j' z e' hz
                  · obtain rfl : j' = j := by omega
                    rw [hyH.out] at hz
                    cases hz
                    exact eH.out
            · obtain rfl : j = k := by omega
              have hN2 := Lib.hid (nodup_snoc hxH.out hN.out hD.out)
              have hA2 := Lib.hid (show ∀ j' z, j' < j + 1 → l[j']? = some z → FileOk z from fun j' z hj' hz => by
                by_cases e' : j' < j
                · exact hA.out j' z e' hz
                · obtain rfl : j' = j := by omega
                  rw [hxH.out] at hz
                  cases hz
                  exact hf.out)
              go_wp2
              go_roundw
              case rel => exact ⟨j + 1, by omega, by go_num, hbl, hA2.out, hN2.out⟩
              case measure => simp [intOf]; omega
        · have hC := fun (W : World) => (rfile_c (w := W) x hxr).mono (fun e w' hh => (⟨by rw [hh.1, dec_no hf], hh.2⟩ : e = .returned (.bool false) ∧ w' = W))
          have hno := Lib.hid (show r = false by rw [hrr.out]; exact dec_no fun h => hf (h.2.1 x (List.mem_of_getElem? hx)))
          clear hx hf
          go_wp2_with fail
          refine (hC _).mono ?_
          rintro e w1 ⟨rfl, rfl⟩
          go_wp2
          go_ret
          exact ⟨by rw [hno.out]; rfl, hbl⟩
      · obtain rfl : k = l.length := by omega
        have hyes := Lib.hid (show r = true by
          rw [hrr.out]
          refine dec_yes ⟨h20, fun x hx => ?_, by have := hN.out; rwa [List.take_length] at this⟩
          obtain ⟨j, hj⟩ := List.getElem?_of_mem hx
          exact hA.out j x (List.getElem?_eq_some_iff.1 hj).1 hj)
        go_wp2
        go_ret
        exact ⟨by rw [hyes.out]; rfl, hbl⟩
  · have h20' : ¬ (l.length : Int) ≤ 20 := by omega
    have hno := Lib.hid (show r = false by rw [hrr.out]; exact dec_no fun h => h20 h.1)
    go_enter Tryz.func138, Tryz.ntmps138
    go_wp2
    go_ret
    exact ⟨by rw [hno.out]; rfl, Below.refl _ _⟩
end Go.Ev

