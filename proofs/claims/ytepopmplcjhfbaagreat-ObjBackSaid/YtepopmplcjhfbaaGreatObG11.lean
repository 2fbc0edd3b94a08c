import Derived.Test.YtepopmplcjhfbaaGreatObG10
import Derived.Test.YtepopmplcjhfbaaGreatObG03
import Derived.Test.YtepopmplcjhfbaaGreatObG00
import Derived.Lib.SmallJoins
import Derived.WalkKit
import Derived.ProofKit
import Derived.OpenShut
import Derived.Carry
import Derived.HandedShaped
import Derived.Lay
import Derived.SevenTiedAt
import Derived.SizedLaws
import Derived.ChangeSlices
import Derived.Test.YtepopmplcjhfbaaGreatObG08
import Derived.Deep.LoopGhost
import Derived.Test.YtepopmplcjhfbaaGreatObG06
import Derived.Test.YtepopmplcjhfbaaGreatObG01
import Derived.Lib.QuietBelow
import Derived.Test.YtepopmplcjhfbaaGreatObG07
import Derived.Test.YtepopmplcjhfbaaGreatObG05
import Derived.Test.YtepopmplcjhfbaaGreatObG09
set_option linter.unusedSectionVars false
set_option linter.unusedVariables false
set_option linter.unusedSimpArgs false
set_option linter.unnecessarySimpa false
namespace Go.Ev
open Go.RowKit Go.Proofs Go.Rw
def listL {α : Type} (f : α → List Int) (l : List α) : List Int := numL l.length ++ l.flatMap f
theorem flat_take_le {α : Type} (f : α → List Int) (l : List α) (k : Nat) : ((l.take k).flatMap f).length ≤ (l.flatMap f).length := by
  conv => rhs; rw [← List.take_append_drop k l, List.flatMap_append, List.length_append]
  omega
theorem strOf_foldl : ∀ (l : List Int) (r : ByteArray), (l.foldl (fun r n => r.push (UInt8.ofNat n.toNat)) r).data.toList = r.data.toList ++ l.map fun n => UInt8.ofNat n.toNat
  | [], r => by simp
  | z :: l, r => by
    simp only [List.foldl_cons]
    rw [strOf_foldl l]
    simp [ByteArray.push]
theorem strI_strOf (n : Nat) (q : Nat → Int) (hq : ∀ j, InB (q j)) : strI (strOf n q) = (List.range n).map q := by
  unfold strI strOf
  rw [strOf_foldl]
  simp only [List.map_append, List.map_map]
  rw [show ByteArray.empty.data.toList = [] from rfl]
  simp only [List.map_nil, List.nil_append]
  refine List.map_congr_left fun j _ => ?_
  obtain ⟨h0, h1⟩ := hq j
  simp only [Function.comp]
  have : (UInt8.ofNat (q j).toNat).toNat = (q j).toNat := by
    simp
    omega
  rw [this]
  omega
theorem srcB_of {w : World} {a : Option Addr} {n : Nat} {B : ByteArray} (h : SecIn w a n B) : SrcB w a n (strI B) := by
  rcases h with ⟨rfl, rfl⟩ | ⟨b, o, q, rfl, rfl, hq, hc⟩
  · have e : strI (strOf 0 fun _ => 0) = [] := by rw [strI_strOf 0 _ (fun _ => ⟨by omega, by omega⟩)]; rfl
    rw [e]
    exact ⟨rfl, fun y hy => (by cases hy), fun _ => rfl, fun ad _ j u hj => by simp [byL] at hj⟩
  · rw [strI_strOf n q hq]
    refine ⟨by simp, fun y hy => ?_, fun h => (by cases h), fun ad ha j u hj => ?_⟩
    · obtain ⟨j, _, rfl⟩ := List.mem_map.1 hy
      exact hq j
    · cases ha
      rw [cell_add]
      unfold byL at hj
      rw [List.map_map] at hj
      have hjn : j < n := by have := (List.getElem?_eq_some_iff.1 hj).1; simpa using this
      rw [List.getElem?_map, List.getElem?_range hjn] at hj
      cases hj
      exact hc j hjn
theorem secIn_low {w : World} {a : Option Addr} {n : Nat} {B : ByteArray} (h : SecIn w a n B) {ad : Addr} (ha : a = some ad) (hp : 0 < n) : ad.block < w.heap.size := by
  rcases h with ⟨rfl, _⟩ | ⟨b, o, q, h1, _, _, hc⟩
  · omega
  · rw [h1] at ha
    cases ha
    exact low_of_cell (hc 0 hp)
def secL2 (C : SecT → ByteArray) (x : SecT) : List Int := secL x (C x)
set_option maxRecDepth 100000 in
set_option maxHeartbeats 4000000 in
theorem wlist_sec {W0 w : World} {g : Nat} {ob : Option Nat} {xs : List Value} {s : Value} {l : List SecT} (hB : Below W0.heap.size W0 w) (hg : W0.heap.size ≤ g) (h : WrS w W0.heap.size g ob xs) (hr : RowsAt W0 s SecT.cells 5 l) (hl : l.length ≤ 4000) {C : SecT → ByteArray} (hx : ∀ x ∈ l, SecOk x ∧ SecIn W0 x.ba x.bn (C x) ∧ x.bn ≤ 65536 ∧ x.name.size ≤ 1000) (hn : xs.length + (l.flatMap (secL2 C)).length ≤ 2900000) :
    Calls Tryz.prog 77 #[.pointer (some ⟨g, 0, none⟩), s, .func (.func 78) #[] #[]] w (WrR W0.heap.size g ob (xs ++ byL (listL (secL2 C) l)) w) := by
  obtain ⟨a, c, rfl⟩ := rows_slice hr
  have ecb : ∀ args w, (callFunc 78 args).run Tryz.prog w = .ok (.enter 78 args) w := enters_of Tryz.func78 (by kernel_rfl) rfl
  have hnum := number_c h hB.size (by omega) (n := l.length) (by omega)
  have hn9 := numL_len9 l.length (by omega)
  have hlt := h.lt
  clear h
  go_enter Tryz.func77, Tryz.ntmps77
  go_wp2_with (go_at_call 170; refine hnum.mono ?_; rintro e w1 ⟨rfl, ob1, hW1, hS1⟩; have hW1 := Lib.hid hW1)
  go_loopg [14] l.length (fun gn i wr => ∃ (k : Nat) (ob' : Option Nat), gn + k = l.length ∧ k ≤ l.length ∧ i = .int .i64 k ∧ WrS wr W0.heap.size g ob' (xs ++ byL (numL l.length ++ (l.take k).flatMap (secL2 C))) ∧ Wst w wr g ob ob')
  case atStart => exact ⟨0, ob1, by omega, by omega, rfl, by simpa using hW1.out, hS1⟩
  case round =>
    clear hW1 hS1
    obtain ⟨k, ob', hgk, hk, rfl, hW0, hS⟩ := hrel
    have hW := Lib.hid hW0
    have hlt2 := hW0.lt
    clear hW0
    have hbb : Below W0.heap.size W0 wr := hB.trans (hS.below hB.size hg (fun k e => (hlt.2 k e).1))
    have hbs := hbb.size
    by_cases hlt' : k < l.length
    · obtain ⟨b, of, rfl⟩ := rows_some2 hr hlt'
      have hlt1 : (k : Int) < (l.length : Int) := by omega
      obtain ⟨x, hx1⟩ : ∃ x, l[k]? = some x := ⟨l[k], by simp [hlt']⟩
      have hcond := hx x (List.mem_of_getElem? hx1)
      have htk := Lib.hid (show (l.take (k + 1)).flatMap (secL2 C) = (l.take k).flatMap (secL2 C) ++ secL x (C x) by rw [take_snoc hx1, List.flatMap_append]; simp [secL2])
      have hln := flat_take_le (secL2 C) l k
      have hlen : (xs ++ byL (numL l.length ++ (l.take k).flatMap (secL2 C))).length ≤ 3000000 := by
        rw [byL_length] at hn9
        rw [List.length_append, byL_length, List.length_append]
        omega
      obtain ⟨p0, p1, p2, p3, p4⟩ := rows_sec (hr.below hbb) hx1
      obtain ⟨q1, q2, q3, q4⟩ := id hcond
      have hcall := wsec_c (w := wr.alloc (.cells #[.string x.name, .int .i64 x.rights, .int .i64 x.align, .slice x.ba x.bn x.bc, .int .i64 x.zero] 66)) x (C x) (hW.out.alloc _) (by rw [World.size_alloc]; omega) hlen hg q1 (srcB_of ((q2.below hbb).below (one_below _ _))) (fun ad ha hp => secIn_low q2 ha hp) q3 q4
      have hcall := Lib.hid hcall
      clear hx hx1 hr hcond
      obtain ⟨xn, xr, xa, xb, xl, xc, xz⟩ := x
      dsimp only at p0 p1 p2 p3 p4 hcall htk
      go_wp2_with (go_at_fn 78; refine hcall.out.mono ?_; rintro e w2 ⟨rfl, ob2, hW2, hS2⟩; have hW2 := Lib.hid hW2)
      have hS3 := (hS.alloc _).trans hS2
      go_roundg (gk - 1)
      case measure => omega
      case rel =>
        refine ⟨k + 1, ob2, by omega, by omega, by go_num, ?_, hS3⟩
        have := hW2.out
        rw [List.append_assoc, ← byL_append, List.append_assoc, ← htk.out] at this
        exact this
    · obtain rfl : k = l.length := by omega
      rw [List.take_length] at hW
      go_wp2
      refine bodyPost_end (results_none rfl _ _ _) rfl ?_
      exact ⟨rfl, ob', hW.out, hS⟩
set_option maxRecDepth 100000 in
set_option maxHeartbeats 4000000 in
theorem wlist_sym {W0 w : World} {g : Nat} {ob : Option Nat} {xs : List Value} {s : Value} {l : List SymT} (hB : Below W0.heap.size W0 w) (hg : W0.heap.size ≤ g) (h : WrS w W0.heap.size g ob xs) (hr : RowsAt W0 s SymT.cells 6 l) (hl : l.length ≤ 4000) (hx : ∀ x ∈ l, ((-1000000000 ≤ x.sec ∧ x.sec ≤ 1000000000) ∧ (0 ≤ x.val ∧ x.val ≤ 4294967295) ∧ (0 ≤ x.size ∧ x.size ≤ 4294967295) ∧ (0 ≤ x.bind ∧ x.bind ≤ 2) ∧ (0 ≤ x.kind ∧ x.kind ≤ 2)) ∧ x.name.size ≤ 1000) (hn : xs.length + (l.flatMap symL).length ≤ 2900000) :
    Calls Tryz.prog 79 #[.pointer (some ⟨g, 0, none⟩), s, .func (.func 80) #[] #[]] w (WrR W0.heap.size g ob (xs ++ byL (listL symL l)) w) := by
  obtain ⟨a, c, rfl⟩ := rows_slice hr
  have ecb : ∀ args w, (callFunc 80 args).run Tryz.prog w = .ok (.enter 80 args) w := enters_of Tryz.func80 (by kernel_rfl) rfl
  have hnum := number_c h hB.size (by omega) (n := l.length) (by omega)
  have hn9 := numL_len9 l.length (by omega)
  have hlt := h.lt
  clear h
  go_enter Tryz.func79, Tryz.ntmps79
  go_wp2_with (go_at_call 170; refine hnum.mono ?_; rintro e w1 ⟨rfl, ob1, hW1, hS1⟩; have hW1 := Lib.hid hW1)
  go_loopg [14] l.length (fun gn i wr => ∃ (k : Nat) (ob' : Option Nat), gn + k = l.length ∧ k ≤ l.length ∧ i = .int .i64 k ∧ WrS wr W0.heap.size g ob' (xs ++ byL (numL l.length ++ (l.take k).flatMap symL)) ∧ Wst w wr g ob ob')
  case atStart => exact ⟨0, ob1, by omega, by omega, rfl, by simpa using hW1.out, hS1⟩
  case round =>
    clear hW1 hS1
    obtain ⟨k, ob', hgk, hk, rfl, hW0, hS⟩ := hrel
    have hW := Lib.hid hW0
    have hlt2 := hW0.lt
    clear hW0
    have hbb : Below W0.heap.size W0 wr := hB.trans (hS.below hB.size hg (fun k e => (hlt.2 k e).1))
    have hbs := hbb.size
    by_cases hlt' : k < l.length
    · obtain ⟨b, of, rfl⟩ := rows_some2 hr hlt'
      have hlt1 : (k : Int) < (l.length : Int) := by omega
      obtain ⟨x, hx1⟩ : ∃ x, l[k]? = some x := ⟨l[k], by simp [hlt']⟩
      have hcond := hx x (List.mem_of_getElem? hx1)
      have htk := Lib.hid (show (l.take (k + 1)).flatMap symL = (l.take k).flatMap symL ++ symL x by rw [take_snoc hx1, List.flatMap_append]; simp [secL2])
      have hln := flat_take_le symL l k
      have hlen : (xs ++ byL (numL l.length ++ (l.take k).flatMap symL)).length ≤ 3000000 := by
        rw [byL_length] at hn9
        rw [List.length_append, byL_length, List.length_append]
        omega
      obtain ⟨p0, p1, p2, p3, p4, p5⟩ := rows_sym (hr.below hbb) hx1
      have hcall := wsym_c (w := wr.alloc (.cells #[.string x.name, .int .i64 x.sec, .int .u32 x.val, .int .i64 x.size, .int .i64 x.bind, .int .i64 x.kind] 68)) x (hW.out.alloc _) (by rw [World.size_alloc]; omega) hlen hcond.1 hcond.2
      have hcall := Lib.hid hcall
      clear hx hx1 hr hcond
      obtain ⟨xn, xs1, xv, xz, xb, xk⟩ := x
      dsimp only at p0 p1 p2 p3 p4 hcall htk p5
      go_wp2_with (go_at_fn 80; refine hcall.out.mono ?_; rintro e w2 ⟨rfl, ob2, hW2, hS2⟩; have hW2 := Lib.hid hW2)
      have hS3 := (hS.alloc _).trans hS2
      go_roundg (gk - 1)
      case measure => omega
      case rel =>
        refine ⟨k + 1, ob2, by omega, by omega, by go_num, ?_, hS3⟩
        have := hW2.out
        rw [List.append_assoc, ← byL_append, List.append_assoc, ← htk.out] at this
        exact this
    · obtain rfl : k = l.length := by omega
      rw [List.take_length] at hW
      go_wp2
      refine bodyPost_end (results_none rfl _ _ _) rfl ?_
      exact ⟨rfl, ob', hW.out, hS⟩
set_option maxRecDepth 100000 in
set_option maxHeartbeats 4000000 in
theorem wlist_rel {W0 w : World} {g : Nat} {ob : Option Nat} {xs : List Value} {s : Value} {l : List RelT} (hB : Below W0.heap.size W0 w) (hg : W0.heap.size ≤ g) (h : WrS w W0.heap.size g ob xs) (hr : RowsAt W0 s RelT.cells 5 l) (hl : l.length ≤ 4000) (hx : ∀ x ∈ l, (0 ≤ x.sec ∧ x.sec ≤ 1000000000) ∧ (0 ≤ x.off ∧ x.off ≤ 1000000000) ∧ (0 ≤ x.kind ∧ x.kind ≤ 1000000000) ∧ (0 ≤ x.sym ∧ x.sym ≤ 1000000000) ∧ (-2147483648 ≤ x.add ∧ x.add ≤ 2147483647)) (hn : xs.length + (l.flatMap relL).length ≤ 2900000) :
    Calls Tryz.prog 81 #[.pointer (some ⟨g, 0, none⟩), s, .func (.func 82) #[] #[]] w (WrR W0.heap.size g ob (xs ++ byL (listL relL l)) w) := by
  obtain ⟨a, c, rfl⟩ := rows_slice hr
  have ecb : ∀ args w, (callFunc 82 args).run Tryz.prog w = .ok (.enter 82 args) w := enters_of Tryz.func82 (by kernel_rfl) rfl
  have hnum := number_c h hB.size (by omega) (n := l.length) (by omega)
  have hn9 := numL_len9 l.length (by omega)
  have hlt := h.lt
  clear h
  go_enter Tryz.func81, Tryz.ntmps81
  go_wp2_with (go_at_call 170; refine hnum.mono ?_; rintro e w1 ⟨rfl, ob1, hW1, hS1⟩; have hW1 := Lib.hid hW1)
  go_loopg [14] l.length (fun gn i wr => ∃ (k : Nat) (ob' : Option Nat), gn + k = l.length ∧ k ≤ l.length ∧ i = .int .i64 k ∧ WrS wr W0.heap.size g ob' (xs ++ byL (numL l.length ++ (l.take k).flatMap relL)) ∧ Wst w wr g ob ob')
  case atStart => exact ⟨0, ob1, by omega, by omega, rfl, by simpa using hW1.out, hS1⟩
  case round =>
    clear hW1 hS1
    obtain ⟨k, ob', hgk, hk, rfl, hW0, hS⟩ := hrel
    have hW := Lib.hid hW0
    have hlt2 := hW0.lt
    clear hW0
    have hbb : Below W0.heap.size W0 wr := hB.trans (hS.below hB.size hg (fun k e => (hlt.2 k e).1))
    have hbs := hbb.size
    by_cases hlt' : k < l.length
    · obtain ⟨b, of, rfl⟩ := rows_some2 hr hlt'
      have hlt1 : (k : Int) < (l.length : Int) := by omega
      obtain ⟨x, hx1⟩ : ∃ x, l[k]? = some x := ⟨l[k], by simp [hlt']⟩
      have hcond := hx x (List.mem_of_getElem? hx1)
      have htk := Lib.hid (show (l.take (k + 1)).flatMap relL = (l.take k).flatMap relL ++ relL x by rw [take_snoc hx1, List.flatMap_append]; simp [secL2])
      have hln := flat_take_le relL l k
      have hlen : (xs ++ byL (numL l.length ++ (l.take k).flatMap relL)).length ≤ 3000000 := by
        rw [byL_length] at hn9
        rw [List.length_append, byL_length, List.length_append]
        omega
      obtain ⟨p0, p1, p2, p3, p4⟩ := rows_rel (hr.below hbb) hx1
      have hcall := wrel_c (w := wr.alloc (.cells #[.int .i64 x.sec, .int .i64 x.off, .int .i64 x.kind, .int .i64 x.sym, .int .i64 x.add] 94)) x (hW.out.alloc _) (by rw [World.size_alloc]; omega) hlen hcond
      have hcall := Lib.hid hcall
      clear hx hx1 hr hcond
      obtain ⟨xs1, xo, xk, xy, xa⟩ := x
      dsimp only at p0 p1 p2 p3 p4 hcall htk
      go_wp2_with (go_at_fn 82; refine hcall.out.mono ?_; rintro e w2 ⟨rfl, ob2, hW2, hS2⟩; have hW2 := Lib.hid hW2)
      have hS3 := (hS.alloc _).trans hS2
      go_roundg (gk - 1)
      case measure => omega
      case rel =>
        refine ⟨k + 1, ob2, by omega, by omega, by go_num, ?_, hS3⟩
        have := hW2.out
        rw [List.append_assoc, ← byL_append, List.append_assoc, ← htk.out] at this
        exact this
    · obtain rfl : k = l.length := by omega
      rw [List.take_length] at hW
      go_wp2
      refine bodyPost_end (results_none rfl _ _ _) rfl ?_
      exact ⟨rfl, ob', hW.out, hS⟩
set_option maxRecDepth 100000 in
set_option maxHeartbeats 4000000 in
theorem wlist_file {W0 w : World} {g : Nat} {ob : Option Nat} {xs : List Value} {s : Value} {l : List ByteArray} (hB : Below W0.heap.size W0 w) (hg : W0.heap.size ≤ g) (h : WrS w W0.heap.size g ob xs) (hr : RowsAt W0 s fileCells 1 l) (hl : l.length ≤ 4000) (hx : ∀ x ∈ l, x.size ≤ 1000) (hn : xs.length + (l.flatMap textL).length ≤ 2900000) :
    Calls Tryz.prog 83 #[.pointer (some ⟨g, 0, none⟩), s, .func (.func 84) #[] #[]] w (WrR W0.heap.size g ob (xs ++ byL (listL textL l)) w) := by
  obtain ⟨a, c, rfl⟩ := rows_slice hr
  have ecb : ∀ args w, (callFunc 84 args).run Tryz.prog w = .ok (.enter 84 args) w := enters_of Tryz.func84 (by kernel_rfl) rfl
  have hnum := number_c h hB.size (by omega) (n := l.length) (by omega)
  have hn9 := numL_len9 l.length (by omega)
  have hlt := h.lt
  clear h
  go_enter Tryz.func83, Tryz.ntmps83
  go_wp2_with (go_at_call 170; refine hnum.mono ?_; rintro e w1 ⟨rfl, ob1, hW1, hS1⟩; have hW1 := Lib.hid hW1)
  go_loopg [14] l.length (fun gn i wr => ∃ (k : Nat) (ob' : Option Nat), gn + k = l.length ∧ k ≤ l.length ∧ i = .int .i64 k ∧ WrS wr W0.heap.size g ob' (xs ++ byL (numL l.length ++ (l.take k).flatMap textL)) ∧ Wst w wr g ob ob')
  case atStart => exact ⟨0, ob1, by omega, by omega, rfl, by simpa using hW1.out, hS1⟩
  case round =>
    clear hW1 hS1
    obtain ⟨k, ob', hgk, hk, rfl, hW0, hS⟩ := hrel
    have hW := Lib.hid hW0
    have hlt2 := hW0.lt
    clear hW0
    have hbb : Below W0.heap.size W0 wr := hB.trans (hS.below hB.size hg (fun k e => (hlt.2 k e).1))
    have hbs := hbb.size
    by_cases hlt' : k < l.length
    · obtain ⟨b, of, rfl⟩ := rows_some2 hr hlt'
      have hlt1 : (k : Int) < (l.length : Int) := by omega
      obtain ⟨x, hx1⟩ : ∃ x, l[k]? = some x := ⟨l[k], by simp [hlt']⟩
      have hcond := hx x (List.mem_of_getElem? hx1)
      have htk := Lib.hid (show (l.take (k + 1)).flatMap textL = (l.take k).flatMap textL ++ textL x by rw [take_snoc hx1, List.flatMap_append]; simp [secL2])
      have hln := flat_take_le textL l k
      have hlen : (xs ++ byL (numL l.length ++ (l.take k).flatMap textL)).length ≤ 3000000 := by
        rw [byL_length] at hn9
        rw [List.length_append, byL_length, List.length_append]
        omega
      have p0 := rows_file (hr.below hbb) hx1
      have hcall := Lib.hid (text_c (w := wr) x hW.out hbs (by omega) (by omega))
      clear hx hx1 hr hcond
      go_wp2_with (go_at_fn 84; refine hcall.out.mono ?_; rintro e w2 ⟨rfl, ob2, hW2, hS2⟩; have hW2 := Lib.hid hW2)
      have hS3 := hS.trans hS2
      go_roundg (gk - 1)
      case measure => omega
      case rel =>
        refine ⟨k + 1, ob2, by omega, by omega, by go_num, ?_, hS3⟩
        have := hW2.out
        rw [List.append_assoc, ← byL_append, List.append_assoc, ← htk.out] at this
        exact this
    · obtain rfl : k = l.length := by omega
      rw [List.take_length] at hW
      go_wp2
      refine bodyPost_end (results_none rfl _ _ _) rfl ?_
      exact ⟨rfl, ob', hW.out, hS⟩
end Go.Ev

namespace Go.Ev
open Go.ChangeShapes Go.WideShapes Go.ChangeAt Go.RowKit Go.Proofs
theorem cells5 : Tryz.prog.cellsOf 5 = 1 := by kernel_rfl
theorem laidOutT : laidOutB Tryz.prog = true := by kernel_rfl
theorem ownT : ownKnob Tryz.prog.godebug = none := by kernel_rfl
theorem handed_and_sized {H : Type} {enc : TypeId × Value → H} {a : Assume} {C : Checked} {os : Os} {f : FuncId} {fn : Func} {s : ChangeSpec} {conds : List PathCond} {apart fresh handsOn again : Bool}
    (own : ownKnob C.prog.godebug = none) (started : os.Started) (noInit : C.prog.inits.idxOf? f = none) (hfn : C.prog.funcs[f]? = some fn)
    (witness : ∃ (w : World) (tape : Tape) (i : Input), w.os = os ∧ (w.forCall tape i).Shaped C.prog ∧ i.vars = [] ∧ Input.okWide C.prog (w.forCall tape i) .any w.heap.size f i ∧
      ((s.pre enc C.prog fn conds apart (w.forCall tape i).memory i.args ∧ True) ∧ sizedMet enc C.prog fn (OpenSpec.ofChange s) apart (w.forCall tape i).memory i.args) ∧ a.holds C.prog (lone (Frame.enter C.prog f i.args .normal) [] (w.forCall tape i)))
    (contract : ∀ (W : World) (base : Nat) (args : Array Value) (ds gs : List (DataW H)) (before : List MemPlace),
      (∀ (j : Nat) t v, fn.params[j]? = some t → args[j]? = some v → Value.okWide C.prog W .any base t v) →
      DataW.Whole enc C.prog fn.params.toList s.vars apart W args.toList ds gs before → W.ShapedOpen C.prog →
      (DataW.weightsEach C.prog (fn.params.toList ++ s.plain.varTypes C.prog) (ds ++ gs)).all (· ≤ reachBytes) = true →
      Calls C.prog f args W fun e W' => ∃ v, e = .returned v ∧ s.post enc C.prog fn apart fresh handsOn again W args v W') :
    ReturnsInHanded a C os f .any (s.pre6 enc C.prog fn conds apart) (s.post enc C.prog fn apart fresh handsOn again) := by
  refine returnsInHanded_of_calls own started noInit (by obtain ⟨w, tape, i, h1, h2, h3, h4, ⟨⟨h5, _⟩, h6⟩, h7⟩ := witness; exact ⟨w, tape, i, h1, h2, h3, h4, ⟨h5, h6⟩, h7⟩) ?_
  intro w tape i _ hsh _ hok hpre hholds
  obtain ⟨_, _, _, fn', hfn', _, _, _, _, hval⟩ := hok
  have e : fn' = fn := Option.some.inj (hfn'.symm.trans hfn)
  subst e
  obtain ⟨⟨ds, gs, before, hw, hc⟩, hz⟩ := hpre
  have hw' := DataW.Whole.of_heap (w' := w.forCall tape i) (by rfl) hw
  refine (contract (w.forCall tape i) w.heap.size i.args ds gs before hval hw' hsh (hz.weights hw)).mono fun e W' ⟨v, he, hp⟩ => ?_
  subst he
  exact ChangeSpec.post_blind hp
theorem bytes5 : Tryz.prog.bytesOf 5 = 1 := by kernel_rfl
theorem trodAll_below {H : Type} {enc : TypeId × Value → H} {P : Program} (hl : laidOutB P = true) {W W' : World} (hb : Below W.heap.size W W') :
    ∀ {ts : List TypeId} {vs : List Value} {ds : List (DataW H)} {ps : List MemPlace}, (ts.all fun t => P.readableRec t && decide (t < P.types.size)) = true → DataW.TrodAll enc P W 0 (fun _ => true) true ts vs ds ps →
      DataW.TrodAll enc P W' 0 (fun b => decide (b < W.heap.size)) true ts vs ds ps
  | [], _, _, _, _, h => by
    obtain ⟨rfl, rfl, rfl⟩ := trodAll_nil h
    exact trodAll_mk0
  | t :: ts, _, _, _, ht, h => by
    have hlt := DataW.TrodAll.lt h
    obtain ⟨v, vs, d, ds, p, q, rfl, rfl, rfl, h1, h2⟩ := trodAll_cons h
    simp only [List.all_cons, Bool.and_eq_true, decide_eq_true_eq] at ht
    exact trodAll_cons_mk (Below.trod hl ht.1.1 ht.1.2 h1 hb fun x hx => hlt x (List.mem_append_left _ hx)) (trodAll_below hl hb (by simpa using ht.2) h2)
theorem law_end {H : Type} {enc : TypeId × Value → H} {f : Nat} {fn : Func} {s : ChangeSpec} {W : World} {args : Array Value} {ds gs : List (DataW H)} {before : List MemPlace} {again : Bool}
    (hv : s.vars = []) (hres : fn.resultTypes.toList = [4]) (hr1 : ∀ b, (Value.bool b).resultList fn.resultTypes.size = [.bool b])
    (hp : (fn.params.toList.all fun t => Tryz.prog.readableRec t && decide (t < Tryz.prog.types.size)) = true)
    (hW : DataW.Whole enc Tryz.prog fn.params.toList s.vars false W args.toList ds gs before)
    (hs : s.fn H (ds ++ gs) = { results := [.lit (.bool true)], args := ds }) (hag : again = false)
    (hc : Calls Tryz.prog f args W fun e w' => e = .returned (.bool true) ∧ Below W.heap.size W w') :
    Calls Tryz.prog f args W fun e W' => ∃ v, e = .returned v ∧ s.post enc Tryz.prog fn false true false again W args v W' := by
  refine hc.mono fun e W' ⟨he, hb⟩ => ?_
  subst he
  have hW' := hW
  obtain ⟨p, q, hA, hV, rfl, _, _⟩ := hW
  rw [hv] at hV
  obtain ⟨rfl, rfl⟩ := trodVars_none hV
  refine ⟨_, rfl, ds, [], _, [], p, [], hW', ?_, ?_, ?_, hb.frame _, fun h => by rw [hag] at h; cases h⟩
  · rw [hs, hres, hr1]
    exact trodAll_mk1 (shut_bool Tryz.underlying4 true)
  · rw [hs]
    exact trodAll_below laidOutT hb hp hA
  · rw [hs, hv]; rfl
end Go.Ev

namespace Go.Ev
open Go.RowKit Go.Proofs Go.Rw
def crc1 (z : Int) : Int := if bits .and .u32 z 1 = 1 then bits .xor .u32 (z / 2) 3988292384 else z / 2
def crcN : Nat → Int → Int
  | 0, z => z
  | j + 1, z => crc1 (crcN j z)
def crcL (q : Nat → Int) : Nat → Int
  | 0 => 4294967295
  | k + 1 => crcN 8 (bits .xor .u32 (crcL q k) (q k))
theorem bits_u32 (op : BinOp) (a b : Int) : 0 ≤ bits op .u32 a b ∧ bits op .u32 a b ≤ 4294967295 := by
  have h : ∀ n : Int, 0 ≤ IntKind.u32.wrap n ∧ IntKind.u32.wrap n ≤ 4294967295 := fun n => by
    rw [IntKind.wrap_u32]
    omega
  unfold bits
  cases op <;> exact h _
theorem crc1_in {z : Int} (h : 0 ≤ z ∧ z ≤ 4294967295) : 0 ≤ crc1 z ∧ crc1 z ≤ 4294967295 := by
  unfold crc1
  split
  · exact bits_u32 _ _ _
  · omega
theorem crcN_in {z : Int} (h : 0 ≤ z ∧ z ≤ 4294967295) : ∀ j, 0 ≤ crcN j z ∧ crcN j z ≤ 4294967295
  | 0 => h
  | j + 1 => crc1_in (crcN_in h j)
theorem crcL_in (q : Nat → Int) : ∀ k, 0 ≤ crcL q k ∧ crcL q k ≤ 4294967295
  | 0 => by simp [crcL]
  | k + 1 => crcN_in (bits_u32 _ _ _) 8
theorem shifted_c {w : World} (z : Int) (h0 : 0 ≤ z ∧ z ≤ 4294967295) : Calls Tryz.prog 91 #[.int .u32 z] w fun e w' => e = .returned (.int .u32 (crc1 z)) ∧ w' = w := by
  obtain ⟨h0, h1⟩ := h0
  unfold crc1
  by_cases h : bits .and .u32 z 1 = 1
  · rw [if_pos h]
    have h : (bits .and .u32 z 1 == 1) = true := beq_iff_eq.2 h
    go_enter Tryz.func91, Tryz.ntmps91
    go_wp2
    go_ret
    exact ⟨rfl, rfl⟩
  · rw [if_neg h]
    have h : (bits .and .u32 z 1 == 1) = false := beq_eq_false_iff_ne.2 h
    go_enter Tryz.func91, Tryz.ntmps91
    go_wp2
    go_ret
    exact ⟨rfl, rfl⟩
def sumV (q : Nat → Int) (n : Nat) : Int := bits .xor .u32 IntKind.u32.max (crcL q n)
set_option maxRecDepth 100000 in
set_option maxHeartbeats 4000000 in
theorem psum_c {w : World} {a : Option Addr} {n c : Nat} {q : Nat → Int} (h : BytesAt w a n q) (hq : ∀ j, InB (q j)) (hn : n ≤ 140737488351232) :
    Calls Tryz.prog 24 #[.slice a n c] w fun e w' => e = .returned (.int .u32 (sumV q n)) ∧ w' = w := by
  go_enter Tryz.func24, Tryz.ntmps24
  go_wp2
  go_loopg [8, 3] n (fun gn i c wr => ∃ k : Nat, gn + k = n ∧ k ≤ n ∧ i = .int .i64 k ∧ c = .int .u32 (crcL q k) ∧ wr = w)
  case atStart => exact ⟨0, by omega, by omega, rfl, rfl, rfl⟩
  case round =>
    obtain ⟨k, hgk, hk, rfl, rfl, rfl⟩ := hrel
    by_cases hlt : k < n
    · obtain ⟨b, o, rfl, hc⟩ : ∃ b o, a = some ⟨b, o, none⟩ ∧ ∀ j, j < n → wr.cell? ⟨b, o + j, none⟩ = some (.int .u8 (q j)) := by
        rcases h with ⟨_, h⟩ | ⟨b, o, h, hc⟩
        · omega
        · exact ⟨b, o, h, hc⟩
      have hck := hc k hlt
      have hlt' : (k : Int) < (n : Int) := by omega
      obtain ⟨q0, q1⟩ := hq k
      obtain ⟨z, hz⟩ : ∃ z, z = crcL q k := ⟨_, rfl⟩
      have hz2 := Lib.hid hz
      have hzi : 0 ≤ z ∧ z ≤ 4294967295 := by rw [hz]; exact crcL_in q k
      rw [← hz]
      clear hz hc h
      generalize hqk : q k = y at hck q0 q1
      have hqk := Lib.hid hqk
      obtain ⟨wo, rfl⟩ : ∃ wo : World, wo = wr := ⟨_, rfl⟩
      obtain ⟨gO, rfl⟩ : ∃ gO : Nat, gO = gk := ⟨_, rfl⟩
      go_wp2
      go_loopg [16, 3] 8 (fun gn i c wr => ∃ j : Nat, gn + j = 8 ∧ j ≤ 8 ∧ i = .int .i64 j ∧ c = .int .u32 (crcN j (bits .xor .u32 z y)) ∧ wr = wo)
      case atStart => exact ⟨0, by omega, by omega, rfl, rfl, rfl⟩
      case round =>
        obtain ⟨j, hgj, hj, rfl, rfl, rfl⟩ := hrel
        have hin := crcN_in (bits_u32 .xor z y) j
        by_cases hj8 : j < 8
        · have hj8' : (j : Int) < 8 := by omega
          have hs := fun W => shifted_c (w := W) (crcN j (bits .xor .u32 z y)) hin
          have hnext := Lib.hid (show crc1 (crcN j (bits .xor .u32 z y)) = crcN (j + 1) (bits .xor .u32 z y) from rfl)
          generalize crcN j (bits .xor .u32 z y) = u at hin hs hnext
          go_wp2_with (go_at_call 91; refine (hs _).mono ?_; rintro e w1 ⟨rfl, rfl⟩)
          go_roundg (gk - 1)
          case measure => omega
          case rel => exact ⟨j + 1, by omega, by omega, by go_num, by rw [hnext.out], rfl⟩
        · obtain rfl : j = 8 := by omega
          have hnext := Lib.hid (show crcN 8 (bits .xor .u32 z y) = crcL q (k + 1) by rw [hz2.out, ← hqk.out]; rfl)
          generalize crcN 8 (bits .xor .u32 z y) = u at hin hnext
          go_wp2
          go_roundg (gO - 1)
          case measure => omega
          case rel => exact ⟨k + 1, by omega, by omega, by go_num, by rw [hnext.out], rfl⟩
    · obtain rfl : k = n := by omega
      go_wp2
      go_ret
      exact ⟨rfl, rfl⟩
end Go.Ev

namespace Go.Ev
open Go.RowKit Go.Proofs Go.Rw
end Go.Ev

namespace Go.Ev
open Go.RowKit Go.Proofs Go.Rw
end Go.Ev

namespace Go.Ev
open Go.RowKit Go.Proofs Go.Rw
theorem lens_nn : ∀ (l : List SecT), (∀ x ∈ l, SecOk x) → 0 ≤ lens l
  | [], _ => by simp [lens]
  | x :: l, h => by
    have hx := (h x (List.mem_cons_self ..)).2.2.2.2
    have e : lens (x :: l) = ((x.bn : Int) + x.zero) + lens l := by simp [lens]
    have := lens_nn l (fun z hz => h z (List.mem_cons_of_mem _ hz))
    omega
theorem lens_mem : ∀ (l : List SecT), (∀ x ∈ l, SecOk x) → ∀ y ∈ l, (y.bn : Int) + y.zero ≤ lens l
  | [], _, y, hy => by simp at hy
  | x :: l, h, y, hy => by
    have hx := (h x (List.mem_cons_self ..)).2.2.2.2
    have e : lens (x :: l) = ((x.bn : Int) + x.zero) + lens l := by simp [lens]
    have hl := lens_nn l (fun z hz => h z (List.mem_cons_of_mem _ hz))
    rcases List.mem_cons.1 hy with rfl | hy
    · omega
    · have := lens_mem l (fun z hz => h z (List.mem_cons_of_mem _ hz)) y hy
      omega
end Go.Ev

