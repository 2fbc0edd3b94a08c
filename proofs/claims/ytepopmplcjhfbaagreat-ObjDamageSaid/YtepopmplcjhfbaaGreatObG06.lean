import Derived.Test.YtepopmplcjhfbaaGreatObG05
import Derived.Test.YtepopmplcjhfbaaGreatObG00
import Derived.Test.YtepopmplcjhfbaaGreatObG01
import Derived.Lib.QuietBelow
import Derived.Deep.WholeRow
import Derived.Laws.Rows
import Derived.Deep.RegionWith
import Derived.Deep.RegionHeld3
import Derived.Shelf.Abstract
set_option linter.unusedSectionVars false
set_option linter.unusedVariables false
set_option linter.unusedSimpArgs false
set_option linter.unnecessarySimpa false
namespace Go.Ev
open Go.RowKit Go.Proofs Go.Rw
def SecOk (x : SecT) : Prop:=NameOk x.name ∧ (1 ≤ x.rights ∧ x.rights ≤ 7) ∧ (1 ≤ x.align ∧ x.align ≤ 256) ∧ 256 % x.align = 0 ∧ (0 ≤ x.zero ∧ x.zero ≤ 65536)
theorem pow_nat : ∀ a : _root_.Fin 257,1 ≤ a.val → ((bits .and .i64 (a.val : Int) ((a.val : Int) - 1) = 0) ↔ 256 % a.val = 0):=by decide +kernel
theorem pow_iff {z : Int} (h0 : 1 ≤ z) (h1 : z ≤ 256) : (bits .and .i64 z (z - 1) = 0) ↔ 256 % z = 0:=by
  obtain ⟨n,rfl⟩:=Int.eq_ofNat_of_zero_le (show 0 ≤ z by omega)
  have:=pow_nat ⟨n,by omega⟩ (by show 1 ≤ n;omega)
  rw [this]
  have e : ((256 % n : Nat) : Int) = (256 : Int) % (n : Int):=Int.natCast_emod 256 n
  show 256 % n = 0 ↔ (256 : Int) % (n : Int) = 0
  rw [← e]
  exact Int.natCast_eq_zero.symm
theorem plen_c {w : World} (s : SecT) (h : s.R) (hz : 0 ≤ s.zero) (hz2 : s.zero ≤ 65536) : Calls Tryz.prog 155 #[.agg #[.string s.name,.int .i64 s.rights,.int .i64 s.align,.slice s.ba s.bn s.bc,.int .i64 s.zero]] w fun e w'=>e = .returned (.int .i64 ((s.bn : Int) + s.zero)) ∧ Below w.heap.size w w':=by
  have h1:=h.2.2.1
  have hb:=fun o=>(Below.refl w.heap.size w).alloc (Nat.le_refl _) o
  clear h
  go_enter Tryz.func155,Tryz.ntmps155
  go_wp2
  go_ret
  exact ⟨rfl,hb _⟩
set_option maxRecDepth 100000 in
set_option maxHeartbeats 4000000 in
theorem psec_c {w : World} (x : SecT) (hx : x.R) : Calls Tryz.prog 153 #[.agg #[.string x.name,.int .i64 x.rights,.int .i64 x.align,.slice x.ba x.bn x.bc,.int .i64 x.zero]] w fun e w'=>e = .returned (.bool (dec (SecOk x))) ∧ Below w.heap.size w w':=by
  obtain ⟨r,hr0⟩ : ∃ r,r = dec (SecOk x):=⟨_,rfl⟩
  rw [← hr0]
  have hrr:=Lib.hid hr0
  clear hr0
  have hb:=fun o=>(Below.refl w.heap.size w).alloc (Nat.le_refl _) o
  have hN:=fun W=>pname_c (w:=W) x.name hx.2.2.2.2
  obtain ⟨i0,i1, -,i3,-⟩:=hx
  unfold inI64 at i0 i1 i3
  by_cases c1 : NameOk x.name
  · have hN1:=fun (W : World)=>(hN W).mono (fun e w' hh=>(⟨by rw [hh.1];unfold nameV;rw [@decide_eq_true _ (Classical.propDecidable _) c1],hh.2⟩ : e = .returned (.bool true) ∧ w' = W))
    clear hN
    by_cases c2 : 1 ≤ x.rights ∧ x.rights ≤ 7
    · by_cases c3 : 1 ≤ x.align ∧ x.align ≤ 256
      · obtain ⟨B,hB⟩ : ∃ B,B = bits .and .i64 x.align (x.align - 1):=⟨_,rfl⟩
        have hB2:=hB.symm
        have hpow:=pow_iff c3.1 c3.2
        rw [hB2] at hpow
        by_cases c4 : B = 0
        · have hB3 : (B == 0) = true:=beq_iff_eq.2 c4
          by_cases c5 : 0 ≤ x.zero ∧ x.zero ≤ 65536
          · have hres:=Lib.hid (show r = true by rw [hrr.out];exact dec_yes ⟨c1,c2,c3,hpow.1 c4,c5⟩)
            clear hB c4 hpow c1
            obtain ⟨xn,xr,xa,xba,xbn,xbc,xz⟩:=x
            dsimp only at *
            go_enter Tryz.func153,Tryz.ntmps153
            go_wp2_with (first | (go_at_call 223;refine (hN1 _).mono ?_;rintro e w1 ⟨rfl,rfl⟩) | (go_at_call 221;first | (refine (within_yes (by omega) (by omega)).mono ?_;rintro e w1 ⟨rfl,rfl⟩) | (refine (within_no (by omega)).mono ?_;rintro e w1 ⟨rfl,rfl⟩)))
            go_ret
            exact ⟨by rw [hres.out];rfl,hb _⟩
          · have hres:=Lib.hid (show r = false by rw [hrr.out];exact dec_no fun h=>c5 h.2.2.2.2)
            clear hB c4 hpow c1
            obtain ⟨xn,xr,xa,xba,xbn,xbc,xz⟩:=x
            dsimp only at *
            go_enter Tryz.func153,Tryz.ntmps153
            go_wp2_with (first | (go_at_call 223;refine (hN1 _).mono ?_;rintro e w1 ⟨rfl,rfl⟩) | (go_at_call 221;first | (refine (within_yes (by omega) (by omega)).mono ?_;rintro e w1 ⟨rfl,rfl⟩) | (refine (within_no (by omega)).mono ?_;rintro e w1 ⟨rfl,rfl⟩)))
            go_ret
            exact ⟨by rw [hres.out];rfl,hb _⟩
        · have hB3 : (B == 0) = false:=beq_eq_false_iff_ne.2 c4
          have hres:=Lib.hid (show r = false by rw [hrr.out];exact dec_no fun h=>c4 (hpow.2 h.2.2.2.1))
          clear hB c4 hpow c1
          obtain ⟨xn,xr,xa,xba,xbn,xbc,xz⟩:=x
          dsimp only at *
          go_enter Tryz.func153,Tryz.ntmps153
          go_wp2_with (first | (go_at_call 223;refine (hN1 _).mono ?_;rintro e w1 ⟨rfl,rfl⟩) | (go_at_call 221;first | (refine (within_yes (by omega) (by omega)).mono ?_;rintro e w1 ⟨rfl,rfl⟩) | (refine (within_no (by omega)).mono ?_;rintro e w1 ⟨rfl,rfl⟩)))
          go_ret
          exact ⟨by rw [hres.out];rfl,hb _⟩
      · have hres:=Lib.hid (show r = false by rw [hrr.out];exact dec_no fun h=>c3 h.2.2.1)
        clear c1
        obtain ⟨xn,xr,xa,xba,xbn,xbc,xz⟩:=x
        dsimp only at *
        go_enter Tryz.func153,Tryz.ntmps153
        go_wp2_with (first | (go_at_call 223;refine (hN1 _).mono ?_;rintro e w1 ⟨rfl,rfl⟩) | (go_at_call 221;first | (refine (within_yes (by omega) (by omega)).mono ?_;rintro e w1 ⟨rfl,rfl⟩) | (refine (within_no (by omega)).mono ?_;rintro e w1 ⟨rfl,rfl⟩)))
        go_ret
        exact ⟨by rw [hres.out];rfl,hb _⟩
    · have hres:=Lib.hid (show r = false by rw [hrr.out];exact dec_no fun h=>c2 h.2.1)
      clear c1
      obtain ⟨xn,xr,xa,xba,xbn,xbc,xz⟩:=x
      dsimp only at *
      go_enter Tryz.func153,Tryz.ntmps153
      go_wp2_with (first | (go_at_call 223;refine (hN1 _).mono ?_;rintro e w1 ⟨rfl,rfl⟩) | (go_at_call 221;first | (refine (within_yes (by omega) (by omega)).mono ?_;rintro e w1 ⟨rfl,rfl⟩) | (refine (within_no (by omega)).mono ?_;rintro e w1 ⟨rfl,rfl⟩)))
      go_ret
      exact ⟨by rw [hres.out];rfl,hb _⟩
  · have hN1:=fun (W : World)=>(hN W).mono (fun e w' hh=>(⟨by rw [hh.1];unfold nameV;rw [@decide_eq_false _ (Classical.propDecidable _) c1],hh.2⟩ : e = .returned (.bool false) ∧ w' = W))
    have hres:=Lib.hid (show r = false by rw [hrr.out];exact dec_no fun h=>c1 h.1)
    clear hN c1
    obtain ⟨xn,xr,xa,xba,xbn,xbc,xz⟩:=x
    dsimp only at *
    go_enter Tryz.func153,Tryz.ntmps153
    go_wp2_with (first | (go_at_call 223;refine (hN1 _).mono ?_;rintro e w1 ⟨rfl,rfl⟩) | (go_at_call 221;first | (refine (within_yes (by omega) (by omega)).mono ?_;rintro e w1 ⟨rfl,rfl⟩) | (refine (within_no (by omega)).mono ?_;rintro e w1 ⟨rfl,rfl⟩)))
    go_ret
    exact ⟨by rw [hres.out];rfl,hb _⟩
end Go.Ev

namespace Go.Ev
open Go.RowKit Go.Proofs Go.Rw
def lens (l : List SecT) : Int:=(l.map fun x=>(x.bn : Int) + x.zero).sum
def SecsOk (l : List SecT) : Prop:=l.length ≤ 16 ∧ (∀ x ∈ l,SecOk x) ∧ (l.map (·.name)).Nodup ∧ lens l ≤ 65536
theorem lens_snoc {l : List SecT} {k : Nat} {x : SecT} (hx : l[k]? = some x) : lens (l.take (k + 1)) = lens (l.take k) + ((x.bn : Int) + x.zero):=by
  unfold lens
  rw [show l.take (k + 1) = l.take k ++ [x] by rw [List.take_add_one,hx];rfl]
  simp
theorem lens_in : ∀ (l : List SecT),(∀ x ∈ l,x.bn ≤ 140737488351232 ∧ 0 ≤ x.zero ∧ x.zero ≤ 65536) → 0 ≤ lens l ∧ lens l ≤ l.length * 140737488416768
  | [],_=>by simp [lens]
  | x :: l,h=>by
    have h1:=lens_in l (fun y hy=>h y (List.mem_cons_of_mem _ hy))
    have h2:=h x (List.mem_cons_self ..)
    have e : lens (x :: l) = ((x.bn : Int) + x.zero) + lens l:=by simp [lens]
    rw [e,List.length_cons]
    omega
theorem enters153 : ∀ args w,(callFunc 153 args).run Tryz.prog w = .ok (.enter 153 args) w:=enters_of Tryz.func153 (by kernel_rfl) rfl
set_option maxRecDepth 100000 in
set_option maxHeartbeats 4000000 in
theorem psecs_c {w : World} {s : Value} {l : List SecT} (h : RowsAt w s SecT.cells 5 l) (hr : ∀ x ∈ l,x.R) (hl : l.length ≤ 140737488351232) : Calls Tryz.prog 65 #[s] w (BelR (dec (SecsOk l)) w):=by
  have hE:=every_sec h hl 16 153 #[] enters153 (fun x=>dec (SecOk x)) (fun W hW x hx=>psec_c x (hr x hx))
  obtain ⟨r,hr0⟩ : ∃ r,r = dec (SecsOk l):=⟨_,rfl⟩
  rw [← hr0]
  have hrr:=Lib.hid hr0
  clear hr0
  by_cases hc : (l.length : Int) ≤ 16 ∧ ∀ x ∈ l,SecOk x
  · rw [show (decide ((l.length : Int) ≤ 16) && l.all fun x=>dec (SecOk x)) = true by
      simp only [Bool.and_eq_true,decide_eq_true_eq,List.all_eq_true]
      exact ⟨hc.1,fun x hx=>dec_yes (hc.2 x hx)⟩] at hE
    have hD:=fun W (hW : Below w.heap.size w W)=>differ_sec (h.below hW) hr hl
    have h16 : l.length ≤ 16:=by have:=hc.1;omega
    by_cases hn : (l.map (·.name)).Nodup
    · rw [dec_yes hn] at hD
      have hrt:=Lib.hid (show r = decide (lens l ≤ 65536) by
        rw [hrr.out]
        by_cases hs : lens l ≤ 65536
        · rw [decide_eq_true hs];exact dec_yes ⟨h16,hc.2,hn,hs⟩
        · rw [decide_eq_false hs];exact dec_no fun h=>hs h.2.2.2)
      have hsz : ∀ x ∈ l,x.bn ≤ 140737488351232 ∧ 0 ≤ x.zero ∧ x.zero ≤ 65536:=fun x hx=>⟨(hr x hx).2.2.1,(hc.2 x hx).2.2.2.2⟩
      have hin:=fun k=>lens_in (l.take k) (fun x hx=>hsz x (List.mem_of_mem_take hx))
      clear hc hn
      obtain ⟨a,c,rfl⟩:=rows_slice h
      go_enter Tryz.func65,Tryz.ntmps65
      go_wp2_with fail
      refine hE.mono ?_
      rintro e w1 ⟨rfl,hb1⟩
      go_wp2_with fail
      refine (hD _ hb1).mono ?_
      rintro e w2 ⟨rfl,hb2⟩
      have hB2:=bel_then hb1 (Nat.le_refl _) hb2
      clear hb1 hb2 hE hD
      go_wp2
      go_loopw [3,16] (fun v i wr=>∃ k : Nat,k ≤ l.length ∧ i = .int .i64 k ∧ v = .int .i64 (65536 - lens (l.take k)) ∧ Below w.heap.size w wr) (fun _ i _=>l.length - (intOf i).toNat)
      case atStart=>exact ⟨0,by omega,rfl,by simp [lens],hB2⟩
      case round =>
        obtain ⟨k,hk,rfl,rfl,hbl⟩:=hrel
        have hB:=hbl.size
        have hkin:=hin k
        rw [List.length_take] at hkin
        obtain ⟨S,hS⟩ : ∃ S,S = lens (l.take k):=⟨_,rfl⟩
        rw [← hS] at hkin ⊢
        have hkin2 : 0 ≤ S ∧ S ≤ 2251799814668288:=by omega
        by_cases hlt : k < l.length
        · obtain ⟨b,of,rfl⟩:=rows_some2 h hlt
          obtain ⟨x,hx⟩ : ∃ x,l[k]? = some x:=⟨l[k],by simp [hlt]⟩
          obtain ⟨g0,g1,g2,g3,g4⟩:=rows_sec (h.below hbl) hx
          have hxs:=hsz x (List.mem_of_getElem? hx)
          have hP:=fun W=>plen_c (w:=W) x (hr x (List.mem_of_getElem? hx)) hxs.2.1 hxs.2.2
          have hst:=lens_snoc hx
          rw [← hS] at hst
          have hst:=Lib.hid hst
          have hlt' : (k : Int) < (l.length : Int):=by omega
          clear hx hS h hr hsz hin hkin
          obtain ⟨xn,xr,xa,xba,xbn,xbc,xz⟩:=x
          dsimp only at hP g0 g1 g2 g3 g4 hxs hst
          go_wp2_with (go_at_call 155;refine (hP _).mono ?_;rintro e w3 ⟨rfl,hb3⟩)
          have hb4:=bel_then (hbl.alloc hB _) (Nat.le_refl _) hb3
          clear hb3
          go_roundw
          case rel=>exact ⟨k + 1,by omega,by go_num,by rw [hst.out];congr 1;omega,hb4⟩
          case measure=>simp [intOf];omega
        · obtain rfl : k = l.length:=by omega
          rw [List.take_length] at hS
          have hrt2:=Lib.hid (show r = decide (S ≤ 65536) by rw [hrt.out,hS])
          clear hS h hr hsz hin hkin
          by_cases hs : S ≤ 65536
          · have hd : decide ((0 : Int) ≤ 65536 - S) = true:=decide_eq_true (by omega)
            have hf:=Lib.hid (show r = true by rw [hrt2.out];exact decide_eq_true hs)
            go_wp2
            go_ret
            exact ⟨by rw [hf.out];first | rfl | simp [hs],hbl⟩
          · have hd : decide ((0 : Int) ≤ 65536 - S) = false:=decide_eq_false (by omega)
            have hf:=Lib.hid (show r = false by rw [hrt2.out];exact decide_eq_false hs)
            go_wp2
            go_ret
            exact ⟨by rw [hf.out];first | rfl | simp [hs],hbl⟩
    · rw [dec_no hn] at hD
      have hrt:=Lib.hid (show r = false by rw [hrr.out];exact dec_no fun h=>hn h.2.2.1)
      clear hc hn hr h
      go_enter Tryz.func65,Tryz.ntmps65
      go_wp2_with fail
      refine hE.mono ?_
      rintro e w1 ⟨rfl,hb1⟩
      go_wp2_with fail
      refine (hD _ hb1).mono ?_
      rintro e w2 ⟨rfl,hb2⟩
      go_wp2
      go_ret
      exact ⟨by rw [hrt.out];rfl,bel_then hb1 (Nat.le_refl _) hb2⟩
  · rw [show (decide ((l.length : Int) ≤ 16) && l.all fun x=>dec (SecOk x)) = false by
      rw [← Bool.not_eq_true]
      simp only [Bool.and_eq_true,decide_eq_true_eq,List.all_eq_true]
      exact fun h=>hc ⟨h.1,fun x hx=>dec_iff.1 (h.2 x hx)⟩] at hE
    have hrt:=Lib.hid (show r = false by
      rw [hrr.out]
      exact dec_no fun h=>hc ⟨by have:=h.1;omega,h.2.1⟩)
    clear hc h hr
    go_enter Tryz.func65,Tryz.ntmps65
    go_wp2_with fail
    refine hE.mono ?_
    rintro e w1 ⟨rfl,hb1⟩
    go_wp2
    go_ret
    exact ⟨by rw [hrt.out];rfl,hb1⟩
end Go.Ev

namespace Go.Ev
open Go.RowKit Go.Proofs Go.Rw
def SecsR (l : List SecT) (w : World) (e : Ending) (w' : World) : Prop:=∃ r : Bool,e = .returned (.bool r) ∧ Below w.heap.size w w' ∧ (r = true → l.length ≤ 16 ∧ ∀ x ∈ l,0 ≤ x.zero ∧ x.zero ≤ 65536)
end Go.Ev

namespace Go.Ev
open Go.RowKit Go.Proofs Go.Rw
end Go.Ev

namespace Go.Ev
open Go.RowKit Go.Proofs Go.Rw
def SymR (n : Nat) (x : SymT) (w : World) (e : Ending) (w' : World) : Prop:=∃ r : Bool,e = .returned (.bool r) ∧ Below w.heap.size w w' ∧ (r = true → x.sec < (n : Int))
end Go.Ev

namespace Go.Ev
open Go.RowKit Go.Proofs Go.Rw
def SymsR (o : ObjT) (w : World) (e : Ending) (w' : World) : Prop:=∃ r : Bool,e = .returned (.bool r) ∧ Below w.heap.size w w' ∧ (r = true → o.syms.length ≤ 500 ∧ ∀ x ∈ o.syms,x.sec < (o.secs.length : Int))
end Go.Ev

namespace Go.Ev
open Go.RowKit Go.Proofs Go.Rw
end Go.Ev

namespace Go.Ev
open Go.RowKit Go.Proofs Go.Rw
set_option maxRecDepth 100000 in
set_option maxHeartbeats 4000000 in
theorem small_b {w : World} {v : Value} {o : ObjT} (h : ObjAt w v o) (hR : o.R) : Calls Tryz.prog 16 #[v] w (BoolR w):=by
  obtain ⟨s1,s2,s3,s4,s5,rfl,k1,k2,k3,k4,k5⟩:=id h
  obtain ⟨a1,c1,rfl⟩:=rows_slice k1
  obtain ⟨a2,c2,rfl⟩:=rows_slice k2
  obtain ⟨a3,c3,rfl⟩:=rows_slice k3
  obtain ⟨a4,c4,rfl⟩:=rows_slice k4
  obtain ⟨a5,c5,rfl⟩:=rows_slice k5
  obtain ⟨hR1,hR2, -,hR4, -,hn1,hn2,hn3,hn4,hn5⟩:=hR
  have z1 : ∀ A,Below w.heap.size w (w.alloc A):=fun A=>(Below.refl w.heap.size w).alloc (Nat.le_refl _) A
  clear k3 k5 h
  obtain ⟨A,hA⟩ : ∃ A : Obj,A = .cells #[.slice a1 o.secs.length c1,.slice a2 o.syms.length c2,.slice a3 o.rels.length c3,.slice a4 o.files.length c4,.slice a5 o.lines.length c5] 28:=⟨_,rfl⟩
  have bx : ∀ wr,Below (w.alloc A).heap.size (w.alloc A) wr → wr.cell? ⟨w.heap.size,0,none⟩ = some (.slice a1 o.secs.length c1) ∧ wr.cell? ⟨w.heap.size,1,none⟩ = some (.slice a2 o.syms.length c2) ∧ wr.cell? ⟨w.heap.size,2,none⟩ = some (.slice a3 o.rels.length c3) ∧ wr.cell? ⟨w.heap.size,3,none⟩ = some (.slice a4 o.files.length c4) ∧ wr.cell? ⟨w.heap.size,4,none⟩ = some (.slice a5 o.lines.length c5):=fun wr hb=>by
    subst hA
    exact ⟨(hb.cell (p:=⟨w.heap.size,0,none⟩) (by simp)).trans (new_cell w _ 28 0 _ rfl),(hb.cell (p:=⟨w.heap.size,1,none⟩) (by simp)).trans (new_cell w _ 28 1 _ rfl),(hb.cell (p:=⟨w.heap.size,2,none⟩) (by simp)).trans (new_cell w _ 28 2 _ rfl),(hb.cell (p:=⟨w.heap.size,3,none⟩) (by simp)).trans (new_cell w _ 28 3 _ rfl),(hb.cell (p:=⟨w.heap.size,4,none⟩) (by simp)).trans (new_cell w _ 28 4 _ rfl)⟩
  go_enter Tryz.func16,Tryz.ntmps16
  go_wp2
  rw [← hA]
  go_loopw [3,13] (fun t i wr=>∃ (k : Nat) (z : Int),k ≤ o.secs.length ∧ t = .int .i64 z ∧ i = .int .i64 k ∧ Below (w.alloc A).heap.size (w.alloc A) wr) (fun _ i _=>o.secs.length - (intOf i).toNat)
  case atStart=>exact ⟨0,0,by omega,rfl,rfl,Below.refl _ _⟩
  case round =>
    obtain ⟨k,z,hk,rfl,rfl,hbl⟩:=hrel
    have hbw:=bel_then (z1 _) (Nat.le_refl _) hbl
    obtain ⟨b0,b1,b2,b3,b4⟩:=bx _ hbl
    by_cases hlt : k < o.secs.length
    · obtain ⟨b,of,rfl⟩:=rows_some2 k1 hlt
      obtain ⟨x,hx⟩ : ∃ x,o.secs[k]? = some x:=⟨o.secs[k],by simp [hlt]⟩
      obtain ⟨g0,g1,g2,g3,g4⟩:=rows_sec (k1.below hbw) hx
      have hlt' : (k : Int) < (o.secs.length : Int):=by omega
      clear hx
      go_wp2
      go_roundw
      case rel=>exact ⟨k + 1,_,by omega,rfl,by go_num,hbl.alloc hbl.size _⟩
      case measure=>simp [intOf];omega
    · go_wp2
      go_loopw [3,30] (fun t i wr=>∃ (k : Nat) (z : Int),k ≤ o.syms.length ∧ t = .int .i64 z ∧ i = .int .i64 k ∧ Below (w.alloc A).heap.size (w.alloc A) wr) (fun _ i _=>o.syms.length - (intOf i).toNat)
      case atStart=>exact ⟨0,z,by omega,rfl,rfl,hbl⟩
      case round =>
        clear b0 b1 b2 b3 b4 hbw hbl
        obtain ⟨k,z,hk,rfl,rfl,hbl⟩:=hrel
        have hbw:=bel_then (z1 _) (Nat.le_refl _) hbl
        obtain ⟨b0,b1,b2,b3,b4⟩:=bx _ hbl
        by_cases hlt : k < o.syms.length
        · obtain ⟨b,of,rfl⟩:=rows_some2 k2 hlt
          obtain ⟨x,hx⟩ : ∃ x,o.syms[k]? = some x:=⟨o.syms[k],by simp [hlt]⟩
          obtain ⟨g0,g1,g2,g3,g4,g5⟩:=rows_sym (k2.below hbw) hx
          have hlt' : (k : Int) < (o.syms.length : Int):=by omega
          clear hx
          go_wp2
          go_roundw
          case rel=>exact ⟨k + 1,_,by omega,rfl,by go_num,hbl.alloc hbl.size _⟩
          case measure=>simp [intOf];omega
        · go_wp2
          go_loopw [3,43] (fun t i wr=>∃ (k : Nat) (z : Int),k ≤ o.files.length ∧ t = .int .i64 z ∧ i = .int .i64 k ∧ Below (w.alloc A).heap.size (w.alloc A) wr) (fun _ i _=>o.files.length - (intOf i).toNat)
          case atStart=>exact ⟨0,z,by omega,rfl,rfl,hbl⟩
          case round =>
            clear b0 b1 b2 b3 b4 hbw hbl
            obtain ⟨k,z,hk,rfl,rfl,hbl⟩:=hrel
            have hbw:=bel_then (z1 _) (Nat.le_refl _) hbl
            obtain ⟨b0,b1,b2,b3,b4⟩:=bx _ hbl
            by_cases hlt : k < o.files.length
            · obtain ⟨b,of,rfl⟩:=rows_some2 k4 hlt
              obtain ⟨x,hx⟩ : ∃ x,o.files[k]? = some x:=⟨o.files[k],by simp [hlt]⟩
              have g0:=rows_file (k4.below hbw) hx
              have hlt' : (k : Int) < (o.files.length : Int):=by omega
              clear hx
              go_wp2
              go_roundw
              case rel=>exact ⟨k + 1,_,by omega,rfl,by go_num,hbl⟩
              case measure=>simp [intOf];omega
            · go_wp2
              all_goals (go_ret;exact ⟨_,rfl,hbw⟩)
end Go.Ev

namespace Go.Ev
open Go.RowKit Go.Proofs Go.Rw
structure ObjT.Ok (o : ObjT) : Prop where
  zero : ∀ x ∈ o.secs,0 ≤ x.zero ∧ x.zero ≤ 65536
  secs : o.secs.length ≤ 16
  syms : o.syms.length ≤ 500
  sym : ∀ x ∈ o.syms,x.sec < (o.secs.length : Int)
  lines : o.lines.length ≤ 4000
  line : ∀ x ∈ o.lines,x.ok
  steps : Steps o.lines
  inside : ∀ x ∈ o.lines,∃ (j : Nat) (s : SecT),x.sec = (j : Int) ∧ o.secs[j]? = some s ∧ x.off < (s.bn : Int) + s.zero
def IsR (o : ObjT) (w : World) (e : Ending) (w' : World) : Prop:=∃ r : Bool,e = .returned (.bool r) ∧ Below w.heap.size w w' ∧ (r = true → o.Ok)
end Go.Ev

namespace Go.Ev
open Go.RowKit Go.Proofs Go.Rw
def best (l : List LineT) (s a : Int) : Nat → LineT
  | 0=>default
  | k + 1=>match l[k]? with
    | some x=>if x.sec = s ∧ x.off ≤ a then x else best l s a k
    | none=>best l s a k
theorem isIndex_c {w : World} (i : Int) (a : Option Addr) (n c : Nat) (h0 : 0 ≤ i) (h1 : i < (n : Int)) : Calls Tryz.prog 107 #[.int .i64 i,.slice a n c] w fun e w'=>e = .returned (.bool true) ∧ w' = w:=by
  go_enter Tryz.func107,Tryz.ntmps107
  go_wp2
  go_ret
  exact ⟨rfl,rfl⟩
def LaR (x : LineT) (w : World) (e : Ending) (w' : World) : Prop:=e = .returned (.tuple #[(if x.line = 0 then (default : LineT) else x).v,.bool (decide (x.line ≠ 0))]) ∧ Below w.heap.size w w'
end Go.Ev

namespace Go.Ev
open Go.RowKit Go.Proofs Go.Rw
def covS (off : Int) (s : SymT) : Prop:=s.val ≤ off ∧ off - s.val < s.size
instance (off : Int) (s : SymT) : Decidable (covS off s):=by unfold covS;exact inferInstance
def hit (sec off : Int) (s : SymT) : Prop:=0 ≤ sec ∧ s.sec = sec ∧ covS off s
instance (sec off : Int) (s : SymT) : Decidable (hit sec off s):=by unfold hit;exact inferInstance
def near (s y : SymT) : Prop:=y.val < s.val ∨ (y.val = s.val ∧ s.size < y.size)
instance (s y : SymT) : Decidable (near s y):=by unfold near;exact inferInstance
def cmpI (x y : Int) : Int:=if x < y then -1 else if y < x then 1 else 0
def orI (x y : Int) : Int:=if x = 0 then y else x
end Go.Ev

namespace Go.Ev
open Go.RowKit Go.Proofs Go.Rw
end Go.Ev

namespace Go.Ev
open Go.RowKit Go.Proofs Go.Rw
def SbI (l : List SymT) (sec off : Int) (k best : Nat) (fd : Bool) : Prop :=
  (fd = false ∧ best = 0 ∧ ∀ i,i < k → ∀ s,l[i]? = some s → ¬ hit sec off s) ∨
  (fd = true ∧ best < k ∧ ∃ y,l[best]? = some y ∧ hit sec off y ∧ ∀ i,i < k → ∀ s,l[i]? = some s → hit sec off s → ¬ near s y)
def SaR (l : List SymT) (sec off : Int) (w : World) (e : Ending) (w' : World) : Prop:=∃ (best : Nat) (fd : Bool),e = .returned (.tuple #[.int .i64 best,.bool fd]) ∧ Below w.heap.size w w' ∧ SbI l sec off l.length best fd
theorem isIndex_no {w : World} (i : Int) (a : Option Addr) (n c : Nat) (h : i < 0 ∨ (n : Int) ≤ i) : Calls Tryz.prog 107 #[.int .i64 i,.slice a n c] w fun e w'=>e = .returned (.bool false) ∧ w' = w:=by
  go_enter Tryz.func107,Tryz.ntmps107
  by_cases h0 : i < 0
  · go_wp2
    go_ret
    exact ⟨rfl,rfl⟩
  · have h1 : (n : Int) ≤ i:=by omega
    have hd : decide (i < (n : Int)) = false:=decide_eq_false (by omega)
    go_wp2
    go_ret
    exact ⟨rfl,rfl⟩
end Go.Ev

namespace Go.Ev
open Go.RowKit Go.Proofs Go.Rw
def DefOk (l : List SecT) (x : SymT) : Prop :=
  (x.sec = -1 ∧ x.bind ≠ 0 ∧ x.val = 0 ∧ x.size = 0) ∨ (x.sec = -2 ∧ x.size = 0) ∨
  (0 ≤ x.sec ∧ ∃ y,l[x.sec.toNat]? = some y ∧ (0 ≤ x.size ∧ x.size ≤ (y.bn : Int) + y.zero - x.val) ∧ (x.kind ≠ 1 ∨ bits .and .i64 y.rights 4 ≠ 0))
theorem within_b {w : World} {n a b : Int} {r : Bool} (h : (r = true ∧ a ≤ n ∧ n ≤ b) ∨ (r = false ∧ (n < a ∨ b < n))) : Calls Tryz.prog 221 #[.int .i64 n,.int .i64 a,.int .i64 b] w fun e w'=>e = .returned (.bool r) ∧ Below w.heap.size w w':=by
  rcases h with ⟨rfl,h1,h2⟩ | ⟨rfl,h⟩
  · exact (within_yes h1 h2).mono fun e w' hh=>⟨hh.1,by rw [hh.2];exact Below.refl _ _⟩
  · exact (within_no h).mono fun e w' hh=>⟨hh.1,by rw [hh.2];exact Below.refl _ _⟩
set_option maxRecDepth 100000 in
set_option maxHeartbeats 4000000 in
theorem pdef_c {w : World} {v : Value} {o : ObjT} (h : ObjAt w v o) (hs : ∀ y ∈ o.secs,SecOk y ∧ y.R) (x : SymT) (hx : x.R) :
    Calls Tryz.prog 224 #[v,.agg #[.string x.name,.int .i64 x.sec,.int .u32 x.val,.int .i64 x.size,.int .i64 x.bind,.int .i64 x.kind]] w (BelR (dec (DefOk o.secs x)) w):=by
  obtain ⟨s1,s2,s3,s4,s5,rfl,k1,k2,k3,k4,k5⟩:=h
  obtain ⟨a1,c1,rfl⟩:=rows_slice k1
  obtain ⟨r,hr0⟩ : ∃ r,r = dec (DefOk o.secs x):=⟨_,rfl⟩
  rw [← hr0]
  have hrr:=Lib.hid hr0
  clear hr0 k2 k3 k4 k5
  have z1 : ∀ A B,Below w.heap.size w ((w.alloc A).alloc B):=fun A B=>((Below.refl w.heap.size w).alloc (Nat.le_refl _) A).alloc (by simp) B
  have z3 : ∀ A B C,Below w.heap.size w (((w.alloc A).alloc B).alloc C):=fun A B C=>(z1 A B).alloc (by rw [World.size_alloc,World.size_alloc];omega) C
  obtain ⟨xn,xs,xv,xz,xb,xk⟩:=x
  obtain ⟨r1,r2,r3,r4,r5,r6⟩:=hx
  dsimp only at *
  unfold inI64 inU32 at *
  by_cases e1 : xs = -1
  · subst e1
    by_cases d1 : xb = 0
    · have hres:=Lib.hid (show r = false by rw [hrr.out];exact dec_no fun h=>by rcases h with h | h | h <;> dsimp only at h <;> omega)
      have hb1 : (xb != 0) = false:=by simp [d1]
      clear d1
      go_enter Tryz.func224,Tryz.ntmps224
      go_wp2
      go_ret
      exact ⟨by rw [hres.out];rfl,z1 _ _⟩
    · have hb1 : (xb != 0) = true:=bne_iff_ne.2 d1
      by_cases d2 : xv = 0
      · have hb2 : (xv == 0) = true:=beq_iff_eq.2 d2
        by_cases d3 : xz = 0
        · have hb3 : (xz == 0) = true:=beq_iff_eq.2 d3
          have hres:=Lib.hid (show r = true by rw [hrr.out];exact dec_yes (.inl ⟨rfl,d1,d2,d3⟩))
          clear d1 d2 d3
          go_enter Tryz.func224,Tryz.ntmps224
          go_wp2
          go_ret
          exact ⟨by rw [hres.out];rfl,z1 _ _⟩
        · have hb3 : (xz == 0) = false:=beq_eq_false_iff_ne.2 d3
          have hres:=Lib.hid (show r = false by rw [hrr.out];exact dec_no fun h=>by rcases h with h | h | h <;> dsimp only at h <;> omega)
          clear d1 d2 d3
          go_enter Tryz.func224,Tryz.ntmps224
          go_wp2
          go_ret
          exact ⟨by rw [hres.out];rfl,z1 _ _⟩
      · have hb2 : (xv == 0) = false:=beq_eq_false_iff_ne.2 d2
        have hres:=Lib.hid (show r = false by rw [hrr.out];exact dec_no fun h=>by rcases h with h | h | h <;> dsimp only at h <;> omega)
        clear d1 d2
        go_enter Tryz.func224,Tryz.ntmps224
        go_wp2
        go_ret
        exact ⟨by rw [hres.out];rfl,z1 _ _⟩
  · have f1 : (xs == -1) = false:=beq_eq_false_iff_ne.2 e1
    by_cases e2 : xs = -2
    · subst e2
      by_cases d3 : xz = 0
      · have hb3 : (xz == 0) = true:=beq_iff_eq.2 d3
        have hres:=Lib.hid (show r = true by rw [hrr.out];exact dec_yes (.inr (.inl ⟨rfl,d3⟩)))
        clear d3
        go_enter Tryz.func224,Tryz.ntmps224
        go_wp2
        go_ret
        exact ⟨by rw [hres.out];rfl,z1 _ _⟩
      · have hb3 : (xz == 0) = false:=beq_eq_false_iff_ne.2 d3
        have hres:=Lib.hid (show r = false by rw [hrr.out];exact dec_no fun h=>by rcases h with h | h | h <;> dsimp only at h <;> omega)
        clear d3
        go_enter Tryz.func224,Tryz.ntmps224
        go_wp2
        go_ret
        exact ⟨by rw [hres.out];rfl,z1 _ _⟩
    · have f2 : (xs == -2) = false:=beq_eq_false_iff_ne.2 e2
      by_cases hlt : (0 : Int) ≤ xs ∧ xs < (o.secs.length : Int)
      · obtain ⟨k,rfl⟩ : ∃ k : Nat,xs = (k : Int):=⟨xs.toNat,by omega⟩
        have hk : k < o.secs.length:=by omega
        obtain ⟨b,of,rfl⟩:=rows_some2 k1 hk
        obtain ⟨y,hy⟩ : ∃ y,o.secs[k]? = some y:=⟨o.secs[k],by simp [hk]⟩
        obtain ⟨hyO,hyR⟩:=hs y (List.mem_of_getElem? hy)
        have hP:=fun W=>plen_c (w:=W) y hyR hyO.2.2.2.2.1 hyO.2.2.2.2.2
        have hDef:=Lib.hid (show DefOk o.secs ⟨xn,(k : Int),xv,xz,xb,xk⟩ ↔ ((0 ≤ xz ∧ xz ≤ (y.bn : Int) + y.zero - xv) ∧ (xk ≠ 1 ∨ bits .and .i64 y.rights 4 ≠ 0)) from by
          constructor
          · rintro (⟨h,_⟩ | ⟨h,_⟩ | ⟨_,y',hy',h⟩)
            · exact absurd h e1
            · exact absurd h e2
            · dsimp only at hy' h
              rw [Int.toNat_natCast,hy] at hy'
              cases hy'
              exact h
          · intro h
            exact .inr (.inr ⟨Int.natCast_nonneg _,y,by dsimp only;rw [Int.toNat_natCast];exact hy,h⟩))
        have hI:=fun W=>isIndex_c (w:=W) (k : Int) (some ⟨b,of,none⟩) o.secs.length c1 (by omega) hlt.2
        have g0:=fun A B=>(rows_sec (k1.below (z1 A B)) hy).1
        have g1:=fun A B=>(rows_sec (k1.below (z1 A B)) hy).2.1
        have g2:=fun A B=>(rows_sec (k1.below (z1 A B)) hy).2.2.1
        have g3:=fun A B=>(rows_sec (k1.below (z1 A B)) hy).2.2.2.1
        have g4:=fun A B=>(rows_sec (k1.below (z1 A B)) hy).2.2.2.2
        have hO:=hyO.2.2.2.2
        have hYb:=hyR.2.2.1
        clear hs k1 hy hyO hyR
        obtain ⟨yn,yr,ya,yb,yl,yc,yz⟩:=y
        dsimp only at hP g0 g1 g2 g3 g4 hDef hO hYb
        obtain ⟨B,hB⟩ : ∃ B,B = bits .and .i64 yr 4:=⟨_,rfl⟩
        have hB2:=hB.symm
        rw [← hB] at hDef
        clear hB
        obtain ⟨T,hT⟩ : ∃ T : Int,T = (yl : Int) + yz - xv:=⟨_,rfl⟩
        have hT2 : (yl : Int) + yz - xv = T:=hT.symm
        rw [← hT] at hDef
        have hT3 : -4294967295 ≤ T ∧ T ≤ 140737488416768:=by omega
        clear hT
        obtain ⟨pl,hpl⟩ : ∃ pl : Bool,pl = decide (0 ≤ xz ∧ xz ≤ T):=⟨_,rfl⟩
        have hW:=fun W=>within_b (w:=W) (n:=xz) (a:=0) (b:=T) (r:=pl) (by
          by_cases h : 0 ≤ xz ∧ xz ≤ T
          · exact .inl ⟨by rw [hpl];exact decide_eq_true h,h.1,h.2⟩
          · exact .inr ⟨by rw [hpl];exact decide_eq_false h,by omega⟩)
        have hplH:=Lib.hid hpl
        clear hpl
        have fk1 : ((k : Int) == -1) = false:=f1
        have nx:=fun (i : Nat) (u : Value) (h : (#[Value.string yn,.int .i64 yr,.int .i64 ya,.slice yb yl yc,.int .i64 yz] : Array Value)[i]? = some u) (A B : Obj)=>(show (((w.alloc A).alloc B).alloc (.cells #[Value.string yn,.int .i64 yr,.int .i64 ya,.slice yb yl yc,.int .i64 yz] 66)).cell? ⟨w.heap.size + 1 + 1,i,none⟩ = some u from by
          have:=new_cell ((w.alloc A).alloc B) #[Value.string yn,.int .i64 yr,.int .i64 ya,.slice yb yl yc,.int .i64 yz] 66 i u h
          rw [World.size_alloc,World.size_alloc] at this
          exact this)
        go_enter Tryz.func224,Tryz.ntmps224
        go_wp2_with (go_at_call 107;refine (hI _).mono ?_;rintro e w1 ⟨rfl,rfl⟩)
        have nB:=fun (i : Nat) (u : Value) (h : (#[Value.string xn,.int .i64 (k : Int),.int .u32 xv,.int .i64 xz,.int .i64 xb,.int .i64 xk] : Array Value)[i]? = some u) (A C : Obj)=>(show (((w.alloc A).alloc (.cells #[Value.string xn,.int .i64 (k : Int),.int .u32 xv,.int .i64 xz,.int .i64 xb,.int .i64 xk] 68)).alloc C).cell? ⟨w.heap.size + 1,i,none⟩ = some u from by
          have:=new_cell (w.alloc A) #[Value.string xn,.int .i64 (k : Int),.int .u32 xv,.int .i64 xz,.int .i64 xb,.int .i64 xk] 68 i u h
          rw [World.size_alloc] at this
          exact (World.cell?_alloc_lt _ C _ (low_of_cell this)).trans this)
        have m2:=nB 2 _ rfl
        have m3:=nB 3 _ rfl
        have m5:=nB 5 _ rfl
        have x0:=nx 0 _ rfl
        have x1:=nx 1 _ rfl
        have x2:=nx 2 _ rfl
        have x3:=nx 3 _ rfl
        have x4:=nx 4 _ rfl
        have hbW:=fun A B C=>z3 A B C
        have m2:=m2 (.cells #[.slice (some ⟨b,of,none⟩) o.secs.length c1,s2,s3,s4,s5] 28) (.cells #[.string yn,.int .i64 yr,.int .i64 ya,.slice yb yl yc,.int .i64 yz] 66)
        have m3:=m3 (.cells #[.slice (some ⟨b,of,none⟩) o.secs.length c1,s2,s3,s4,s5] 28) (.cells #[.string yn,.int .i64 yr,.int .i64 ya,.slice yb yl yc,.int .i64 yz] 66)
        have m5:=m5 (.cells #[.slice (some ⟨b,of,none⟩) o.secs.length c1,s2,s3,s4,s5] 28) (.cells #[.string yn,.int .i64 yr,.int .i64 ya,.slice yb yl yc,.int .i64 yz] 66)
        have x0:=x0 (.cells #[.slice (some ⟨b,of,none⟩) o.secs.length c1,s2,s3,s4,s5] 28) (.cells #[.string xn,.int .i64 (k : Int),.int .u32 xv,.int .i64 xz,.int .i64 xb,.int .i64 xk] 68)
        have x1:=x1 (.cells #[.slice (some ⟨b,of,none⟩) o.secs.length c1,s2,s3,s4,s5] 28) (.cells #[.string xn,.int .i64 (k : Int),.int .u32 xv,.int .i64 xz,.int .i64 xb,.int .i64 xk] 68)
        have x2:=x2 (.cells #[.slice (some ⟨b,of,none⟩) o.secs.length c1,s2,s3,s4,s5] 28) (.cells #[.string xn,.int .i64 (k : Int),.int .u32 xv,.int .i64 xz,.int .i64 xb,.int .i64 xk] 68)
        have x3:=x3 (.cells #[.slice (some ⟨b,of,none⟩) o.secs.length c1,s2,s3,s4,s5] 28) (.cells #[.string xn,.int .i64 (k : Int),.int .u32 xv,.int .i64 xz,.int .i64 xb,.int .i64 xk] 68)
        have x4:=x4 (.cells #[.slice (some ⟨b,of,none⟩) o.secs.length c1,s2,s3,s4,s5] 28) (.cells #[.string xn,.int .i64 (k : Int),.int .u32 xv,.int .i64 xz,.int .i64 xb,.int .i64 xk] 68)
        have hbW:=z3 (.cells #[.slice (some ⟨b,of,none⟩) o.secs.length c1,s2,s3,s4,s5] 28) (.cells #[.string xn,.int .i64 (k : Int),.int .u32 xv,.int .i64 xz,.int .i64 xb,.int .i64 xk] 68) (.cells #[.string yn,.int .i64 yr,.int .i64 ya,.slice yb yl yc,.int .i64 yz] 66)
        clear g0 g1 g2 g3 g4 nx nB z1 z3
        generalize ((w.alloc (.cells #[.slice (some ⟨b,of,none⟩) o.secs.length c1,s2,s3,s4,s5] 28)).alloc (.cells #[.string xn,.int .i64 (k : Int),.int .u32 xv,.int .i64 xz,.int .i64 xb,.int .i64 xk] 68)).alloc (.cells #[.string yn,.int .i64 yr,.int .i64 ya,.slice yb yl yc,.int .i64 yz] 66) = Wx at *
        have t2:=fun d os=>cell_regrown m2 d os
        have t3:=fun d os=>cell_regrown m3 d os
        have t5:=fun d os=>cell_regrown m5 d os
        have u0:=fun d os=>cell_regrown x0 d os
        have u1:=fun d os=>cell_regrown x1 d os
        have u2:=fun d os=>cell_regrown x2 d os
        have u3:=fun d os=>cell_regrown x3 d os
        have u4:=fun d os=>cell_regrown x4 d os
        refine wp_region_quiet_below (by kernel_rfl) (by kernel_rfl) ?_
        repeat (go_big_quiet_step (first | exact Calls.regrown_of (hP _) | exact Calls.regrown_of (hW _)))
        refine wpQuiet_nil ?_
        intro _ hw'
        obtain ⟨⟨dq,osq⟩,hw''⟩:=hw'
        subst hw''
        have hb2:=bel_then hbW (Nat.le_refl _) (below_regrown Wx dq osq)
        cases pl
        · have hres:=Lib.hid (show r = false by
            rw [hrr.out]
            exact dec_no fun h=>of_decide_eq_false hplH.out.symm (hDef.out.1 h).1)
          go_wp2
          go_ret
          exact ⟨by rw [hres.out];rfl,hb2⟩
        · by_cases ck : xk = 1
          · have hk1 : (xk != 1) = false:=by simp [ck]
            by_cases cB : B = 0
            · have hB3 : (B != 0) = false:=by simp [cB]
              have hres:=Lib.hid (show r = false by
                rw [hrr.out]
                exact dec_no fun h=>by rcases (hDef.out.1 h).2 with h | h;exact h ck;exact h cB)
              clear ck cB
              go_wp2
              go_ret
              exact ⟨by rw [hres.out];rfl,hb2⟩
            · have hB3 : (B != 0) = true:=bne_iff_ne.2 cB
              have hres:=Lib.hid (show r = true by
                rw [hrr.out]
                exact dec_yes (hDef.out.2 ⟨of_decide_eq_true hplH.out.symm,.inr cB⟩))
              clear ck cB
              go_wp2
              go_ret
              exact ⟨by rw [hres.out];rfl,hb2⟩
          · have hk1 : (xk != 1) = true:=bne_iff_ne.2 ck
            have hres:=Lib.hid (show r = true by
              rw [hrr.out]
              exact dec_yes (hDef.out.2 ⟨of_decide_eq_true hplH.out.symm,.inl ck⟩))
            clear ck
            go_wp2
            go_ret
            exact ⟨by rw [hres.out];rfl,hb2⟩
      · have hres:=Lib.hid (show r = false by
          rw [hrr.out]
          refine dec_no fun h=>?_
          rcases h with ⟨h,_⟩ | ⟨h,_⟩ | ⟨h,y,hy,_⟩
          · exact e1 h
          · exact e2 h
          · dsimp only at h hy
            have:=(List.getElem?_eq_some_iff.1 hy).1
            omega)
        have hI:=fun W=>isIndex_no (w:=W) xs a1 o.secs.length c1 (by omega)
        clear hs k1
        go_enter Tryz.func224,Tryz.ntmps224
        go_wp2_with (go_at_call 107;refine (hI _).mono ?_;rintro e w1 ⟨rfl,rfl⟩)
        go_ret
        exact ⟨by rw [hres.out];rfl,z1 _ _⟩
end Go.Ev

