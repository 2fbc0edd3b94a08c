import Derived.Test.YtepopmplcjhfbaaGreatObG06
import Derived.Lib.QuietBelow
import Derived.Deep.LoopGhost
import Derived.Test.YtepopmplcjhfbaaGreatObG00
import Derived.Test.YtepopmplcjhfbaaGreatObG05
import Derived.Laws.StructEq
set_option linter.unusedSectionVars false
set_option linter.unusedVariables false
set_option linter.unusedSimpArgs false
set_option linter.unnecessarySimpa false
namespace Go.Ev
open Go.RowKit Go.Proofs Go.Rw
def SymOk (l : List SecT) (x : SymT) : Prop:=NameOk x.name ∧ (0 ≤ x.bind ∧ x.bind ≤ 2) ∧ (0 ≤ x.kind ∧ x.kind ≤ 2) ∧ DefOk l x
set_option maxRecDepth 100000 in
set_option maxHeartbeats 4000000 in
theorem psym_c {w : World} {v : Value} {o : ObjT} (h : ObjAt w v o) (hs : ∀ y ∈ o.secs,SecOk y ∧ y.R) (x : SymT) (hx : x.R) :
    Calls Tryz.prog 157 #[v,.agg #[.string x.name,.int .i64 x.sec,.int .u32 x.val,.int .i64 x.size,.int .i64 x.bind,.int .i64 x.kind]] w (BelR (dec (SymOk o.secs x)) w):=by
  have z1 : ∀ A B,Below w.heap.size w ((w.alloc A).alloc B):=fun A B=>((Below.refl w.heap.size w).alloc (Nat.le_refl _) A).alloc (by simp) B
  have hD:=fun A B=>pdef_c (h.below (z1 A B)) hs x hx
  obtain ⟨s1,s2,s3,s4,s5,rfl,k1,k2,k3,k4,k5⟩:=h
  clear k1 k2 k3 k4 k5
  obtain ⟨r,hr0⟩ : ∃ r,r = dec (SymOk o.secs x):=⟨_,rfl⟩
  rw [← hr0]
  have hrr:=Lib.hid hr0
  clear hr0
  have hN:=fun W=>pname_c (w:=W) x.name hx.2.2.2.2.2
  obtain ⟨r1,r2,r3,r4,r5,r6⟩:=hx
  unfold inI64 inU32 at *
  by_cases c1 : NameOk x.name
  · have hN1:=fun (W : World)=>(hN W).mono (fun e w' hh=>(⟨by rw [hh.1];unfold nameV;rw [@decide_eq_true _ (Classical.propDecidable _) c1],hh.2⟩ : e = .returned (.bool true) ∧ w' = W))
    clear hN
    by_cases c2 : 0 ≤ x.bind ∧ x.bind ≤ 2
    · by_cases c3 : 0 ≤ x.kind ∧ x.kind ≤ 2
      · have hres:=Lib.hid (show r = dec (DefOk o.secs x) by
          rw [hrr.out]
          unfold dec
          congr 1
          exact propext ⟨fun h=>h.2.2.2,fun h=>⟨c1,c2,c3,h⟩⟩)
        generalize dec (DefOk o.secs x) = q at hres hD
        clear c1
        obtain ⟨xn,xs,xv,xz,xb,xk⟩:=x
        dsimp only at *
        go_enter Tryz.func157,Tryz.ntmps157
        go_wp2_with (first
          | (go_at_call 223;refine (hN1 _).mono ?_;rintro e w1 ⟨rfl,rfl⟩)
          | (go_at_call 221;first | (refine (within_yes (by omega) (by omega)).mono ?_;rintro e w1 ⟨rfl,rfl⟩) | (refine (within_no (by omega)).mono ?_;rintro e w1 ⟨rfl,rfl⟩))
          | (go_at_call 224;refine (hD _ _).mono ?_;rintro e w1 ⟨rfl,hb1⟩))
        go_ret
        exact ⟨by rw [hres.out];rfl,bel_then (z1 _ _) (Nat.le_refl _) hb1⟩
      · have hres:=Lib.hid (show r = false by rw [hrr.out];exact dec_no fun h=>c3 h.2.2.1)
        clear c1 hD
        obtain ⟨xn,xs,xv,xz,xb,xk⟩:=x
        dsimp only at *
        go_enter Tryz.func157,Tryz.ntmps157
        go_wp2_with (first
          | (go_at_call 223;refine (hN1 _).mono ?_;rintro e w1 ⟨rfl,rfl⟩)
          | (go_at_call 221;first | (refine (within_yes (by omega) (by omega)).mono ?_;rintro e w1 ⟨rfl,rfl⟩) | (refine (within_no (by omega)).mono ?_;rintro e w1 ⟨rfl,rfl⟩)))
        go_ret
        exact ⟨by rw [hres.out];rfl,z1 _ _⟩
    · have hres:=Lib.hid (show r = false by rw [hrr.out];exact dec_no fun h=>c2 h.2.1)
      clear c1 hD
      obtain ⟨xn,xs,xv,xz,xb,xk⟩:=x
      dsimp only at *
      go_enter Tryz.func157,Tryz.ntmps157
      go_wp2_with (first
        | (go_at_call 223;refine (hN1 _).mono ?_;rintro e w1 ⟨rfl,rfl⟩)
        | (go_at_call 221;first | (refine (within_yes (by omega) (by omega)).mono ?_;rintro e w1 ⟨rfl,rfl⟩) | (refine (within_no (by omega)).mono ?_;rintro e w1 ⟨rfl,rfl⟩)))
      go_ret
      exact ⟨by rw [hres.out];rfl,z1 _ _⟩
  · have hN1:=fun (W : World)=>(hN W).mono (fun e w' hh=>(⟨by rw [hh.1];unfold nameV;rw [@decide_eq_false _ (Classical.propDecidable _) c1],hh.2⟩ : e = .returned (.bool false) ∧ w' = W))
    have hres:=Lib.hid (show r = false by rw [hrr.out];exact dec_no fun h=>c1 h.1)
    clear hN c1 hD
    obtain ⟨xn,xs,xv,xz,xb,xk⟩:=x
    dsimp only at *
    go_enter Tryz.func157,Tryz.ntmps157
    go_wp2_with (go_at_call 223;refine (hN1 _).mono ?_;rintro e w1 ⟨rfl,rfl⟩)
    go_ret
    exact ⟨by rw [hres.out];rfl,z1 _ _⟩
end Go.Ev

namespace Go.Ev
open Go.RowKit Go.Proofs Go.Rw
def SymsOk (o : ObjT) : Prop:=o.syms.length ≤ 500 ∧ (∀ x ∈ o.syms,SymOk o.secs x) ∧ (o.syms.map (·.name)).Nodup
theorem enters156 : ∀ args w,(callFunc 156 args).run Tryz.prog w = .ok (.enter 156 args) w:=enters_of Tryz.func156 (by kernel_rfl) rfl
set_option maxRecDepth 100000 in
set_option maxHeartbeats 1000000 in
theorem csym_c {w : World} {B : Nat} {s1 s2 s3 s4 s5 : Value} {o : ObjT} (h : ObjAt w (.agg #[s1,s2,s3,s4,s5]) o) (hB : w.heap[B]? = some (.cells #[s1,s2,s3,s4,s5] 28 (0,0))) (hs : ∀ y ∈ o.secs,SecOk y ∧ y.R) (x : SymT) (hx : x.R) :
    Calls Tryz.prog 156 #[.agg #[.string x.name,.int .i64 x.sec,.int .u32 x.val,.int .i64 x.size,.int .i64 x.bind,.int .i64 x.kind],.pointer (some ⟨B,0,none⟩)] w (BelR (dec (SymOk o.secs x)) w):=by
  have b0 : w.cell? ⟨B,0,none⟩ = some s1:=by simp [World.cell?,hB]
  have b1 : w.cell? ⟨B,1,none⟩ = some s2:=by simp [World.cell?,hB]
  have b2 : w.cell? ⟨B,2,none⟩ = some s3:=by simp [World.cell?,hB]
  have b3 : w.cell? ⟨B,3,none⟩ = some s4:=by simp [World.cell?,hB]
  have b4 : w.cell? ⟨B,4,none⟩ = some s5:=by simp [World.cell?,hB]
  have z : ∀ A,Below w.heap.size w (w.alloc A):=fun A=>(Below.refl w.heap.size w).alloc (Nat.le_refl _) A
  have hC:=fun A=>psym_c (h.below (z A)) hs x hx
  have c0:=fun A=>(World.cell?_alloc_lt w A _ (low_of_cell b0)).trans b0
  have c1:=fun A=>(World.cell?_alloc_lt w A _ (low_of_cell b1)).trans b1
  have c2:=fun A=>(World.cell?_alloc_lt w A _ (low_of_cell b2)).trans b2
  have c3:=fun A=>(World.cell?_alloc_lt w A _ (low_of_cell b3)).trans b3
  have c4:=fun A=>(World.cell?_alloc_lt w A _ (low_of_cell b4)).trans b4
  clear h hB hs hx
  obtain ⟨xn,xs,xv,xz,xb,xk⟩:=x
  dsimp only at *
  go_enter Tryz.func156,Tryz.ntmps156
  go_wp2_with (go_at_call 157;refine (hC _).mono ?_;rintro e w1 ⟨rfl,hb1⟩)
  go_ret
  exact ⟨rfl,bel_then (z _) (Nat.le_refl _) hb1⟩
set_option maxRecDepth 100000 in
set_option maxHeartbeats 4000000 in
theorem psyms_c {w : World} {v : Value} {o : ObjT} (h : ObjAt w v o) (hR : o.R) (hs : ∀ y ∈ o.secs,SecOk y) : Calls Tryz.prog 66 #[v] w (BelR (dec (SymsOk o)) w):=by
  have hmf : ∀ (fn : Fn) (first cap : Array Value) (w : World),(Instr.makeFunc fn first cap).run Tryz.prog w = .ok (.func fn first cap) w:=fun _ _ _ _=>rfl
  have hs2 : ∀ y ∈ o.secs,SecOk y ∧ y.R:=fun y hy=>⟨hs y hy,hR.1 y hy⟩
  obtain ⟨s1,s2,s3,s4,s5,rfl,k1,k2,k3,k4,k5⟩:=h
  have hO : ObjAt w (.agg #[s1,s2,s3,s4,s5]) o:=⟨s1,s2,s3,s4,s5,rfl,k1,k2,k3,k4,k5⟩
  have z : ∀ A,Below w.heap.size w (w.alloc A):=fun A=>(Below.refl w.heap.size w).alloc (Nat.le_refl _) A
  obtain ⟨W,hW⟩ : ∃ W,W = w.alloc (.cells #[s1,s2,s3,s4,s5] 28):=⟨_,rfl⟩
  have hbW : Below w.heap.size w W:=by rw [hW];exact z _
  have hBx : W.heap[w.heap.size]? = some (.cells #[s1,s2,s3,s4,s5] 28 (0,0)):=by rw [hW];exact heap_alloc_new w _
  have hlt : w.heap.size < W.heap.size:=by rw [hW,World.size_alloc];omega
  have hE:=every_sym (k2.below hbW) hR.2.2.2.2.2.2.1 500 156 #[.pointer (some ⟨w.heap.size,0,none⟩)] enters156 (fun x=>dec (SymOk o.secs x))
    (fun W' hW' x hx=>csym_c (hO.below (hbW.trans (hW'.mono (Nat.le_of_lt hlt)))) ((hW'.block _ hlt).trans hBx) hs2 x (hR.2.1 x hx))
  have hDf:=fun W' (hW' : Below W.heap.size W W')=>differ_sym (k2.below (hbW.trans (hW'.mono (Nat.le_of_lt hlt)))) hR.2.1 hR.2.2.2.2.2.2.1
  have b1 : ∀ W',Below W.heap.size W W' → W'.cell? ⟨w.heap.size,1,none⟩ = some s2:=fun W' hW'=>by
    have:=(hW'.block _ hlt).trans hBx
    simp [World.cell?,this]
  have b1W:=b1 W (Below.refl _ _)
  obtain ⟨r,hr0⟩ : ∃ r,r = dec (SymsOk o):=⟨_,rfl⟩
  rw [← hr0]
  have hrr:=Lib.hid hr0
  clear hr0 hO k1 k3 k4 k5 hs hBx
  by_cases hc : (o.syms.length : Int) ≤ 500 ∧ ∀ x ∈ o.syms,SymOk o.secs x
  · rw [show (decide ((o.syms.length : Int) ≤ 500) && o.syms.all fun x=>dec (SymOk o.secs x)) = true by
      simp only [Bool.and_eq_true,decide_eq_true_eq,List.all_eq_true]
      exact ⟨hc.1,fun x hx=>dec_yes (hc.2 x hx)⟩] at hE
    have hres:=Lib.hid (show r = dec (o.syms.map (·.name)).Nodup by
      rw [hrr.out]
      unfold dec
      congr 1
      exact propext ⟨fun h=>h.2.2,fun h=>⟨by have:=hc.1;omega,hc.2,h⟩⟩)
    generalize dec (o.syms.map (·.name)).Nodup = q at hres hDf
    clear hc hs2 k2 hR
    go_enter Tryz.func66,Tryz.ntmps66
    go_wp2_with fail
    rw [← hW]
    clear hW
    go_wp2_with (go_at_call 158;refine hE.mono ?_;rintro e w1 ⟨rfl,hb1⟩)
    have b1w:=b1 _ hb1
    go_wp2_with (go_at_call 159;refine (hDf _ hb1).mono ?_;rintro e w2 ⟨rfl,hb2⟩)
    go_ret
    exact ⟨by rw [hres.out];rfl,bel_then (bel_then hbW (Nat.le_refl _) hb1) (Nat.le_refl _) hb2⟩
  · rw [show (decide ((o.syms.length : Int) ≤ 500) && o.syms.all fun x=>dec (SymOk o.secs x)) = false by
      rw [← Bool.not_eq_true]
      simp only [Bool.and_eq_true,decide_eq_true_eq,List.all_eq_true]
      exact fun h=>hc ⟨h.1,fun x hx=>dec_iff.1 (h.2 x hx)⟩] at hE
    have hres:=Lib.hid (show r = false by
      rw [hrr.out]
      exact dec_no fun h=>hc ⟨by have:=h.1;omega,h.2.1⟩)
    clear hc hs2 k2 hR hDf
    go_enter Tryz.func66,Tryz.ntmps66
    go_wp2_with fail
    rw [← hW]
    clear hW
    go_wp2_with (go_at_call 158;refine hE.mono ?_;rintro e w1 ⟨rfl,hb1⟩)
    go_ret
    exact ⟨by rw [hres.out];rfl,bel_then hbW (Nat.le_refl _) hb1⟩
end Go.Ev

namespace Go.Ev
open Go.RowKit Go.Proofs Go.Rw
def SymB (l : List SecT) (x : SymT) : Prop:=(0 ≤ x.bind ∧ x.bind ≤ 2) ∧ (0 ≤ x.kind ∧ x.kind ≤ 2) ∧ DefOk l x
end Go.Ev

namespace Go.Ev
open Go.RowKit Go.Proofs Go.Rw
end Go.Ev

namespace Go.Ev
open Go.RowKit Go.Proofs
def wd (k : Int) : Nat:=if k = 3 then 1 else if k = 2 then 2 else 4
def okR (v k : Int) : Bool:=if k = 2 then decide (-32768 ≤ v) && decide (v ≤ 65535) else if k = 3 then decide (-128 ≤ v) && decide (v ≤ 255) else true
def putB (q : Nat → Int) (off m : Nat) (F : Nat → Int) (j : Nat) : Int:=if off ≤ j ∧ j < off + m then F (j - off) else q j
theorem OwnB.cell {w : World} {g n cap : Nat} {q : Nat → Int} (h : OwnB w g n cap q) {j : Nat} (hj : j < n) : w.cell? ⟨g,j,none⟩ = some (.int .u8 (q j)):=by
  obtain ⟨cur,h,_,_,_,hc⟩:=h
  simp [World.cell?,h,hc j hj]
theorem OwnB.frozen {w : World} {g n cap : Nat} {q : Nat → Int} (h : OwnB w g n cap q) (j : Nat) : w.frozen? ⟨g,j,none⟩ = false:=by
  obtain ⟨cur,h,_⟩:=h
  simp [World.frozen?,h]
theorem OwnB.congr {w : World} {g n cap : Nat} {q q' : Nat → Int} (h : OwnB w g n cap q) (e : ∀ j,j < n → q j = q' j) : OwnB w g n cap q':=by
  obtain ⟨cur,h,h1,h2,h3,hc⟩:=h
  exact ⟨cur,h,h1,h2,h3,fun j hj=>e j hj ▸ hc j hj⟩
def setQ (q : Nat → Int) (i : Nat) (u : Int) (j : Nat) : Int:=if j = i then u else q j
theorem OwnB.set {w : World} {g n cap : Nat} {q : Nat → Int} (h : OwnB w g n cap q) (i : Nat) (u : Int) : OwnB (w.setCell ⟨g,i,none⟩ (.int .u8 u)) g n cap (setQ q i u) ∧ Below g w (w.setCell ⟨g,i,none⟩ (.int .u8 u)):=by
  obtain ⟨cur,hg,h1,h2,h3,hc⟩:=h
  refine ⟨⟨cur.setIfInBounds i (.int .u8 u),heap_setCell_same w g i cur 5 _ hg,h1,h2,by simpa using h3,fun j hj=>?_⟩,⟨rfl,rfl,rfl,by simp,fun k hk=>heap_setCell_other w ⟨g,i,none⟩ k _ (by show k ≠ g;omega)⟩⟩
  unfold setQ
  by_cases e : j = i
  · subst e
    have : j < cur.size:=by omega
    simp [this]
  · have e' : ¬ i = j:=fun x=>e x.symm
    simp [e,e',hc j hj]
def PutR (q : Nat → Int) (g n cap off m : Nat) (F : Nat → Int) (w : World) (e : Ending) (w' : World) : Prop:=(∃ r,e = .returned r) ∧ OwnB w' g n cap (putB q off m F) ∧ Below g w w'
def byteN (v : Int) : Nat → Int
  | 0=>v % 256
  | 1=>v / 256 % 256
  | 2=>v / 65536 % 256
  | _=>v / 16777216 % 256
theorem putB_succ (q : Nat → Int) (off m : Nat) (F : Nat → Int) (j : Nat) : setQ (putB q off m F) (off + m) (F m) j = putB q off (m + 1) F j:=by
  unfold setQ putB
  by_cases e : j = off + m
  · subst e
    rw [if_pos rfl,if_pos (by omega)]
    congr 1;omega
  · rw [if_neg e]
    by_cases h : off ≤ j ∧ j < off + m
    · rw [if_pos h,if_pos (by omega)]
    · rw [if_neg h,if_neg (by omega)]
theorem OwnB.put {w : World} {g n cap off m : Nat} {q F : Nat → Int} {u : Int} (h : OwnB w g n cap (putB q off m F)) (hu : F m = u) : OwnB (w.setCell ⟨g,off + m,none⟩ (.int .u8 u)) g n cap (putB q off (m + 1) F) ∧ Below g w (w.setCell ⟨g,off + m,none⟩ (.int .u8 u)):=by
  subst hu
  obtain ⟨h1,h2⟩:=h.set (off + m) (F m)
  exact ⟨h1.congr fun j _=>putB_succ q off m F j,h2⟩
end Go.Ev

namespace Go.Ev
open Go.RowKit Go.Proofs Go.Rw
def RelOk (o : ObjT) (x : RelT) : Prop :=
  (0 ≤ x.sec ∧ x.sec < (o.secs.length : Int)) ∧ (0 ≤ x.sym ∧ x.sym < (o.syms.length : Int)) ∧ (1 ≤ x.kind ∧ x.kind ≤ 5) ∧ (-2147483648 ≤ x.add ∧ x.add ≤ 2147483647) ∧
  ∃ y,o.secs[x.sec.toNat]? = some y ∧ 0 ≤ x.off ∧ x.off ≤ (y.bn : Int) - widthV x.kind
theorem isIndexS_c {w : World} (i : Int) (a : Option Addr) (n c : Nat) {r : Bool} (h : r = decide (0 ≤ i ∧ i < (n : Int))) : Calls Tryz.prog 225 #[.int .i64 i,.slice a n c] w (BelR r w):=by
  by_cases h0 : 0 ≤ i
  · by_cases h1 : i < (n : Int)
    · rw [decide_eq_true ⟨h0,h1⟩] at h
      subst h
      go_enter Tryz.func225,Tryz.ntmps225
      go_wp2
      go_ret
      exact ⟨rfl,Below.refl _ _⟩
    · rw [decide_eq_false (fun h=>h1 h.2)] at h
      subst h
      go_enter Tryz.func225,Tryz.ntmps225
      go_wp2
      go_ret
      exact ⟨rfl,Below.refl _ _⟩
  · rw [decide_eq_false (fun h=>h0 h.1)] at h
    subst h
    go_enter Tryz.func225,Tryz.ntmps225
    go_wp2
    go_ret
    exact ⟨rfl,Below.refl _ _⟩
theorem isIndexX_c {w : World} (i : Int) (a : Option Addr) (n c : Nat) {r : Bool} (h : r = decide (0 ≤ i ∧ i < (n : Int))) : Calls Tryz.prog 107 #[.int .i64 i,.slice a n c] w (BelR r w):=by
  by_cases h0 : 0 ≤ i ∧ i < (n : Int)
  · rw [decide_eq_true h0] at h
    subst h
    exact (isIndex_c i a n c h0.1 h0.2).mono fun e w' hh=>⟨hh.1,by rw [hh.2];exact Below.refl _ _⟩
  · rw [decide_eq_false h0] at h
    subst h
    exact (isIndex_no i a n c (by omega)).mono fun e w' hh=>⟨hh.1,by rw [hh.2];exact Below.refl _ _⟩
theorem kind_x {w : World} (z : Int) {r : Bool} (h : r = decide (1 ≤ z ∧ z ≤ 5)) : Calls Tryz.prog 140 #[.int .i64 z] w (BelR r w):=by
  have hW:=within_b (w:=w) (n:=z) (a:=1) (b:=5) (r:=r) (by
    by_cases c : 1 ≤ z ∧ z ≤ 5
    · exact .inl ⟨by rw [h];exact decide_eq_true c,c⟩
    · exact .inr ⟨by rw [h];exact decide_eq_false c,by omega⟩)
  clear h
  go_enter Tryz.func140,Tryz.ntmps140
  go_wp2_with (go_at_call 221;refine hW.mono ?_;rintro e w1 ⟨rfl,hb⟩)
  go_ret
  exact ⟨rfl,hb⟩
theorem addend_x {w : World} (z : Int) {r : Bool} (h : r = decide (-2147483648 ≤ z ∧ z ≤ 2147483647)) : Calls Tryz.prog 141 #[.int .i64 z] w (BelR r w):=by
  have hW:=within_b (w:=w) (n:=z) (a:=-2147483648) (b:=2147483647) (r:=r) (by
    by_cases c : -2147483648 ≤ z ∧ z ≤ 2147483647
    · exact .inl ⟨by rw [h];exact decide_eq_true c,c⟩
    · exact .inr ⟨by rw [h];exact decide_eq_false c,by omega⟩)
  clear h
  go_enter Tryz.func141,Tryz.ntmps141
  go_wp2_with (go_at_call 221;refine hW.mono ?_;rintro e w1 ⟨rfl,hb⟩)
  go_ret
  exact ⟨rfl,hb⟩
theorem size_x {w : World} (z : Int) : Calls Tryz.prog 145 #[.int .i64 z] w fun e w'=>e = .returned (.int .i64 (widthV z)) ∧ w' = w:=by
  unfold widthV
  by_cases c3 : z = 3
  · subst c3
    go_enter Tryz.func145,Tryz.ntmps145
    go_wp2
    go_ret
    exact ⟨rfl,rfl⟩
  · have k3 : (z == 3) = false:=beq_eq_false_iff_ne.2 c3
    rw [if_neg c3]
    by_cases c2 : z = 2
    · subst c2
      go_enter Tryz.func145,Tryz.ntmps145
      go_wp2
      go_ret
      exact ⟨rfl,rfl⟩
    · have k2 : (z == 2) = false:=beq_eq_false_iff_ne.2 c2
      rw [if_neg c2]
      go_enter Tryz.func145,Tryz.ntmps145
      go_wp2
      go_ret
      exact ⟨rfl,rfl⟩
theorem width_in (z : Int) : 1 ≤ widthV z ∧ widthV z ≤ 4:=by
  unfold widthV
  split
  · omega
  · split <;> omega
theorem field_x {w : World} (a : Option Addr) (n c : Nat) (off kind : Int) {r : Bool} (hn : n ≤ 140737488351232) (h : r = decide (0 ≤ off ∧ off ≤ (n : Int) - widthV kind)) : Calls Tryz.prog 142 #[.slice a n c,.int .i64 off,.int .i64 kind] w (BelR r w):=by
  have hS:=fun W=>size_x (w:=W) kind
  have hwd:=width_in kind
  have hW:=fun W=>within_b (w:=W) (n:=off) (a:=0) (b:=(n : Int) - widthV kind) (r:=r) (by
    by_cases c : 0 ≤ off ∧ off ≤ (n : Int) - widthV kind
    · exact .inl ⟨by rw [h];exact decide_eq_true c,c⟩
    · exact .inr ⟨by rw [h];exact decide_eq_false c,by omega⟩)
  clear h
  generalize widthV kind = z at hS hwd hW
  obtain ⟨T,hT⟩ : ∃ T : Int,T = (n : Int) - z:=⟨_,rfl⟩
  have hT1 : (n : Int) - z = T:=hT.symm
  rw [← hT] at hW
  have hT2 : -4 ≤ T ∧ T ≤ 140737488351232:=by omega
  clear hT
  go_enter Tryz.func142,Tryz.ntmps142
  go_wp2_with (first | (go_at_call 145;refine (hS _).mono ?_;rintro e w1 ⟨rfl,rfl⟩) | (go_at_call 221;refine (hW _).mono ?_;rintro e w1 ⟨rfl,hb⟩))
  go_ret
  exact ⟨rfl,hb⟩
end Go.Ev

namespace Go.Ev
open Go.RowKit Go.Proofs Go.Rw
set_option maxRecDepth 100000 in
set_option maxHeartbeats 8000000 in
theorem prel_c {w : World} {v : Value} {o : ObjT} (h : ObjAt w v o) (hR : o.R) (x : RelT) (hx : x.R) :
    Calls Tryz.prog 161 #[v,.agg #[.int .i64 x.sec,.int .i64 x.off,.int .i64 x.kind,.int .i64 x.sym,.int .i64 x.add]] w (BelR (dec (RelOk o x)) w):=by
  obtain ⟨s1,s2,s3,s4,s5,rfl,k1,k2,k3,k4,k5⟩:=h
  obtain ⟨sa,sc,rfl⟩:=rows_slice k1
  obtain ⟨ya,yc,rfl⟩:=rows_slice k2
  obtain ⟨r,hr0⟩ : ∃ r,r = dec (RelOk o x):=⟨_,rfl⟩
  rw [← hr0]
  have hrr:=Lib.hid hr0
  clear hr0 k2 k3 k4 k5
  obtain ⟨xs,xo,xk,xy,xa⟩:=x
  obtain ⟨r1,r2,r3,r4,r5⟩:=hx
  dsimp only at *
  unfold inI64 at *
  have hbW : Below w.heap.size w ((w.alloc (.cells #[.slice sa o.secs.length sc,.slice ya o.syms.length yc,s3,s4,s5] 28)).alloc (.cells #[.int .i64 xs,.int .i64 xo,.int .i64 xk,.int .i64 xy,.int .i64 xa] 94)):=((Below.refl w.heap.size w).alloc (Nat.le_refl _) _).alloc (by simp) _
  have nA:=fun (i : Nat) (u : Value) (h : (#[.slice sa o.secs.length sc,.slice ya o.syms.length yc,s3,s4,s5] : Array Value)[i]? = some u)=>(show ((w.alloc (.cells #[.slice sa o.secs.length sc,.slice ya o.syms.length yc,s3,s4,s5] 28)).alloc (.cells #[.int .i64 xs,.int .i64 xo,.int .i64 xk,.int .i64 xy,.int .i64 xa] 94)).cell? ⟨w.heap.size,i,none⟩ = some u from by
    have:=new_cell w #[.slice sa o.secs.length sc,.slice ya o.syms.length yc,s3,s4,s5] 28 i u h
    exact (World.cell?_alloc_lt _ _ _ (low_of_cell this)).trans this)
  have nB:=fun (i : Nat) (u : Value) (h : (#[.int .i64 xs,.int .i64 xo,.int .i64 xk,.int .i64 xy,.int .i64 xa] : Array Value)[i]? = some u)=>(show ((w.alloc (.cells #[.slice sa o.secs.length sc,.slice ya o.syms.length yc,s3,s4,s5] 28)).alloc (.cells #[.int .i64 xs,.int .i64 xo,.int .i64 xk,.int .i64 xy,.int .i64 xa] 94)).cell? ⟨w.heap.size + 1,i,none⟩ = some u from by
    have:=new_cell (w.alloc (.cells #[.slice sa o.secs.length sc,.slice ya o.syms.length yc,s3,s4,s5] 28)) #[.int .i64 xs,.int .i64 xo,.int .i64 xk,.int .i64 xy,.int .i64 xa] 94 i u h
    rw [World.size_alloc] at this
    exact this)
  have a0:=nA 0 _ rfl
  have a1:=nA 1 _ rfl
  have b0:=nB 0 _ rfl
  have b1:=nB 1 _ rfl
  have b2:=nB 2 _ rfl
  have b3:=nB 3 _ rfl
  have b4:=nB 4 _ rfl
  have kW:=k1.below hbW
  clear nA nB k1
  go_enter Tryz.func161,Tryz.ntmps161
  go_wp2_with fail
  generalize (w.alloc (.cells #[.slice sa o.secs.length sc,.slice ya o.syms.length yc,s3,s4,s5] 28)).alloc (.cells #[.int .i64 xs,.int .i64 xo,.int .i64 xk,.int .i64 xy,.int .i64 xa] 94) = Wx at *
  have t0:=fun d os=>cell_regrown a0 d os
  have t1:=fun d os=>cell_regrown a1 d os
  have u0:=fun d os=>cell_regrown b0 d os
  have u1:=fun d os=>cell_regrown b1 d os
  have u2:=fun d os=>cell_regrown b2 d os
  have u3:=fun d os=>cell_regrown b3 d os
  have u4:=fun d os=>cell_regrown b4 d os
  by_cases c1 : 0 ≤ xs ∧ xs < (o.secs.length : Int)
  · have h1:=fun W=>isIndexX_c (w:=W) xs sa o.secs.length sc (r:=true) (decide_eq_true c1).symm
    by_cases c2 : 0 ≤ xy ∧ xy < (o.syms.length : Int)
    · have h2:=fun W=>isIndexS_c (w:=W) xy ya o.syms.length yc (r:=true) (decide_eq_true c2).symm
      by_cases c3 : 1 ≤ xk ∧ xk ≤ 5
      · have h3:=fun W=>kind_x (w:=W) xk (r:=true) (decide_eq_true c3).symm
        by_cases c4 : -2147483648 ≤ xa ∧ xa ≤ 2147483647
        · have h4:=fun W=>addend_x (w:=W) xa (r:=true) (decide_eq_true c4).symm
          obtain ⟨k,rfl⟩ : ∃ k : Nat,xs = (k : Int):=⟨xs.toNat,by omega⟩
          have hk : k < o.secs.length:=by omega
          obtain ⟨b,of,rfl⟩:=rows_some2 kW hk
          obtain ⟨y,hy⟩ : ∃ y,o.secs[k]? = some y:=⟨o.secs[k],by simp [hk]⟩
          have g3:=(rows_sec kW hy).2.2.2.1
          have v3:=fun d os=>cell_regrown g3 d os
          have hyR:=hR.1 y (List.mem_of_getElem? hy)
          obtain ⟨q,hq⟩ : ∃ q : Bool,q = decide (0 ≤ xo ∧ xo ≤ (y.bn : Int) - widthV xk):=⟨_,rfl⟩
          have h5:=fun W=>field_x (w:=W) y.ba y.bn y.bc xo xk (r:=q) hyR.2.2.1 hq
          have hklt : (k : Int) < (o.secs.length : Int):=c1.2
          have hres:=Lib.hid (show r = q by
            rw [hrr.out,hq]
            by_cases c5 : 0 ≤ xo ∧ xo ≤ (y.bn : Int) - widthV xk
            · rw [decide_eq_true c5]
              exact dec_yes ⟨c1,c2,c3,c4,y,by dsimp only;rw [Int.toNat_natCast];exact hy,c5⟩
            · rw [decide_eq_false c5]
              refine dec_no fun h=>?_
              obtain ⟨-, -, -, -,y',hy',h5⟩:=h
              dsimp only at hy' h5
              rw [Int.toNat_natCast,hy] at hy'
              cases hy'
              exact c5 h5)
          clear hq hy hyR hR kW
          obtain ⟨yn,yr,yal,yb,yl,ycc,yz⟩:=y
          dsimp only at h5 g3 v3
          refine wp_region_quiet_below (by kernel_rfl) (by kernel_rfl) ?_
          repeat (go_big_quiet_step (first | exact Calls.regrown_of (h1 _) | exact Calls.regrown_of (h2 _) | exact Calls.regrown_of (h3 _) | exact Calls.regrown_of (h4 _) | exact Calls.regrown_of (h5 _)))
          refine wpQuiet_nil ?_
          intro _ hw'
          obtain ⟨⟨dq,osq⟩,hw''⟩:=hw'
          subst hw''
          have hb2:=bel_then hbW (Nat.le_refl _) (below_regrown Wx dq osq)
          go_wp2
          go_ret
          exact ⟨by rw [hres.out];rfl,hb2⟩
        · have h4:=fun W=>addend_x (w:=W) xa (r:=false) (decide_eq_false c4).symm
          have hres:=Lib.hid (show r = false by rw [hrr.out];exact dec_no fun h=>c4 h.2.2.2.1)
          clear hR kW
          refine wp_region_quiet_below (by kernel_rfl) (by kernel_rfl) ?_
          repeat (go_big_quiet_step (first | exact Calls.regrown_of (h1 _) | exact Calls.regrown_of (h2 _) | exact Calls.regrown_of (h3 _) | exact Calls.regrown_of (h4 _)))
          refine wpQuiet_nil ?_
          intro _ hw'
          obtain ⟨⟨dq,osq⟩,hw''⟩:=hw'
          subst hw''
          have hb2:=bel_then hbW (Nat.le_refl _) (below_regrown Wx dq osq)
          go_wp2
          go_ret
          exact ⟨by rw [hres.out];rfl,hb2⟩
      · have h3:=fun W=>kind_x (w:=W) xk (r:=false) (decide_eq_false c3).symm
        have hres:=Lib.hid (show r = false by rw [hrr.out];exact dec_no fun h=>c3 h.2.2.1)
        clear hR kW
        refine wp_region_quiet_below (by kernel_rfl) (by kernel_rfl) ?_
        repeat (go_big_quiet_step (first | exact Calls.regrown_of (h1 _) | exact Calls.regrown_of (h2 _) | exact Calls.regrown_of (h3 _)))
        refine wpQuiet_nil ?_
        intro _ hw'
        obtain ⟨⟨dq,osq⟩,hw''⟩:=hw'
        subst hw''
        have hb2:=bel_then hbW (Nat.le_refl _) (below_regrown Wx dq osq)
        go_wp2
        go_ret
        exact ⟨by rw [hres.out];rfl,hb2⟩
    · have h2:=fun W=>isIndexS_c (w:=W) xy ya o.syms.length yc (r:=false) (decide_eq_false c2).symm
      have hres:=Lib.hid (show r = false by rw [hrr.out];exact dec_no fun h=>c2 h.2.1)
      clear hR kW
      refine wp_region_quiet_below (by kernel_rfl) (by kernel_rfl) ?_
      repeat (go_big_quiet_step (first | exact Calls.regrown_of (h1 _) | exact Calls.regrown_of (h2 _)))
      refine wpQuiet_nil ?_
      intro _ hw'
      obtain ⟨⟨dq,osq⟩,hw''⟩:=hw'
      subst hw''
      have hb2:=bel_then hbW (Nat.le_refl _) (below_regrown Wx dq osq)
      go_wp2
      go_ret
      exact ⟨by rw [hres.out];rfl,hb2⟩
  · have h1:=fun W=>isIndexX_c (w:=W) xs sa o.secs.length sc (r:=false) (decide_eq_false c1).symm
    have hres:=Lib.hid (show r = false by rw [hrr.out];exact dec_no fun h=>c1 h.1)
    clear hR kW
    refine wp_region_quiet_below (by kernel_rfl) (by kernel_rfl) ?_
    repeat (go_big_quiet_step (first | exact Calls.regrown_of (h1 _)))
    refine wpQuiet_nil ?_
    intro _ hw'
    obtain ⟨⟨dq,osq⟩,hw''⟩:=hw'
    subst hw''
    have hb2:=bel_then hbW (Nat.le_refl _) (below_regrown Wx dq osq)
    go_wp2
    go_ret
    exact ⟨by rw [hres.out];rfl,hb2⟩
end Go.Ev

namespace Go.Ev
open Go.RowKit Go.Proofs Go.Rw
def RSteps (l : List RelT) : Prop:=∀ (j : Nat) (x y : RelT),l[j]? = some x → l[j + 1]? = some y → x.sec < y.sec ∨ (x.sec = y.sec ∧ x.off + widthV x.kind ≤ y.off)
set_option maxRecDepth 100000 in
set_option maxHeartbeats 4000000 in
theorem fieldOf_c {w : World} (s o k y a : Int) : Calls Tryz.prog 130 #[.agg #[.int .i64 s,.int .i64 o,.int .i64 k,.int .i64 y,.int .i64 a]] w fun e w'=>e = .returned (.agg #[.int .i64 s,.int .i64 o,.int .i64 (widthV k)]) ∧ Below w.heap.size w w':=by
  have hS:=fun W=>size_x (w:=W) k
  generalize widthV k = z at hS ⊢
  have z2 : ∀ A B,Below w.heap.size w ((w.alloc A).alloc B):=fun A B=>(one_below w A).alloc (by simp) B
  go_enter Tryz.func130,Tryz.ntmps130
  go_wp2_with fail
  go_region_with (go_at_call 145;refine (hS _).mono ?_;rintro e w1 ⟨rfl,rfl⟩)
  all_goals (try go_wp2_with fail)
  all_goals (
    refine bodyPost_ret (v:=.agg #[.int .i64 s,.int .i64 o,.int .i64 z]) (by simp [results,Tryz.f130,go_sem]) rfl ?_
    refine ⟨rfl,?_⟩
    first
      | exact (z2 _ _).drew
      | exact z2 _ _
      | exact ((z2 _ _).drew).setCell (p:=⟨w.heap.size + 1,0,none⟩) (by simp) _
      | trace_state)
theorem enters130 : ∀ args w,(callFunc 130 args).run Tryz.prog w = .ok (.enter 130 args) w:=enters_of Tryz.func130 (by kernel_rfl) rfl
set_option maxRecDepth 100000 in
set_option maxHeartbeats 1000000 in
theorem apart_rel {w : World} {s : Value} {l : List RelT} (h : RowsAt w s RelT.cells 5 l) (hl : l.length ≤ 140737488351232) (hr : ∀ x ∈ l,(inI64 x.off ∧ -140737488351232 ≤ x.off ∧ x.off ≤ 140737488351232)) :
    Calls Tryz.prog 163 #[s,.func (.func 130) #[] #[]] w fun e w'=>e = .returned (.bool (dec (RSteps l))) ∧ Below w.heap.size w w':=by
  obtain ⟨a,c,rfl⟩:=rows_slice h
  obtain ⟨r,hrr⟩ : ∃ r,r = dec (RSteps l):=⟨_,rfl⟩
  rw [← hrr]
  have hrr:=Lib.hid hrr
  have e130:=enters130
  go_enter Tryz.func163,Tryz.ntmps163
  go_wp2
  go_loopw [8] (fun i wr=>∃ k : Nat,k ≤ l.length ∧ i = .int .i64 k ∧ Below w.heap.size w wr ∧ (∀ (j : Nat) (x y : RelT),j + 1 < k → l[j]? = some x → l[j + 1]? = some y → x.sec < y.sec ∨ (x.sec = y.sec ∧ x.off + widthV x.kind ≤ y.off))) (fun i _=>l.length - (intOf i).toNat)
  case atStart=>exact ⟨0,by omega,rfl,Below.refl _ _,fun j x y hj=>by omega⟩
  case round =>
    obtain ⟨k,hk,rfl,hbl,hA⟩:=hrel
    have hA:=Lib.hid hA
    by_cases hlt : k < l.length
    · obtain ⟨b,of,rfl⟩:=rows_some2 h hlt
      have hlt' : (k : Int) < (l.length : Int):=by omega
      have hB:=hbl.size
      by_cases hk0 : 0 < k
      · obtain ⟨x,hx⟩ : ∃ x,l[k]? = some x:=⟨l[k],by simp [hlt]⟩
        obtain ⟨y,hy⟩ : ∃ y,l[k - 1]? = some y:=⟨l[k - 1],List.getElem?_eq_getElem (by omega)⟩
        have hxr:=hr x (List.mem_of_getElem? hx)
        have hyr:=hr y (List.mem_of_getElem? hy)
        obtain ⟨g0,g1,g2,g3,g4⟩:=rows_rel (h.below hbl) hx
        obtain ⟨p0,p1,p2,p3,p4⟩:=rows_rel (h.below hbl) hy
        have hx:=Lib.hid hx
        have hy:=Lib.hid hy
        obtain ⟨xs,xo,xf,xl,xa⟩:=x
        obtain ⟨ys,yo,yf,yl,ya⟩:=y
        unfold inI64 at hxr hyr
        dsimp only at g0 g1 g2 g3 g4 p0 p1 p2 p3 p4 hxr hyr
        have hwx:=width_in xf
        have hwy:=width_in yf
        have t0:=fun d os=>cell_regrown g0 d os
        have t1:=fun d os=>cell_regrown g1 d os
        have t2:=fun d os=>cell_regrown g2 d os
        have t3:=fun d os=>cell_regrown g3 d os
        have u0:=fun d os=>cell_regrown p0 d os
        have u1:=fun d os=>cell_regrown p1 d os
        have u2:=fun d os=>cell_regrown p2 d os
        have u3:=fun d os=>cell_regrown p3 d os
        have t4:=fun d os=>cell_regrown g4 d os
        have u4:=fun d os=>cell_regrown p4 d os
        have hk1 : (0 : Int) < (k : Int):=by omega
        have hkd : decide ((0 : Int) < (k : Int)) = true:=decide_eq_true hk1
        have hkd2 : decide (0 < k) = true:=decide_eq_true hk0
        have hki : (k : Int) - 1 = ((k - 1 : Nat) : Int):=by omega
        have hkw : wrap64 ((k : Int) - 1) = ((k - 1 : Nat) : Int):=by unfold wrap64;omega
        have hkl : ((k - 1 : Nat) : Int) < (l.length : Int):=by omega
        by_cases hc : ys < xs ∨ (ys = xs ∧ yo + widthV yf ≤ xo)
        · go_wp2_with fail
          refine wp_region_quiet_below (by kernel_rfl) (by kernel_rfl) ?_
          repeat (go_big_quiet_step (first | exact Calls.regrown_of (fieldOf_c _ _ _ _ _) | exact Calls.regrown_of (ahead_yes hc (by omega) (by omega))))
          refine wpQuiet_nil ?_
          intro _ hw'
          obtain ⟨⟨dq,osq⟩,hw''⟩:=hw'
          subst hw''
          have hb2:=below_regrown wr dq osq
          go_wp2
          go_roundw
          case rel =>
            refine ⟨k + 1,by omega,by go_num,bel_then hbl (Nat.le_refl _) hb2,fun j x' y' hj hx' hy'=>?_⟩
            by_cases hjk : j + 1 < k
            · exact hA.out j x' y' hjk hx' hy'
            · obtain rfl : k = j + 1:=by omega
              rw [hx.out] at hy'
              have hy2:=hy.out
              rw [Nat.add_sub_cancel,hx'] at hy2
              cases hy'
              cases hy2
              dsimp only
              omega
          case measure=>simp [intOf];omega
        · have hf:=Lib.hid (show r = false by
            rw [hrr.out]
            refine dec_no fun hS=>hc ?_
            have:=hS (k - 1) _ _ hy.out (by rw [show k - 1 + 1 = k from by omega];exact hx.out)
            dsimp only at this
            omega)
          go_wp2_with fail
          refine wp_region_quiet_below (by kernel_rfl) (by kernel_rfl) ?_
          repeat (go_big_quiet_step (first | exact Calls.regrown_of (fieldOf_c _ _ _ _ _) | exact Calls.regrown_of (ahead_no hc (by omega) (by omega))))
          refine wpQuiet_nil ?_
          intro _ hw'
          obtain ⟨⟨dq,osq⟩,hw''⟩:=hw'
          subst hw''
          have hb2:=below_regrown wr dq osq
          go_wp2
          go_ret
          exact ⟨by rw [hf.out];rfl,bel_then hbl (Nat.le_refl _) hb2⟩
      · obtain rfl : k = 0:=by omega
        have hkd : decide ((0 : Int) < 0) = false:=decide_eq_false (by omega)
        go_wp2_with fail
        go_quiet (fail)
        go_wp2
        go_roundw
        case rel=>exact ⟨1,by omega,by go_num,below_drewN hbl _,fun j x' y' hj=>by omega⟩
        case measure=>simp [intOf];omega
    · have : k = l.length:=by omega
      subst this
      have hf:=Lib.hid (show r = true by
        rw [hrr.out]
        exact dec_yes fun j x y hx hy=>hA.out j x y (List.getElem?_eq_some_iff.1 hy).1 hx hy)
      go_wp2
      go_ret
      exact ⟨by rw [hf.out];rfl,hbl⟩
end Go.Ev

namespace Go.Ev
open Go.RowKit Go.Proofs Go.Rw
set_option maxRecDepth 100000 in
set_option maxHeartbeats 4000000 in
theorem eqLines_c {w : World} {s1 s2 : Value} {l m : List LineT} (h1 : RowsAt w s1 LineT.cells 4 l) (h2 : RowsAt w s2 LineT.cells 4 m) (hl : l.length ≤ 140737488351232) (hm : m.length ≤ 140737488351232) :
    Calls Tryz.prog 32 #[s1,s2] w (BelR (dec (l = m)) w):=by
  obtain ⟨a1,c1,rfl⟩:=rows_slice h1
  obtain ⟨a2,c2,rfl⟩:=rows_slice h2
  obtain ⟨r,hr0⟩ : ∃ r,r = dec (l = m):=⟨_,rfl⟩
  rw [← hr0]
  have hrr:=Lib.hid hr0
  clear hr0
  by_cases hln : l.length = m.length
  · have hln2:=Lib.hid hln
    rw [← hln]
    clear hln
    go_enter Tryz.func32,Tryz.ntmps32
    go_wp2
    go_loopg [13] l.length (fun gn i wr=>∃ k : Nat,gn + k = l.length ∧ k ≤ l.length ∧ i = .int .i64 k ∧ Below w.heap.size w wr ∧ (∀ j,j < k → l[j]? = m[j]?))
    case atStart=>exact ⟨0,by omega,by omega,rfl,Below.refl _ _,fun j hj=>by omega⟩
    case round =>
      obtain ⟨k,hgk,hk,rfl,hbl,hA0⟩:=hrel
      have hA:=Lib.hid hA0
      clear hA0
      by_cases hlt : k < l.length
      · have hlm : k < m.length:=by have:=hln2.out;omega
        obtain ⟨b1,o1,rfl⟩:=rows_some2 h1 hlt
        obtain ⟨b2,o2,rfl⟩:=rows_some2 h2 hlm
        have hlt' : (k : Int) < (l.length : Int):=by omega
        obtain ⟨⟨xs,xo,xf,xl⟩,hx⟩ : ∃ x,l[k]? = some x:=⟨l[k],by simp [hlt]⟩
        obtain ⟨⟨ys,yo,yf,yl⟩,hy⟩ : ∃ x,m[k]? = some x:=⟨m[k],by simp [hlm]⟩
        obtain ⟨p0,p1,p2,p3⟩:=rows_line (h1.below hbl) hx
        obtain ⟨q0,q1,q2,q3⟩:=rows_line (h2.below hbl) hy
        dsimp only at p0 q0 p1 q1 p2 q2 p3 q3
        have hxH:=Lib.hid hx
        have hyH:=Lib.hid hy
        clear hx hy h1 h2
        by_cases e0 : xs = ys
        case neg =>
          have hne:=Lib.hid (show r = false by
            rw [hrr.out]
            refine dec_no fun h=>?_
            have h2:=hxH.out
            rw [h,hyH.out] at h2
            injection h2 with h2
            injection h2
            exact e0 (by first | assumption | (symm;assumption)))
          have hb : (xs == ys) = false:=beq_eq_false_iff_ne.2 e0
          skip
          go_wp2
          go_quiet (fail)
          go_wp2
          go_ret
          exact ⟨by rw [hne.out];rfl,below_drewN hbl _⟩
        subst e0
        by_cases e1 : xo = yo
        case neg =>
          have hne:=Lib.hid (show r = false by
            rw [hrr.out]
            refine dec_no fun h=>?_
            have h2:=hxH.out
            rw [h,hyH.out] at h2
            injection h2 with h2
            injection h2
            exact e1 (by first | assumption | (symm;assumption)))
          have hb : (xo == yo) = false:=beq_eq_false_iff_ne.2 e1
          skip
          go_wp2
          go_quiet (fail)
          go_wp2
          go_ret
          exact ⟨by rw [hne.out];rfl,below_drewN hbl _⟩
        subst e1
        by_cases e2 : xf = yf
        case neg =>
          have hne:=Lib.hid (show r = false by
            rw [hrr.out]
            refine dec_no fun h=>?_
            have h2:=hxH.out
            rw [h,hyH.out] at h2
            injection h2 with h2
            injection h2
            exact e2 (by first | assumption | (symm;assumption)))
          have hb : (xf == yf) = false:=beq_eq_false_iff_ne.2 e2
          skip
          go_wp2
          go_quiet (fail)
          go_wp2
          go_ret
          exact ⟨by rw [hne.out];rfl,below_drewN hbl _⟩
        subst e2
        by_cases e3 : xl = yl
        case neg =>
          have hne:=Lib.hid (show r = false by
            rw [hrr.out]
            refine dec_no fun h=>?_
            have h2:=hxH.out
            rw [h,hyH.out] at h2
            injection h2 with h2
            injection h2
            exact e3 (by first | assumption | (symm;assumption)))
          have hb : (xl == yl) = false:=beq_eq_false_iff_ne.2 e3
          skip
          go_wp2
          go_quiet (fail)
          go_wp2
          go_ret
          exact ⟨by rw [hne.out];rfl,below_drewN hbl _⟩
        subst e3
        go_wp2
        go_quiet (fail)
        go_wp2
        go_roundg (gk - 1)
        case measure=>omega
        case rel =>
          refine ⟨k + 1,by omega,by omega,by go_num,below_drewN hbl _,fun j hj=>?_⟩
          by_cases hjk : j < k
          · exact hA.out j hjk
          · obtain rfl : j = k:=by omega
            rw [hxH.out,hyH.out]
      · obtain rfl : k = l.length:=by omega
        have hf:=Lib.hid (show r = true by
          rw [hrr.out]
          refine dec_yes (List.ext_getElem? fun j=>?_)
          by_cases hj : j < l.length
          · exact hA.out j hj
          · have:=hln2.out
            rw [List.getElem?_eq_none (by omega),List.getElem?_eq_none (by omega)])
        go_wp2
        go_ret
        exact ⟨by rw [hf.out];rfl,hbl⟩
  · have hf:=Lib.hid (show r = false by rw [hrr.out];exact dec_no fun h=>hln (by rw [h]))
    have hb : ((l.length : Int) == (m.length : Int)) = false:=by simp;omega
    go_enter Tryz.func32,Tryz.ntmps32
    go_wp2
    go_ret
    exact ⟨by rw [hf.out];rfl,Below.refl _ _⟩
set_option maxRecDepth 100000 in
set_option maxHeartbeats 4000000 in
theorem sameLines_c {w : World} {s1 s2 : Value} {l m : List LineT} (h1 : RowsAt w s1 LineT.cells 4 l) (h2 : RowsAt w s2 LineT.cells 4 m) (hl : l.length ≤ 140737488351232) (hm : m.length ≤ 140737488351232) :
    Calls Tryz.prog 74 #[s1,s2] w (BelR (dec (l = m)) w):=by
  obtain ⟨a1,c1,rfl⟩:=rows_slice h1
  obtain ⟨a2,c2,rfl⟩:=rows_slice h2
  obtain ⟨r,hr0⟩ : ∃ r,r = dec (l = m):=⟨_,rfl⟩
  rw [← hr0]
  have hrr:=Lib.hid hr0
  clear hr0
  by_cases hln : l.length = m.length
  · have hln2:=Lib.hid hln
    rw [← hln]
    clear hln
    go_enter Tryz.func74,Tryz.ntmps74
    go_wp2
    go_loopg [5] l.length (fun gn i wr=>∃ k : Nat,gn + k = l.length ∧ k ≤ l.length ∧ i = .int .i64 k ∧ Below w.heap.size w wr ∧ (∀ j,j < k → l[j]? = m[j]?))
    case atStart=>exact ⟨0,by omega,by omega,rfl,Below.refl _ _,fun j hj=>by omega⟩
    case round =>
      obtain ⟨k,hgk,hk,rfl,hbl,hA0⟩:=hrel
      have hA:=Lib.hid hA0
      clear hA0
      by_cases hlt : k < l.length
      · have hlm : k < m.length:=by have:=hln2.out;omega
        obtain ⟨b1,o1,rfl⟩:=rows_some2 h1 hlt
        obtain ⟨b2,o2,rfl⟩:=rows_some2 h2 hlm
        have hlt' : (k : Int) < (l.length : Int):=by omega
        obtain ⟨⟨xs,xo,xf,xl⟩,hx⟩ : ∃ x,l[k]? = some x:=⟨l[k],by simp [hlt]⟩
        obtain ⟨⟨ys,yo,yf,yl⟩,hy⟩ : ∃ x,m[k]? = some x:=⟨m[k],by simp [hlm]⟩
        obtain ⟨p0,p1,p2,p3⟩:=rows_line (h1.below hbl) hx
        obtain ⟨q0,q1,q2,q3⟩:=rows_line (h2.below hbl) hy
        dsimp only at p0 q0 p1 q1 p2 q2 p3 q3
        have hxH:=Lib.hid hx
        have hyH:=Lib.hid hy
        clear hx hy h1 h2
        by_cases e0 : xs = ys
        case neg =>
          have hne:=Lib.hid (show r = false by
            rw [hrr.out]
            refine dec_no fun h=>?_
            have h2:=hxH.out
            rw [h,hyH.out] at h2
            injection h2 with h2
            injection h2
            exact e0 (by first | assumption | (symm;assumption)))
          have hb : (xs == ys) = false:=beq_eq_false_iff_ne.2 e0
          skip
          go_wp2
          go_quiet (fail)
          go_wp2
          go_ret
          exact ⟨by rw [hne.out];rfl,below_drewN hbl _⟩
        subst e0
        by_cases e1 : xo = yo
        case neg =>
          have hne:=Lib.hid (show r = false by
            rw [hrr.out]
            refine dec_no fun h=>?_
            have h2:=hxH.out
            rw [h,hyH.out] at h2
            injection h2 with h2
            injection h2
            exact e1 (by first | assumption | (symm;assumption)))
          have hb : (xo == yo) = false:=beq_eq_false_iff_ne.2 e1
          skip
          go_wp2
          go_quiet (fail)
          go_wp2
          go_ret
          exact ⟨by rw [hne.out];rfl,below_drewN hbl _⟩
        subst e1
        by_cases e2 : xf = yf
        case neg =>
          have hne:=Lib.hid (show r = false by
            rw [hrr.out]
            refine dec_no fun h=>?_
            have h2:=hxH.out
            rw [h,hyH.out] at h2
            injection h2 with h2
            injection h2
            exact e2 (by first | assumption | (symm;assumption)))
          have hb : (xf == yf) = false:=beq_eq_false_iff_ne.2 e2
          skip
          go_wp2
          go_quiet (fail)
          go_wp2
          go_ret
          exact ⟨by rw [hne.out];rfl,below_drewN hbl _⟩
        subst e2
        by_cases e3 : xl = yl
        case neg =>
          have hne:=Lib.hid (show r = false by
            rw [hrr.out]
            refine dec_no fun h=>?_
            have h2:=hxH.out
            rw [h,hyH.out] at h2
            injection h2 with h2
            injection h2
            exact e3 (by first | assumption | (symm;assumption)))
          have hb : (xl == yl) = false:=beq_eq_false_iff_ne.2 e3
          skip
          go_wp2
          go_quiet (fail)
          go_wp2
          go_ret
          exact ⟨by rw [hne.out];rfl,below_drewN hbl _⟩
        subst e3
        go_wp2
        go_quiet (fail)
        go_wp2
        go_roundg (gk - 1)
        case measure=>omega
        case rel =>
          refine ⟨k + 1,by omega,by omega,by go_num,below_drewN hbl _,fun j hj=>?_⟩
          by_cases hjk : j < k
          · exact hA.out j hjk
          · obtain rfl : j = k:=by omega
            rw [hxH.out,hyH.out]
      · obtain rfl : k = l.length:=by omega
        have hf:=Lib.hid (show r = true by
          rw [hrr.out]
          refine dec_yes (List.ext_getElem? fun j=>?_)
          by_cases hj : j < l.length
          · exact hA.out j hj
          · have:=hln2.out
            rw [List.getElem?_eq_none (by omega),List.getElem?_eq_none (by omega)])
        go_wp2
        go_ret
        exact ⟨by rw [hf.out];rfl,hbl⟩
  · have hf:=Lib.hid (show r = false by rw [hrr.out];exact dec_no fun h=>hln (by rw [h]))
    have hb : ((l.length : Int) == (m.length : Int)) = false:=by simp;omega
    go_enter Tryz.func74,Tryz.ntmps74
    go_wp2
    go_ret
    exact ⟨by rw [hf.out];rfl,Below.refl _ _⟩
end Go.Ev

