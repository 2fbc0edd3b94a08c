import Derived.Test.YtepopmplcjhfbaaGreatObG07
set_option linter.unusedSectionVars false
set_option linter.unusedVariables false
set_option linter.unusedSimpArgs false
set_option linter.unnecessarySimpa false
namespace Go.Ev
open Go.RowKit Go.Proofs Go.Rw
def SecIn (w : World) (a : Option Addr) (n : Nat) (B : ByteArray) : Prop :=
  (n = 0 ∧ B = strOf 0 (fun _=>0)) ∨ ∃ (b o : Nat) (q : Nat → Int),a = some ⟨b,o,none⟩ ∧ B = strOf n q ∧ (∀ j,InB (q j)) ∧ ∀ j,j < n → w.cell? ⟨b,o + j,none⟩ = some (.int .u8 (q j))
theorem SecIn.below {w w' : World} {a : Option Addr} {n : Nat} {B : ByteArray} (h : SecIn w a n B) (hb : Below w.heap.size w w') : SecIn w' a n B:=by
  rcases h with h | ⟨b,o,q,rfl,hB,hq,hc⟩
  · exact .inl h
  · exact .inr ⟨b,o,q,rfl,hB,hq,fun j hj=>(hb.cell (low_of_cell (hc j hj))).trans (hc j hj)⟩
theorem conv_sec {w : World} {a : Option Addr} {n cap : Nat} {B : ByteArray} (h : SecIn w a n B) : (convert 34 9 (.slice a n cap)).run Tryz.prog w = .ok (.string B) w:=by
  rcases h with ⟨rfl,rfl⟩ | ⟨b,o,q,rfl,rfl,_,hc⟩
  · rw [run_convert_bytes_string w 34 9 5 a 0 cap Tryz.underlying34 Tryz.underlying5 Tryz.underlying9]
    cases a with
    | none=>simp [Conv.bytesToString,strOf]
    | some a=>exact run_bytesToString w _ 0 cap _ (show (loadCells a 0).run Tryz.prog w = .ok (((List.range 0).map (fun _=>(0 : Int))).map (Value.int .u8)).toArray w from by simp [loadCells,loadCellsFrom])
  · exact conv_bytes (.inr ⟨b,o,rfl,hc⟩)
set_option maxRecDepth 100000 in
set_option maxHeartbeats 1000000 in
theorem bequal_x {w : World} {a b : Option Addr} {n m c1 c2 : Nat} {X Y : ByteArray} (ha : SecIn w a n X) (hb : SecIn w b m Y) :
    Calls Tryz.prog 23 #[.slice a n c1,.slice b m c2] w fun e w'=>e = .returned (.bool (dec (X = Y))) ∧ w' = w:=by
  have h1:=conv_sec (cap:=c1) ha
  have h2:=conv_sec (cap:=c2) hb
  clear ha hb
  by_cases e : X = Y
  · rw [dec_yes e]
    subst e
    go_enter Tryz.func23,Tryz.ntmps23
    go_wp2
    go_ret
    exact ⟨rfl,rfl⟩
  · rw [dec_no e]
    have hb:=bytes_ne e
    go_enter Tryz.func23,Tryz.ntmps23
    go_wp2
    go_ret
    exact ⟨rfl,rfl⟩
set_option maxRecDepth 100000 in
set_option maxHeartbeats 1000000 in
theorem sameB_c {w : World} {a b : Option Addr} {n m c1 c2 : Nat} {X Y : ByteArray} (ha : SecIn w a n X) (hb : SecIn w b m Y) :
    Calls Tryz.prog 75 #[.slice a n c1,.slice b m c2] w fun e w'=>e = .returned (.bool (dec (X = Y))) ∧ w' = w:=by
  have h1:=conv_sec (cap:=c1) ha
  have h2:=conv_sec (cap:=c2) hb
  clear ha hb
  by_cases e : X = Y
  · rw [dec_yes e]
    subst e
    go_enter Tryz.func75,Tryz.ntmps75
    go_wp2
    go_ret
    exact ⟨rfl,rfl⟩
  · rw [dec_no e]
    have hb:=bytes_ne e
    go_enter Tryz.func75,Tryz.ntmps75
    go_wp2
    go_ret
    exact ⟨rfl,rfl⟩
def SecEq (x y : SecT) (X Y : ByteArray) : Prop:=x.name = y.name ∧ x.rights = y.rights ∧ x.align = y.align ∧ X = Y ∧ x.zero = y.zero
def SecsEq (C : SecT → ByteArray) (l m : List SecT) : Prop:=l.length = m.length ∧ ∀ (k : Nat) (x y : SecT),l[k]? = some x → m[k]? = some y → SecEq x y (C x) (C y)
end Go.Ev

namespace Go.Ev
open Go.RowKit Go.Proofs Go.Rw
def RelsOk (o : ObjT) : Prop:=o.rels.length ≤ 2000 ∧ (∀ x ∈ o.rels,RelOk o x) ∧ RSteps o.rels
theorem rel_off {o : ObjT} {x : RelT} (hR : o.R) (hx : x.R) (h : RelOk o x) : inI64 x.off ∧ -140737488351232 ≤ x.off ∧ x.off ≤ 140737488351232:=by
  obtain ⟨-, -, -, -,y,hy,h1,h2⟩:=h
  have:=(hR.1 y (List.mem_of_getElem? hy)).2.2.1
  have:=width_in x.kind
  exact ⟨hx.2.1,by omega,by omega⟩
theorem enters160 : ∀ args w,(callFunc 160 args).run Tryz.prog w = .ok (.enter 160 args) w:=enters_of Tryz.func160 (by kernel_rfl) rfl
set_option maxRecDepth 100000 in
set_option maxHeartbeats 1000000 in
theorem crel_c {w : World} {B : Nat} {s1 s2 s3 s4 s5 : Value} {o : ObjT} (h : ObjAt w (.agg #[s1,s2,s3,s4,s5]) o) (hB : w.heap[B]? = some (.cells #[s1,s2,s3,s4,s5] 28 (0,0))) (hR : o.R) (x : RelT) (hx : x.R) :
    Calls Tryz.prog 160 #[.agg #[.int .i64 x.sec,.int .i64 x.off,.int .i64 x.kind,.int .i64 x.sym,.int .i64 x.add],.pointer (some ⟨B,0,none⟩)] w (BelR (dec (RelOk o x)) w):=by
  have b0 : w.cell? ⟨B,0,none⟩ = some s1:=by simp [World.cell?,hB]
  have b1 : w.cell? ⟨B,1,none⟩ = some s2:=by simp [World.cell?,hB]
  have b2 : w.cell? ⟨B,2,none⟩ = some s3:=by simp [World.cell?,hB]
  have b3 : w.cell? ⟨B,3,none⟩ = some s4:=by simp [World.cell?,hB]
  have b4 : w.cell? ⟨B,4,none⟩ = some s5:=by simp [World.cell?,hB]
  have z : ∀ A,Below w.heap.size w (w.alloc A):=fun A=>(Below.refl w.heap.size w).alloc (Nat.le_refl _) A
  have hC:=fun A=>prel_c (h.below (z A)) hR x hx
  have c0:=fun A=>(World.cell?_alloc_lt w A _ (low_of_cell b0)).trans b0
  have c1:=fun A=>(World.cell?_alloc_lt w A _ (low_of_cell b1)).trans b1
  have c2:=fun A=>(World.cell?_alloc_lt w A _ (low_of_cell b2)).trans b2
  have c3:=fun A=>(World.cell?_alloc_lt w A _ (low_of_cell b3)).trans b3
  have c4:=fun A=>(World.cell?_alloc_lt w A _ (low_of_cell b4)).trans b4
  clear h hB hR hx
  obtain ⟨xs,xo,xk,xy,xa⟩:=x
  dsimp only at *
  go_enter Tryz.func160,Tryz.ntmps160
  go_wp2_with (go_at_call 161;refine (hC _).mono ?_;rintro e w1 ⟨rfl,hb1⟩)
  go_ret
  exact ⟨rfl,bel_then (z _) (Nat.le_refl _) hb1⟩
set_option maxRecDepth 100000 in
set_option maxHeartbeats 4000000 in
theorem prels_c {w : World} {v : Value} {o : ObjT} (h : ObjAt w v o) (hR : o.R) : Calls Tryz.prog 67 #[v] w (BelR (dec (RelsOk o)) w):=by
  have hmf : ∀ (fn : Fn) (first cap : Array Value) (w : World),(Instr.makeFunc fn first cap).run Tryz.prog w = .ok (.func fn first cap) w:=fun _ _ _ _=>rfl
  obtain ⟨s1,s2,s3,s4,s5,rfl,k1,k2,k3,k4,k5⟩:=h
  have hO : ObjAt w (.agg #[s1,s2,s3,s4,s5]) o:=⟨s1,s2,s3,s4,s5,rfl,k1,k2,k3,k4,k5⟩
  have z : ∀ A,Below w.heap.size w (w.alloc A):=fun A=>(Below.refl w.heap.size w).alloc (Nat.le_refl _) A
  obtain ⟨W,hW⟩ : ∃ W,W = w.alloc (.cells #[s1,s2,s3,s4,s5] 28):=⟨_,rfl⟩
  have hbW : Below w.heap.size w W:=by rw [hW];exact z _
  have hBx : W.heap[w.heap.size]? = some (.cells #[s1,s2,s3,s4,s5] 28 (0,0)):=by rw [hW];exact heap_alloc_new w _
  have hlt : w.heap.size < W.heap.size:=by rw [hW,World.size_alloc];omega
  have hE:=every_rel (k3.below hbW) hR.2.2.2.2.2.2.2.1 2000 160 #[.pointer (some ⟨w.heap.size,0,none⟩)] enters160 (fun x=>dec (RelOk o x))
    (fun W' hW' x hx=>crel_c (hO.below (hbW.trans (hW'.mono (Nat.le_of_lt hlt)))) ((hW'.block _ hlt).trans hBx) hR x (hR.2.2.1 x hx))
  have hDf:=fun (hall : ∀ x ∈ o.rels,RelOk o x) W' (hW' : Below W.heap.size W W')=>apart_rel (k3.below (hbW.trans (hW'.mono (Nat.le_of_lt hlt)))) hR.2.2.2.2.2.2.2.1 (fun x hx=>rel_off hR (hR.2.2.1 x hx) (hall x hx))
  have b1 : ∀ W',Below W.heap.size W W' → W'.cell? ⟨w.heap.size,2,none⟩ = some s3:=fun W' hW'=>by
    have:=(hW'.block _ hlt).trans hBx
    simp [World.cell?,this]
  have b1W:=b1 W (Below.refl _ _)
  obtain ⟨r,hr0⟩ : ∃ r,r = dec (RelsOk o):=⟨_,rfl⟩
  rw [← hr0]
  have hrr:=Lib.hid hr0
  clear hr0 hO k1 k2 k4 k5 hBx
  by_cases hc : (o.rels.length : Int) ≤ 2000 ∧ ∀ x ∈ o.rels,RelOk o x
  · rw [show (decide ((o.rels.length : Int) ≤ 2000) && o.rels.all fun x=>dec (RelOk o x)) = true by
      simp only [Bool.and_eq_true,decide_eq_true_eq,List.all_eq_true]
      exact ⟨hc.1,fun x hx=>dec_yes (hc.2 x hx)⟩] at hE
    have hres:=Lib.hid (show r = dec (RSteps o.rels) by
      rw [hrr.out]
      unfold dec
      congr 1
      exact propext ⟨fun h=>h.2.2,fun h=>⟨by have:=hc.1;omega,hc.2,h⟩⟩)
    have hDf:=hDf hc.2
    generalize dec (RSteps o.rels) = q at hres hDf
    clear hc k3 hR
    go_enter Tryz.func67,Tryz.ntmps67
    go_wp2_with fail
    rw [← hW]
    clear hW
    go_wp2_with (go_at_call 162;refine hE.mono ?_;rintro e w1 ⟨rfl,hb1⟩)
    have b1w:=b1 _ hb1
    go_wp2_with (go_at_call 163;refine (hDf _ hb1).mono ?_;rintro e w2 ⟨rfl,hb2⟩)
    go_ret
    exact ⟨by rw [hres.out];rfl,bel_then (bel_then hbW (Nat.le_refl _) hb1) (Nat.le_refl _) hb2⟩
  · rw [show (decide ((o.rels.length : Int) ≤ 2000) && o.rels.all fun x=>dec (RelOk o x)) = false by
      rw [← Bool.not_eq_true]
      simp only [Bool.and_eq_true,decide_eq_true_eq,List.all_eq_true]
      exact fun h=>hc ⟨h.1,fun x hx=>dec_iff.1 (h.2 x hx)⟩] at hE
    have hres:=Lib.hid (show r = false by
      rw [hrr.out]
      exact dec_no fun h=>hc ⟨by have:=h.1;omega,h.2.1⟩)
    clear hc k3 hR hDf
    go_enter Tryz.func67,Tryz.ntmps67
    go_wp2_with fail
    rw [← hW]
    clear hW
    go_wp2_with (go_at_call 162;refine hE.mono ?_;rintro e w1 ⟨rfl,hb1⟩)
    go_ret
    exact ⟨by rw [hres.out];rfl,bel_then hbW (Nat.le_refl _) hb1⟩
end Go.Ev

namespace Go.Ev
open Go.RowKit Go.Proofs Go.Rw
def LineIn (o : ObjT) (x : LineT) : Prop :=
  (0 ≤ x.sec ∧ x.sec < (o.secs.length : Int)) ∧ (∃ y,o.secs[x.sec.toNat]? = some y ∧ 0 ≤ x.off ∧ x.off < (y.bn : Int) + y.zero) ∧ (x.line = 0 ∨ (0 ≤ x.file ∧ x.file < (o.files.length : Int)))
theorem isIndexF_c {w : World} (i : Int) (a : Option Addr) (n c : Nat) {r : Bool} (h : r = decide (0 ≤ i ∧ i < (n : Int))) : Calls Tryz.prog 169 #[.int .i64 i,.slice a n c] w (BelR r w):=by
  by_cases h0 : 0 ≤ i
  · by_cases h1 : i < (n : Int)
    · rw [decide_eq_true ⟨h0,h1⟩] at h
      subst h
      go_enter Tryz.func169,Tryz.ntmps169
      go_wp2
      go_ret
      exact ⟨rfl,Below.refl _ _⟩
    · rw [decide_eq_false (fun h=>h1 h.2)] at h
      subst h
      go_enter Tryz.func169,Tryz.ntmps169
      go_wp2
      go_ret
      exact ⟨rfl,Below.refl _ _⟩
  · rw [decide_eq_false (fun h=>h0 h.1)] at h
    subst h
    go_enter Tryz.func169,Tryz.ntmps169
    go_wp2
    go_ret
    exact ⟨rfl,Below.refl _ _⟩
theorem hasByte_x {w : World} (s : SecT) (hb : s.bn ≤ 140737488351232) (hz : 0 ≤ s.zero ∧ s.zero ≤ 65536) (i : Int) (hi : inI64 i) {r : Bool} (h : r = decide (0 ≤ i ∧ i < (s.bn : Int) + s.zero)) :
    Calls Tryz.prog 108 #[.agg #[.string s.name,.int .i64 s.rights,.int .i64 s.align,.slice s.ba s.bn s.bc,.int .i64 s.zero],.int .i64 i] w (BelR r w):=by
  have z1 : ∀ A,Below w.heap.size w (w.alloc A):=fun A=>(Below.refl w.heap.size w).alloc (Nat.le_refl _) A
  obtain ⟨nm,ri,al,ba,bn,bc,ze⟩:=s
  dsimp only at *
  unfold inI64 at hi
  by_cases h0 : 0 ≤ i
  · have hw : wrap64 (i - (bn : Int)) = i - (bn : Int):=by unfold wrap64;omega
    by_cases h1 : i < (bn : Int) + ze
    · rw [decide_eq_true ⟨h0,h1⟩] at h
      subst h
      have hd : decide (i - (bn : Int) < ze) = true:=decide_eq_true (by omega)
      go_enter Tryz.func108,Tryz.ntmps108
      go_wp2
      all_goals (go_ret;first | exact ⟨rfl,z1 _⟩ | (refine ⟨?_,z1 _⟩;simp [hd]))
    · rw [decide_eq_false (fun h=>h1 h.2)] at h
      subst h
      have hd : decide (i - (bn : Int) < ze) = false:=decide_eq_false (by omega)
      go_enter Tryz.func108,Tryz.ntmps108
      go_wp2
      all_goals (go_ret;first | exact ⟨rfl,z1 _⟩ | (refine ⟨?_,z1 _⟩;simp [hd]))
  · rw [decide_eq_false (fun h=>h0 h.1)] at h
    subst h
    go_enter Tryz.func108,Tryz.ntmps108
    go_wp2
    all_goals (go_ret;exact ⟨rfl,z1 _⟩)
set_option maxRecDepth 100000 in
set_option maxHeartbeats 8000000 in
theorem cline_c {w : World} {Bx : Nat} {s1 s2 s3 s4 s5 : Value} {o : ObjT} (h : ObjAt w (.agg #[s1,s2,s3,s4,s5]) o) (hB : w.heap[Bx]? = some (.cells #[s1,s2,s3,s4,s5] 28 (0,0))) (hR : o.R) (hs : ∀ y ∈ o.secs,SecOk y) (x : LineT) (hx : x.R) :
    Calls Tryz.prog 168 #[.agg #[.int .i64 x.sec,.int .i64 x.off,.int .i64 x.file,.int .i64 x.line],.pointer (some ⟨Bx,0,none⟩)] w (BelR (dec (LineIn o x)) w):=by
  obtain ⟨s1',s2',s3',s4',s5',he,k1,k2,k3,k4,k5⟩:=h
  obtain ⟨rfl,rfl,rfl,rfl,rfl⟩ : s1 = s1' ∧ s2 = s2' ∧ s3 = s3' ∧ s4 = s4' ∧ s5 = s5':=by
    injection he with he
    injection he with he
    simp only [List.cons.injEq,and_true] at he
    exact he
  obtain ⟨sa,sc,rfl⟩:=rows_slice k1
  obtain ⟨fa,fc,rfl⟩:=rows_slice k4
  have b0 : w.cell? ⟨Bx,0,none⟩ = some (.slice sa o.secs.length sc):=by simp [World.cell?,hB]
  have b3 : w.cell? ⟨Bx,3,none⟩ = some (.slice fa o.files.length fc):=by simp [World.cell?,hB]
  obtain ⟨r,hr0⟩ : ∃ r,r = dec (LineIn o x):=⟨_,rfl⟩
  rw [← hr0]
  have hrr:=Lib.hid hr0
  clear hr0 k2 k3 k4 k5 he hB
  obtain ⟨xs,xo,xf,xl⟩:=x
  obtain ⟨r1,r2,r3,r4⟩:=hx
  dsimp only at *
  have hbW : Below w.heap.size w (w.alloc (.cells #[.int .i64 xs,.int .i64 xo,.int .i64 xf,.int .i64 xl] 48)):=(Below.refl w.heap.size w).alloc (Nat.le_refl _) _
  have a0:=(World.cell?_alloc_lt w (.cells #[.int .i64 xs,.int .i64 xo,.int .i64 xf,.int .i64 xl] 48) _ (low_of_cell b0)).trans b0
  have a3:=(World.cell?_alloc_lt w (.cells #[.int .i64 xs,.int .i64 xo,.int .i64 xf,.int .i64 xl] 48) _ (low_of_cell b3)).trans b3
  have x0:=new_cell w #[.int .i64 xs,.int .i64 xo,.int .i64 xf,.int .i64 xl] 48 0 _ rfl
  have x1:=new_cell w #[.int .i64 xs,.int .i64 xo,.int .i64 xf,.int .i64 xl] 48 1 _ rfl
  have x2:=new_cell w #[.int .i64 xs,.int .i64 xo,.int .i64 xf,.int .i64 xl] 48 2 _ rfl
  have x3:=new_cell w #[.int .i64 xs,.int .i64 xo,.int .i64 xf,.int .i64 xl] 48 3 _ rfl
  have kW:=k1.below hbW
  clear k1 b0 b3
  go_enter Tryz.func168,Tryz.ntmps168
  go_wp2_with fail
  generalize w.alloc (.cells #[.int .i64 xs,.int .i64 xo,.int .i64 xf,.int .i64 xl] 48) = Wx at *
  have t0:=fun d os=>cell_regrown a0 d os
  have t3:=fun d os=>cell_regrown a3 d os
  have u0:=fun d os=>cell_regrown x0 d os
  have u1:=fun d os=>cell_regrown x1 d os
  have u2:=fun d os=>cell_regrown x2 d os
  have u3:=fun d os=>cell_regrown x3 d os
  by_cases c1 : 0 ≤ xs ∧ xs < (o.secs.length : Int)
  · have h1:=fun W=>isIndexX_c (w:=W) xs sa o.secs.length sc (r:=true) (decide_eq_true c1).symm
    obtain ⟨k,rfl⟩ : ∃ k : Nat,xs = (k : Int):=⟨xs.toNat,by omega⟩
    have hk : k < o.secs.length:=by omega
    obtain ⟨b,of,rfl⟩:=rows_some2 kW hk
    obtain ⟨y,hy⟩ : ∃ y,o.secs[k]? = some y:=⟨o.secs[k],by simp [hk]⟩
    obtain ⟨g0,g1,g2,g3,g4⟩:=rows_sec kW hy
    have v0:=fun d os=>cell_regrown g0 d os
    have v1:=fun d os=>cell_regrown g1 d os
    have v2:=fun d os=>cell_regrown g2 d os
    have v3:=fun d os=>cell_regrown g3 d os
    have v4:=fun d os=>cell_regrown g4 d os
    have hyR:=hR.1 y (List.mem_of_getElem? hy)
    have hyO:=(hs y (List.mem_of_getElem? hy)).2.2.2.2
    have hklt : (k : Int) < (o.secs.length : Int):=c1.2
    have hyH:=Lib.hid hy
    have hdef:=Lib.hid (fun (h : LineIn o ⟨(k : Int),xo,xf,xl⟩)=>show (0 ≤ xo ∧ xo < (y.bn : Int) + y.zero) ∧ (xl = 0 ∨ (0 ≤ xf ∧ xf < (o.files.length : Int))) by
      obtain ⟨-,⟨y',hy',h2⟩,h3⟩:=h
      dsimp only at hy' h2 h3
      rw [Int.toNat_natCast,hy] at hy'
      cases hy'
      exact ⟨h2,h3⟩)
    have hdef2:=Lib.hid (fun (h : (0 ≤ xo ∧ xo < (y.bn : Int) + y.zero) ∧ (xl = 0 ∨ (0 ≤ xf ∧ xf < (o.files.length : Int))))=>show LineIn o ⟨(k : Int),xo,xf,xl⟩ from ⟨c1,⟨y,by dsimp only;rw [Int.toNat_natCast];exact hy,h.1⟩,h.2⟩)
    clear hy
    by_cases c2 : 0 ≤ xo ∧ xo < (y.bn : Int) + y.zero
    · have h2:=fun W=>hasByte_x (w:=W) y hyR.2.2.1 hyO xo r2 (r:=true) (decide_eq_true c2).symm
      by_cases c3 : xl = 0
      · have hl0 : (xl == 0) = true:=beq_iff_eq.2 c3
        have hres:=Lib.hid (show r = true by rw [hrr.out];exact dec_yes (hdef2.out ⟨c2,.inl c3⟩))
        clear hyH hyR hR kW hs c3
        obtain ⟨yn,yr,yal,yb,yl,ycc,yz⟩:=y
        dsimp only at *
        refine wp_region_quiet_below (by kernel_rfl) (by kernel_rfl) ?_
        repeat (go_big_quiet_step (first | exact Calls.regrown_of (h1 _) | exact Calls.regrown_of (h2 _)))
        refine wpQuiet_nil ?_
        intro _ hw'
        obtain ⟨⟨dq,osq⟩,hw''⟩:=hw'
        subst hw''
        have hb2:=bel_then hbW (Nat.le_refl _) (below_regrown Wx dq osq)
        go_wp2
        go_ret
        exact ⟨by rw [hres.out];rfl,hb2⟩
      · have hl0 : (xl == 0) = false:=beq_eq_false_iff_ne.2 c3
        obtain ⟨q,hq⟩ : ∃ q : Bool,q = decide (0 ≤ xf ∧ xf < (o.files.length : Int)):=⟨_,rfl⟩
        have h3:=fun W=>isIndexF_c (w:=W) xf fa o.files.length fc (r:=q) hq
        have hres:=Lib.hid (show r = q by
          rw [hrr.out,hq]
          by_cases c4 : 0 ≤ xf ∧ xf < (o.files.length : Int)
          · rw [decide_eq_true c4];exact dec_yes (hdef2.out ⟨c2,.inr c4⟩)
          · rw [decide_eq_false c4];exact dec_no fun h=>((hdef.out h).2).elim c3 c4)
        clear hyH hyR hR kW hs c3 hq
        obtain ⟨yn,yr,yal,yb,yl,ycc,yz⟩:=y
        dsimp only at *
        refine wp_region_quiet_below (by kernel_rfl) (by kernel_rfl) ?_
        repeat (go_big_quiet_step (first | exact Calls.regrown_of (h1 _) | exact Calls.regrown_of (h2 _) | exact Calls.regrown_of (h3 _)))
        refine wpQuiet_nil ?_
        intro _ hw'
        obtain ⟨⟨dq,osq⟩,hw''⟩:=hw'
        subst hw''
        have hb2:=bel_then hbW (Nat.le_refl _) (below_regrown Wx dq osq)
        go_wp2
        go_ret
        exact ⟨by rw [hres.out];rfl,hb2⟩
    · have h2:=fun W=>hasByte_x (w:=W) y hyR.2.2.1 hyO xo r2 (r:=false) (decide_eq_false c2).symm
      have hres:=Lib.hid (show r = false by rw [hrr.out];exact dec_no fun h=>c2 (hdef.out h).1)
      clear hyH hyR hR kW hs
      obtain ⟨yn,yr,yal,yb,yl,ycc,yz⟩:=y
      dsimp only at *
      refine wp_region_quiet_below (by kernel_rfl) (by kernel_rfl) ?_
      repeat (go_big_quiet_step (first | exact Calls.regrown_of (h1 _) | exact Calls.regrown_of (h2 _)))
      refine wpQuiet_nil ?_
      intro _ hw'
      obtain ⟨⟨dq,osq⟩,hw''⟩:=hw'
      subst hw''
      have hb2:=bel_then hbW (Nat.le_refl _) (below_regrown Wx dq osq)
      go_wp2
      go_ret
      exact ⟨by rw [hres.out];rfl,hb2⟩
  · have h1:=fun W=>isIndexX_c (w:=W) xs sa o.secs.length sc (r:=false) (decide_eq_false c1).symm
    have hres:=Lib.hid (show r = false by rw [hrr.out];exact dec_no fun h=>c1 h.1)
    clear hR kW hs
    refine wp_region_quiet_below (by kernel_rfl) (by kernel_rfl) ?_
    repeat (go_big_quiet_step (first | exact Calls.regrown_of (h1 _)))
    refine wpQuiet_nil ?_
    intro _ hw'
    obtain ⟨⟨dq,osq⟩,hw''⟩:=hw'
    subst hw''
    have hb2:=bel_then hbW (Nat.le_refl _) (below_regrown Wx dq osq)
    go_wp2
    go_ret
    exact ⟨by rw [hres.out];rfl,hb2⟩
end Go.Ev

namespace Go.Ev
open Go.RowKit Go.Proofs Go.Rw
def LinesOk (o : ObjT) : Prop:=TabOk o.lines ∧ ∀ x ∈ o.lines,LineIn o x
theorem enters168 : ∀ args w,(callFunc 168 args).run Tryz.prog w = .ok (.enter 168 args) w:=enters_of Tryz.func168 (by kernel_rfl) rfl
set_option maxRecDepth 100000 in
set_option maxHeartbeats 4000000 in
theorem plines_c {w : World} {v : Value} {o : ObjT} (h : ObjAt w v o) (hR : o.R) (hs : ∀ y ∈ o.secs,SecOk y) : Calls Tryz.prog 69 #[v] w (BelR (dec (LinesOk o)) w):=by
  have hmf : ∀ (fn : Fn) (first cap : Array Value) (w : World),(Instr.makeFunc fn first cap).run Tryz.prog w = .ok (.func fn first cap) w:=fun _ _ _ _=>rfl
  obtain ⟨s1,s2,s3,s4,s5,rfl,k1,k2,k3,k4,k5⟩:=h
  have hO : ObjAt w (.agg #[s1,s2,s3,s4,s5]) o:=⟨s1,s2,s3,s4,s5,rfl,k1,k2,k3,k4,k5⟩
  have z : ∀ A,Below w.heap.size w (w.alloc A):=fun A=>(Below.refl w.heap.size w).alloc (Nat.le_refl _) A
  obtain ⟨W,hW⟩ : ∃ W,W = w.alloc (.cells #[s1,s2,s3,s4,s5] 28):=⟨_,rfl⟩
  have hbW : Below w.heap.size w W:=by rw [hW];exact z _
  have hBx : W.heap[w.heap.size]? = some (.cells #[s1,s2,s3,s4,s5] 28 (0,0)):=by rw [hW];exact heap_alloc_new w _
  have hlt : w.heap.size < W.heap.size:=by rw [hW,World.size_alloc];omega
  have hl5:=hR.2.2.2.2.2.2.2.2.2
  have hT:=isTable_c (k5.below hbW) hl5
  have hE:=fun W1 (hW1 : Below W.heap.size W W1)=>every_line (k5.below (hbW.trans (hW1.mono (Nat.le_of_lt hlt)))) hl5 4000 168 #[.pointer (some ⟨w.heap.size,0,none⟩)] enters168 (fun x=>dec (LineIn o x))
    (fun W' hW' x hx=>by
      have hW2 : Below W.heap.size W W':=hW1.trans (hW'.mono hW1.size)
      exact cline_c (hO.below (hbW.trans (hW2.mono (Nat.le_of_lt hlt)))) ((hW2.block _ hlt).trans hBx) hR hs x (hR.2.2.2.2.1 x hx))
  have b4 : ∀ W',Below W.heap.size W W' → W'.cell? ⟨w.heap.size,4,none⟩ = some s5:=fun W' hW'=>by
    have:=(hW'.block _ hlt).trans hBx
    simp [World.cell?,this]
  have b4W:=b4 W (Below.refl _ _)
  obtain ⟨r,hr0⟩ : ∃ r,r = dec (LinesOk o):=⟨_,rfl⟩
  rw [← hr0]
  have hrr:=Lib.hid hr0
  clear hr0 hO k1 k2 k3 k4 k5 hs hBx hR
  by_cases ht : TabOk o.lines
  · rw [dec_yes ht] at hT
    have hres:=Lib.hid (show r = (decide ((o.lines.length : Int) ≤ 4000) && o.lines.all fun x=>dec (LineIn o x)) by
      rw [hrr.out]
      by_cases ha : ∀ x ∈ o.lines,LineIn o x
      · rw [show (decide ((o.lines.length : Int) ≤ 4000) && o.lines.all fun x=>dec (LineIn o x)) = true by
          simp only [Bool.and_eq_true,decide_eq_true_eq,List.all_eq_true]
          exact ⟨by have:=ht.1;omega,fun x hx=>dec_yes (ha x hx)⟩]
        exact dec_yes ⟨ht,ha⟩
      · rw [show (decide ((o.lines.length : Int) ≤ 4000) && o.lines.all fun x=>dec (LineIn o x)) = false by
          rw [← Bool.not_eq_true]
          simp only [Bool.and_eq_true,decide_eq_true_eq,List.all_eq_true]
          exact fun h=>ha (fun x hx=>dec_iff.1 (h.2 x hx))]
        exact dec_no fun h=>ha h.2)
    generalize (decide ((o.lines.length : Int) ≤ 4000) && o.lines.all fun x=>dec (LineIn o x)) = q at hres hE
    clear ht
    go_enter Tryz.func69,Tryz.ntmps69
    go_wp2_with fail
    rw [← hW]
    clear hW
    go_wp2_with (go_at_call 101;refine hT.mono ?_;rintro e w1 ⟨rfl,hb1⟩)
    have b4w:=b4 _ hb1
    go_wp2_with (go_at_call 167;refine (hE _ hb1).mono ?_;rintro e w2 ⟨rfl,hb2⟩)
    go_ret
    exact ⟨by rw [hres.out];rfl,bel_then (bel_then hbW (Nat.le_refl _) hb1) (Nat.le_refl _) hb2⟩
  · rw [dec_no ht] at hT
    have hres:=Lib.hid (show r = false by rw [hrr.out];exact dec_no fun h=>ht h.1)
    clear ht hE
    go_enter Tryz.func69,Tryz.ntmps69
    go_wp2_with fail
    rw [← hW]
    clear hW
    go_wp2_with (go_at_call 101;refine hT.mono ?_;rintro e w1 ⟨rfl,hb1⟩)
    go_ret
    exact ⟨by rw [hres.out];rfl,bel_then hbW (Nat.le_refl _) hb1⟩
end Go.Ev

namespace Go.Ev
open Go.RowKit Go.Proofs Go.Rw
def ObjOk (o : ObjT) : Prop:=SecsOk o.secs ∧ SymsOk o ∧ RelsOk o ∧ FilesOk o.files ∧ LinesOk o
noncomputable def errV (r : Bool) : Int:=if r = true then 0 else 30
def ErrR (r : Bool) (w : World) (e : Ending) (w' : World) : Prop:=e = .returned (.int .i64 (errV r)) ∧ Below w.heap.size w w'
set_option maxRecDepth 100000 in
set_option maxHeartbeats 4000000 in
theorem pcheck_c {w : World} {v : Value} {o : ObjT} (h : ObjAt w v o) (hR : o.R) : Calls Tryz.prog 17 #[v] w (ErrR (dec (ObjOk o)) w):=by
  obtain ⟨s1,s2,s3,s4,s5,rfl,k1,k2,k3,k4,k5⟩:=h
  have hO : ObjAt w (.agg #[s1,s2,s3,s4,s5]) o:=⟨s1,s2,s3,s4,s5,rfl,k1,k2,k3,k4,k5⟩
  have z : ∀ A,Below w.heap.size w (w.alloc A):=fun A=>(Below.refl w.heap.size w).alloc (Nat.le_refl _) A
  obtain ⟨W,hW⟩ : ∃ W,W = w.alloc (.cells #[s1,s2,s3,s4,s5] 28):=⟨_,rfl⟩
  have hbW : Below w.heap.size w W:=by rw [hW];exact z _
  have hBx : W.heap[w.heap.size]? = some (.cells #[s1,s2,s3,s4,s5] 28 (0,0)):=by rw [hW];exact heap_alloc_new w _
  have hlt : w.heap.size < W.heap.size:=by rw [hW,World.size_alloc];omega
  have up : ∀ W',Below W.heap.size W W' → Below w.heap.size w W':=fun W' hW'=>hbW.trans (hW'.mono (Nat.le_of_lt hlt))
  have h1:=fun W' (hW' : Below W.heap.size W W')=>psecs_c (k1.below (up W' hW')) hR.1 hR.2.2.2.2.2.1
  have h2:=fun (hs : SecsOk o.secs) W' (hW' : Below W.heap.size W W')=>psyms_c (hO.below (up W' hW')) hR hs.2.1
  have h3:=fun W' (hW' : Below W.heap.size W W')=>prels_c (hO.below (up W' hW')) hR
  have h4:=fun W' (hW' : Below W.heap.size W W')=>pfiles_c (k4.below (up W' hW')) hR.2.2.2.1 hR.2.2.2.2.2.2.2.2.1
  have h5:=fun (hs : SecsOk o.secs) W' (hW' : Below W.heap.size W W')=>plines_c (hO.below (up W' hW')) hR hs.2.1
  have cells : ∀ W',Below W.heap.size W W' → W'.cell? ⟨w.heap.size,0,none⟩ = some s1 ∧ W'.cell? ⟨w.heap.size,1,none⟩ = some s2 ∧ W'.cell? ⟨w.heap.size,2,none⟩ = some s3 ∧ W'.cell? ⟨w.heap.size,3,none⟩ = some s4 ∧ W'.cell? ⟨w.heap.size,4,none⟩ = some s5:=fun W' hW'=>by
    have:=(hW'.block _ hlt).trans hBx
    refine ⟨?_,?_,?_,?_,?_⟩ <;> simp [World.cell?,this]
  have hW0:=Below.refl W.heap.size W
  obtain ⟨e00,e01,e02,e03,e04⟩:=cells W hW0
  obtain ⟨r,hr0⟩ : ∃ r,r = dec (ObjOk o):=⟨_,rfl⟩
  rw [← hr0]
  have hrr:=Lib.hid hr0
  clear hr0 hO k1 k2 k3 k4 k5 hBx hR
  by_cases c1 : SecsOk o.secs
  · have h2:=h2 c1
    have h5:=h5 c1
    simp only [dec_yes c1] at h1
    by_cases c2 : SymsOk o
    · simp only [dec_yes c2] at h2
      by_cases c3 : RelsOk o
      · simp only [dec_yes c3] at h3
        by_cases c4 : FilesOk o.files
        · simp only [dec_yes c4] at h4
          have hres:=Lib.hid (show r = dec (LinesOk o) by
            rw [hrr.out]
            unfold dec
            congr 1
            exact propext ⟨fun h=>h.2.2.2.2,fun h=>⟨c1,c2,c3,c4,h⟩⟩)
          generalize dec (LinesOk o) = q at hres h5
          clear c1 c2 c3 c4
          cases q
          · skip
            go_enter Tryz.func17,Tryz.ntmps17
            go_wp2_with fail
            rw [← hW]
            clear hW
            go_wp2_with (first | (go_at_call 65;refine (h1 _ hW0).mono ?_;rintro e w1 ⟨rfl,hb1⟩;have hbb1:=bel_then hW0 (Nat.le_refl _) hb1;obtain ⟨e10,e11,e12,e13,e14⟩:=cells _ hbb1) | (go_at_call 66;refine (h2 _ hbb1).mono ?_;rintro e w2 ⟨rfl,hb2⟩;have hbb2:=bel_then hbb1 (Nat.le_refl _) hb2;obtain ⟨e20,e21,e22,e23,e24⟩:=cells _ hbb2) | (go_at_call 67;refine (h3 _ hbb2).mono ?_;rintro e w3 ⟨rfl,hb3⟩;have hbb3:=bel_then hbb2 (Nat.le_refl _) hb3;obtain ⟨e30,e31,e32,e33,e34⟩:=cells _ hbb3) | (go_at_call 68;refine (h4 _ hbb3).mono ?_;rintro e w4 ⟨rfl,hb4⟩;have hbb4:=bel_then hbb3 (Nat.le_refl _) hb4;obtain ⟨e40,e41,e42,e43,e44⟩:=cells _ hbb4) | (go_at_call 69;refine (h5 _ hbb4).mono ?_;rintro e w5 ⟨rfl,hb5⟩;have hbb5:=bel_then hbb4 (Nat.le_refl _) hb5))
            go_ret
            exact ⟨by rw [hres.out];rfl,bel_then hbW (Nat.le_refl _) hbb5⟩
          · skip
            go_enter Tryz.func17,Tryz.ntmps17
            go_wp2_with fail
            rw [← hW]
            clear hW
            go_wp2_with (first | (go_at_call 65;refine (h1 _ hW0).mono ?_;rintro e w1 ⟨rfl,hb1⟩;have hbb1:=bel_then hW0 (Nat.le_refl _) hb1;obtain ⟨e10,e11,e12,e13,e14⟩:=cells _ hbb1) | (go_at_call 66;refine (h2 _ hbb1).mono ?_;rintro e w2 ⟨rfl,hb2⟩;have hbb2:=bel_then hbb1 (Nat.le_refl _) hb2;obtain ⟨e20,e21,e22,e23,e24⟩:=cells _ hbb2) | (go_at_call 67;refine (h3 _ hbb2).mono ?_;rintro e w3 ⟨rfl,hb3⟩;have hbb3:=bel_then hbb2 (Nat.le_refl _) hb3;obtain ⟨e30,e31,e32,e33,e34⟩:=cells _ hbb3) | (go_at_call 68;refine (h4 _ hbb3).mono ?_;rintro e w4 ⟨rfl,hb4⟩;have hbb4:=bel_then hbb3 (Nat.le_refl _) hb4;obtain ⟨e40,e41,e42,e43,e44⟩:=cells _ hbb4) | (go_at_call 69;refine (h5 _ hbb4).mono ?_;rintro e w5 ⟨rfl,hb5⟩;have hbb5:=bel_then hbb4 (Nat.le_refl _) hb5))
            go_ret
            exact ⟨by rw [hres.out];rfl,bel_then hbW (Nat.le_refl _) hbb5⟩
        · simp only [dec_no c4] at h4
          have hres:=Lib.hid (show r = false by rw [hrr.out];exact dec_no fun h=>c4 h.2.2.2.1)
          clear c1 c2 c3 c4 h5
          go_enter Tryz.func17,Tryz.ntmps17
          go_wp2_with fail
          rw [← hW]
          clear hW
          go_wp2_with (first | (go_at_call 65;refine (h1 _ hW0).mono ?_;rintro e w1 ⟨rfl,hb1⟩;have hbb1:=bel_then hW0 (Nat.le_refl _) hb1;obtain ⟨e10,e11,e12,e13,e14⟩:=cells _ hbb1) | (go_at_call 66;refine (h2 _ hbb1).mono ?_;rintro e w2 ⟨rfl,hb2⟩;have hbb2:=bel_then hbb1 (Nat.le_refl _) hb2;obtain ⟨e20,e21,e22,e23,e24⟩:=cells _ hbb2) | (go_at_call 67;refine (h3 _ hbb2).mono ?_;rintro e w3 ⟨rfl,hb3⟩;have hbb3:=bel_then hbb2 (Nat.le_refl _) hb3;obtain ⟨e30,e31,e32,e33,e34⟩:=cells _ hbb3) | (go_at_call 68;refine (h4 _ hbb3).mono ?_;rintro e w4 ⟨rfl,hb4⟩;have hbb4:=bel_then hbb3 (Nat.le_refl _) hb4;obtain ⟨e40,e41,e42,e43,e44⟩:=cells _ hbb4))
          go_ret
          exact ⟨by rw [hres.out];rfl,bel_then hbW (Nat.le_refl _) hbb4⟩
      · simp only [dec_no c3] at h3
        have hres:=Lib.hid (show r = false by rw [hrr.out];exact dec_no fun h=>c3 h.2.2.1)
        clear c1 c2 c3 h5 h4
        go_enter Tryz.func17,Tryz.ntmps17
        go_wp2_with fail
        rw [← hW]
        clear hW
        go_wp2_with (first | (go_at_call 65;refine (h1 _ hW0).mono ?_;rintro e w1 ⟨rfl,hb1⟩;have hbb1:=bel_then hW0 (Nat.le_refl _) hb1;obtain ⟨e10,e11,e12,e13,e14⟩:=cells _ hbb1) | (go_at_call 66;refine (h2 _ hbb1).mono ?_;rintro e w2 ⟨rfl,hb2⟩;have hbb2:=bel_then hbb1 (Nat.le_refl _) hb2;obtain ⟨e20,e21,e22,e23,e24⟩:=cells _ hbb2) | (go_at_call 67;refine (h3 _ hbb2).mono ?_;rintro e w3 ⟨rfl,hb3⟩;have hbb3:=bel_then hbb2 (Nat.le_refl _) hb3;obtain ⟨e30,e31,e32,e33,e34⟩:=cells _ hbb3))
        go_ret
        exact ⟨by rw [hres.out];rfl,bel_then hbW (Nat.le_refl _) hbb3⟩
    · simp only [dec_no c2] at h2
      have hres:=Lib.hid (show r = false by rw [hrr.out];exact dec_no fun h=>c2 h.2.1)
      clear c1 c2 h5 h4 h3
      go_enter Tryz.func17,Tryz.ntmps17
      go_wp2_with fail
      rw [← hW]
      clear hW
      go_wp2_with (first | (go_at_call 65;refine (h1 _ hW0).mono ?_;rintro e w1 ⟨rfl,hb1⟩;have hbb1:=bel_then hW0 (Nat.le_refl _) hb1;obtain ⟨e10,e11,e12,e13,e14⟩:=cells _ hbb1) | (go_at_call 66;refine (h2 _ hbb1).mono ?_;rintro e w2 ⟨rfl,hb2⟩;have hbb2:=bel_then hbb1 (Nat.le_refl _) hb2;obtain ⟨e20,e21,e22,e23,e24⟩:=cells _ hbb2))
      go_ret
      exact ⟨by rw [hres.out];rfl,bel_then hbW (Nat.le_refl _) hbb2⟩
  · simp only [dec_no c1] at h1
    have hres:=Lib.hid (show r = false by rw [hrr.out];exact dec_no fun h=>c1 h.1)
    clear c1 h5 h4 h3 h2
    go_enter Tryz.func17,Tryz.ntmps17
    go_wp2_with fail
    rw [← hW]
    clear hW
    go_wp2_with (first | (go_at_call 65;refine (h1 _ hW0).mono ?_;rintro e w1 ⟨rfl,hb1⟩;have hbb1:=bel_then hW0 (Nat.le_refl _) hb1;obtain ⟨e10,e11,e12,e13,e14⟩:=cells _ hbb1))
    go_ret
    exact ⟨by rw [hres.out];rfl,bel_then hbW (Nat.le_refl _) hbb1⟩
end Go.Ev

namespace Go.Ev
open Go.RowKit Go.Proofs Go.Rw
def ObjEq (C : SecT → ByteArray) (a b : ObjT) : Prop:=SecsEq C a.secs b.secs ∧ a.syms = b.syms ∧ a.rels = b.rels ∧ a.files = b.files ∧ a.lines = b.lines
end Go.Ev

