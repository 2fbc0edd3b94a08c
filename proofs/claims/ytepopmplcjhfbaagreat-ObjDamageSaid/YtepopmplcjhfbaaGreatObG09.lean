import Derived.Test.YtepopmplcjhfbaaGreatObG08
import Derived.Lib.Hide
import Derived.Test.YtepopmplcjhfbaaGreatObG01
set_option linter.unusedSectionVars false
set_option linter.unusedVariables false
set_option linter.unusedSimpArgs false
set_option linter.unnecessarySimpa false
namespace Go.Ev
open Go.RowKit Go.Proofs Go.Rw
set_option maxRecDepth 100000 in
set_option maxHeartbeats 8000000 in
theorem rsame_c {w : World} {u v : Value} {a b : ObjT} {C : SecT → ByteArray} (h : ObjAt w u a) (h' : ObjAt w v b) (hR : a.R) (hR' : b.R) (hC : ∀ x ∈ a.secs,SecIn w x.ba x.bn (C x)) (hC' : ∀ x ∈ b.secs,SecIn w x.ba x.bn (C x)) :
    Calls Tryz.prog 20 #[u,v] w (BelR (dec (ObjEq C a b)) w):=by
  obtain ⟨s1,s2,s3,s4,s5,rfl,k1,k2,k3,k4,k5⟩:=h
  obtain ⟨t1,t2,t3,t4,t5,rfl,m1,m2,m3,m4,m5⟩:=h'
  have h5':=fun W' (hW' : Below w.heap.size w W')=>sameLines_c (k5.below hW') (m5.below hW') hR.2.2.2.2.2.2.2.2.2 hR'.2.2.2.2.2.2.2.2.2
  obtain ⟨a1,c1,rfl⟩:=rows_slice k1
  obtain ⟨a2,c2,rfl⟩:=rows_slice k2
  obtain ⟨a3,c3,rfl⟩:=rows_slice k3
  obtain ⟨a4,c4,rfl⟩:=rows_slice k4
  obtain ⟨d1,g1,rfl⟩:=rows_slice m1
  obtain ⟨d2,g2,rfl⟩:=rows_slice m2
  obtain ⟨d3,g3,rfl⟩:=rows_slice m3
  obtain ⟨d4,g4,rfl⟩:=rows_slice m4
  have hn1:=hR.2.2.2.2.2.1
  have hn2:=hR.2.2.2.2.2.2.1
  have hn3:=hR.2.2.2.2.2.2.2.1
  have hn4:=hR.2.2.2.2.2.2.2.2.1
  have hn1':=hR'.2.2.2.2.2.1
  have hn2':=hR'.2.2.2.2.2.2.1
  have hn3':=hR'.2.2.2.2.2.2.2.1
  have hn4':=hR'.2.2.2.2.2.2.2.2.1
  have z : ∀ A B,Below w.heap.size w ((w.alloc A).alloc B):=fun A B=>(one_below w A).alloc (by simp) B
  obtain ⟨r,hr0⟩ : ∃ r,r = dec (ObjEq C a b):=⟨_,rfl⟩
  rw [← hr0]
  have hrr:=Lib.hid hr0
  have hno:=Lib.hid (fun (hs : ¬ ObjEq C a b)=>show r = false by rw [hr0];exact dec_no hs)
  clear hr0 k5 m5 hR hR'
  by_cases l1 : a.secs.length = b.secs.length
  case neg =>
    have hres:=Lib.hid (hno.out fun h=>l1 h.1.1)
    have hb : ((a.secs.length : Int) == (b.secs.length : Int)) = false:=by simp;omega
    go_enter Tryz.func20,Tryz.ntmps20
    go_wp2
    go_ret
    exact ⟨by rw [hres.out];rfl,z _ _⟩
  rw [← l1] at m1 ⊢
  have L1:=Lib.hid l1
  clear l1
  by_cases l2 : a.syms.length = b.syms.length
  case neg =>
    have hres:=Lib.hid (hno.out fun h=>l2 (by rw [h.2.1]))
    have hb : ((a.syms.length : Int) == (b.syms.length : Int)) = false:=by simp;omega
    go_enter Tryz.func20,Tryz.ntmps20
    go_wp2
    go_ret
    exact ⟨by rw [hres.out];rfl,z _ _⟩
  rw [← l2] at m2 ⊢
  have L2:=Lib.hid l2
  clear l2
  by_cases l3 : a.rels.length = b.rels.length
  case neg =>
    have hres:=Lib.hid (hno.out fun h=>l3 (by rw [h.2.2.1]))
    have hb : ((a.rels.length : Int) == (b.rels.length : Int)) = false:=by simp;omega
    go_enter Tryz.func20,Tryz.ntmps20
    go_wp2
    go_ret
    exact ⟨by rw [hres.out];rfl,z _ _⟩
  rw [← l3] at m3 ⊢
  have L3:=Lib.hid l3
  clear l3
  by_cases l4 : a.files.length = b.files.length
  case neg =>
    have hres:=Lib.hid (hno.out fun h=>l4 (by rw [h.2.2.2.1]))
    have hb : ((a.files.length : Int) == (b.files.length : Int)) = false:=by simp;omega
    go_enter Tryz.func20,Tryz.ntmps20
    go_wp2
    go_ret
    exact ⟨by rw [hres.out];rfl,z _ _⟩
  rw [← l4] at m4 ⊢
  have L4:=Lib.hid l4
  clear l4
  obtain ⟨W,hW⟩ : ∃ W,W = (w.alloc (.cells #[.slice a1 a.secs.length c1,.slice a2 a.syms.length c2,.slice a3 a.rels.length c3,.slice a4 a.files.length c4,s5] 28)).alloc (.cells #[.slice d1 a.secs.length g1,.slice d2 a.syms.length g2,.slice d3 a.rels.length g3,.slice d4 a.files.length g4,t5] 28):=⟨_,rfl⟩
  have hbW : Below w.heap.size w W:=by rw [hW];exact z _ _
  have hB1 : W.heap[w.heap.size]? = some (.cells #[.slice a1 a.secs.length c1,.slice a2 a.syms.length c2,.slice a3 a.rels.length c3,.slice a4 a.files.length c4,s5] 28 (0,0)):=by rw [hW];exact ((one_below _ _).block _ (by simp)).trans (heap_alloc_new w _)
  have hB2 : W.heap[w.heap.size + 1]? = some (.cells #[.slice d1 a.secs.length g1,.slice d2 a.syms.length g2,.slice d3 a.rels.length g3,.slice d4 a.files.length g4,t5] 28 (0,0)):=by rw [hW];have:=heap_alloc_new (w.alloc (.cells #[.slice a1 a.secs.length c1,.slice a2 a.syms.length c2,.slice a3 a.rels.length c3,.slice a4 a.files.length c4,s5] 28)) (.cells #[.slice d1 a.secs.length g1,.slice d2 a.syms.length g2,.slice d3 a.rels.length g3,.slice d4 a.files.length g4,t5] 28);rwa [World.size_alloc] at this
  have hlt : w.heap.size + 1 < W.heap.size:=by rw [hW,World.size_alloc,World.size_alloc];omega
  have up : ∀ W',Below W.heap.size W W' → Below w.heap.size w W':=fun W' hW'=>hbW.trans (hW'.mono (by omega))
  have h5:=fun W' (hW' : Below W.heap.size W W')=>h5' W' (up W' hW')
  have cells : ∀ W',Below W.heap.size W W' → (W'.cell? ⟨w.heap.size,0,none⟩ = some (.slice a1 a.secs.length c1) ∧ W'.cell? ⟨w.heap.size,1,none⟩ = some (.slice a2 a.syms.length c2) ∧ W'.cell? ⟨w.heap.size,2,none⟩ = some (.slice a3 a.rels.length c3) ∧ W'.cell? ⟨w.heap.size,3,none⟩ = some (.slice a4 a.files.length c4) ∧ W'.cell? ⟨w.heap.size,4,none⟩ = some s5) ∧
      W'.cell? ⟨w.heap.size + 1,0,none⟩ = some (.slice d1 a.secs.length g1) ∧ W'.cell? ⟨w.heap.size + 1,1,none⟩ = some (.slice d2 a.syms.length g2) ∧ W'.cell? ⟨w.heap.size + 1,2,none⟩ = some (.slice d3 a.rels.length g3) ∧ W'.cell? ⟨w.heap.size + 1,3,none⟩ = some (.slice d4 a.files.length g4) ∧ W'.cell? ⟨w.heap.size + 1,4,none⟩ = some t5:=fun W' hW'=>by
    have e1:=(hW'.block _ (show w.heap.size < W.heap.size by omega)).trans hB1
    have e2:=(hW'.block _ hlt).trans hB2
    refine ⟨⟨?_,?_,?_,?_,?_⟩,?_,?_,?_,?_,?_⟩ <;> simp [World.cell?,e1,e2]
  have hW0:=Below.refl W.heap.size W
  clear hB1 hB2 h5'
  by_cases l5 : a.lines = b.lines
  case neg =>
    have hres:=Lib.hid (hno.out fun h=>l5 h.2.2.2.2)
    simp only [dec_no l5] at h5
    obtain ⟨⟨e0,e1,e2,e3,e4⟩,f0,f1,f2,f3,f4⟩:=cells _ hW0
    go_enter Tryz.func20,Tryz.ntmps20
    go_wp2_with fail
    rw [← hW]
    clear hW
    go_wp2_with (go_at_call 74;refine (h5 _ hW0).mono ?_;rintro e w1 ⟨rfl,hb1⟩)
    go_ret
    exact ⟨by rw [hres.out];rfl,bel_then hbW (Nat.le_refl _) hb1⟩
  simp only [dec_yes l5] at h5
  have hF5:=Lib.hid l5
  clear l5
  go_enter Tryz.func20,Tryz.ntmps20
  go_wp2_with fail
  rw [← hW]
  clear hW
  go_wp2_with (go_at_call 74;refine (h5 _ hW0).mono ?_;rintro e w5 ⟨rfl,hbl⟩)
  go_loopg [5] a.secs.length (fun gn i wr=>∃ k : Nat,gn + k = a.secs.length ∧ k ≤ a.secs.length ∧ i = .int .i64 k ∧ Below W.heap.size W wr ∧ (∀ (j : Nat) (x y : SecT),j < k → a.secs[j]? = some x → b.secs[j]? = some y → SecEq x y (C x) (C y)))
  case atStart=>exact ⟨0,by omega,by omega,rfl,hbl,fun j x y hj=>by omega⟩
  case round =>
    clear hbl
    obtain ⟨k,hgk,hk,rfl,hbl,hA0⟩:=hrel
    have hA1:=Lib.hid hA0
    clear hA0
    obtain ⟨⟨e0,e1,e2,e3,e4⟩,f0,f1,f2,f3,f4⟩:=cells _ hbl
    have hbw:=up _ hbl
    by_cases hlt : k < a.secs.length
    · have hlm : k < b.secs.length:=by have:=L1.out;omega
      obtain ⟨bb1,o1,rfl⟩:=rows_some2 k1 hlt
      obtain ⟨bb2,o2,rfl⟩:=rows_some2 m1 hlm
      have hlt1 : (k : Int) < (a.secs.length : Int):=by omega
      obtain ⟨x,hx⟩ : ∃ x,a.secs[k]? = some x:=⟨a.secs[k],by simp [hlt]⟩
      obtain ⟨y,hy⟩ : ∃ x,b.secs[k]? = some x:=⟨b.secs[k],by simp [hlm]⟩
      have hB:=hbw.size
      have hB2 : ∀ A,w.heap.size ≤ (wr.alloc A).heap.size:=fun A=>by rw [World.size_alloc];omega
      have hbb:=fun A B=>(hbw.alloc hB A).alloc (hB2 A) B
      have hL:=hbl.size
      have hL2 : ∀ A,W.heap.size ≤ (wr.alloc A).heap.size:=fun A=>by rw [World.size_alloc];omega
      have hbb2:=fun A B=>(hbl.alloc hL A).alloc (hL2 A) B
      have hcall:=fun A B c1 c2=>sameB_c (c1:=c1) (c2:=c2) ((hC x (List.mem_of_getElem? hx)).below (hbb A B)) ((hC' y (List.mem_of_getElem? hy)).below (hbb A B))
      obtain ⟨p0,p1,p2,p3,p4⟩:=rows_sec (k1.below hbw) hx
      obtain ⟨y0,y1,y2,y3,y4⟩:=rows_sec (m1.below hbw) hy
      have q0:=fun A=>(World.cell?_alloc_lt wr A _ (low_of_cell y0)).trans y0
      have q1:=fun A=>(World.cell?_alloc_lt wr A _ (low_of_cell y1)).trans y1
      have q2:=fun A=>(World.cell?_alloc_lt wr A _ (low_of_cell y2)).trans y2
      have q3:=fun A=>(World.cell?_alloc_lt wr A _ (low_of_cell y3)).trans y3
      have q4:=fun A=>(World.cell?_alloc_lt wr A _ (low_of_cell y4)).trans y4
      have v0:=fun A=>(World.cell?_alloc_lt wr A _ (low_of_cell f0)).trans f0
      have hxH:=Lib.hid hx
      have hyH:=Lib.hid hy
      clear hx hy k1 k2 k3 k4 m1 m2 m3 m4 hC hC' cells h5 y0 y1 y2 y3 y4
      have hno2:=Lib.hid (fun (e : ¬ SecEq x y (C x) (C y))=>hno.out fun h=>e (h.1.2 k x y hxH.out hyH.out))
      have hyes:=Lib.hid (fun (e : SecEq x y (C x) (C y))=>show (∀ (j : Nat) (x y : SecT),j < k + 1 → a.secs[j]? = some x → b.secs[j]? = some y → SecEq x y (C x) (C y)) from fun j x' y' hj hx' hy'=>by
        by_cases hjk : j < k
        · exact hA1.out j x' y' hjk hx' hy'
        · obtain rfl : j = k:=by omega
          rw [hxH.out] at hx'
          rw [hyH.out] at hy'
          cases hx'
          cases hy'
          exact e)
      generalize C x = X at hcall hno2 hyes
      generalize C y = Y at hcall hno2 hyes
      clear hxH hyH
      obtain ⟨xn,xr,xa,xb,xl,xc,xz⟩:=x
      obtain ⟨yn,yr,ya,yb,yl,yc,yz⟩:=y
      dsimp only at hcall p0 p1 p2 p3 p4 q0 q1 q2 q3 q4
      by_cases d0 : xn = yn
      case neg =>
        have hne:=Lib.hid (hno2.out fun h=>d0 h.1)
        have hb:=bytes_ne d0
        go_wp2
        go_ret
        exact ⟨by rw [hne.out];rfl,hbb _ _⟩
      subst d0
      by_cases d1 : xr = yr
      case neg =>
        have hne:=Lib.hid (hno2.out fun h=>d1 h.2.1)
        have hb : (xr == yr) = false:=beq_eq_false_iff_ne.2 d1
        go_wp2
        go_ret
        exact ⟨by rw [hne.out];rfl,hbb _ _⟩
      subst d1
      by_cases d2 : xa = ya
      case neg =>
        have hne:=Lib.hid (hno2.out fun h=>d2 h.2.2.1)
        have hb : (xa == ya) = false:=beq_eq_false_iff_ne.2 d2
        go_wp2
        go_ret
        exact ⟨by rw [hne.out];rfl,hbb _ _⟩
      subst d2
      by_cases d3 : xz = yz
      case neg =>
        have hne:=Lib.hid (hno2.out fun h=>d3 h.2.2.2.2)
        have hb : (xz == yz) = false:=beq_eq_false_iff_ne.2 d3
        go_wp2
        go_ret
        exact ⟨by rw [hne.out];rfl,hbb _ _⟩
      subst d3
      by_cases d4 : X = Y
      case neg =>
        have hne:=Lib.hid (hno2.out fun h=>d4 h.2.2.2.1)
        simp only [dec_no d4] at hcall
        go_wp2_with (go_at_call 75;refine (hcall _ _ _ _).mono ?_;rintro e w1 ⟨rfl,rfl⟩)
        go_ret
        exact ⟨by rw [hne.out];rfl,hbb _ _⟩
      have hnew:=Lib.hid (hyes.out ⟨rfl,rfl,rfl,d4,rfl⟩)
      simp only [dec_yes d4] at hcall
      go_wp2_with (go_at_call 75;refine (hcall _ _ _ _).mono ?_;rintro e w1 ⟨rfl,rfl⟩)
      go_roundg (gk - 1)
      case measure=>omega
      case rel=>exact ⟨k + 1,by omega,by omega,by go_num,hbb2 _ _,hnew.out⟩
    · obtain rfl : k = a.secs.length:=by omega
      have hF1:=Lib.hid (show SecsEq C a.secs b.secs from ⟨L1.out,fun j x y hx hy=>hA1.out j x y (List.getElem?_eq_some_iff.1 hx).1 hx hy⟩)
      clear hA1 hlt hgk hk
      go_wp2
      clear e0 e1 e2 e3 e4 f0 f1 f2 f3 f4 hbw
      obtain ⟨wo,rfl⟩ : ∃ wo : World,wo = wr:=⟨_,rfl⟩
      obtain ⟨gO,rfl⟩ : ∃ gO : Nat,gO = gk:=⟨_,rfl⟩
      go_loopg [8] a.syms.length (fun gn i wr=>∃ k : Nat,gn + k = a.syms.length ∧ k ≤ a.syms.length ∧ i = .int .i64 k ∧ Below W.heap.size W wr ∧ (∀ j,j < k → a.syms[j]? = b.syms[j]?))
      case atStart=>exact ⟨0,by omega,by omega,rfl,hbl,fun j hj=>by omega⟩
      case round =>
        clear hbl
        obtain ⟨k,hgk,hk,rfl,hbl,hA0⟩:=hrel
        have hA2:=Lib.hid hA0
        clear hA0
        obtain ⟨⟨e0,e1,e2,e3,e4⟩,f0,f1,f2,f3,f4⟩:=cells _ hbl
        have hbw:=up _ hbl
        by_cases hlt : k < a.syms.length
        · have hlm : k < b.syms.length:=by have:=L2.out;omega
          obtain ⟨bb1,o1,rfl⟩:=rows_some2 k2 hlt
          obtain ⟨bb2,o2,rfl⟩:=rows_some2 m2 hlm
          have hlt1 : (k : Int) < (a.syms.length : Int):=by omega
          obtain ⟨⟨xn,xs,xv,xz,xb,xk⟩,hx⟩ : ∃ x,a.syms[k]? = some x:=⟨a.syms[k],by simp [hlt]⟩
          obtain ⟨⟨yn,ys,yv,yz,yb,yk⟩,hy⟩ : ∃ x,b.syms[k]? = some x:=⟨b.syms[k],by simp [hlm]⟩
          obtain ⟨p0,p1,p2,p3,p4,p5⟩:=rows_sym (k2.below hbw) hx
          obtain ⟨q0,q1,q2,q3,q4,q5⟩:=rows_sym (m2.below hbw) hy
          dsimp only at p0 q0 p1 q1 p2 q2 p3 q3 p4 q4 p5 q5
          have hxH:=Lib.hid hx
          have hyH:=Lib.hid hy
          clear hx hy k1 k2 k3 k4 m1 m2 m3 m4 hC hC' cells h5
          by_cases d0 : xn = yn
          case neg =>
            have hne:=Lib.hid (hno.out fun h=>by
              have h2:=hxH.out
              rw [h.2.1,hyH.out] at h2
              injection h2 with h2
              injection h2
              exact d0 (by first | assumption | (symm;assumption)))
            have hb:=bytes_ne d0
            go_wp2
            go_quiet (fail)
            go_wp2
            go_ret
            exact ⟨by rw [hne.out];rfl,below_drewN hbw _⟩
          subst d0
          by_cases d1 : xs = ys
          case neg =>
            have hne:=Lib.hid (hno.out fun h=>by
              have h2:=hxH.out
              rw [h.2.1,hyH.out] at h2
              injection h2 with h2
              injection h2
              exact d1 (by first | assumption | (symm;assumption)))
            have hb : (xs == ys) = false:=beq_eq_false_iff_ne.2 d1
            go_wp2
            go_quiet (fail)
            go_wp2
            go_ret
            exact ⟨by rw [hne.out];rfl,below_drewN hbw _⟩
          subst d1
          by_cases d2 : xv = yv
          case neg =>
            have hne:=Lib.hid (hno.out fun h=>by
              have h2:=hxH.out
              rw [h.2.1,hyH.out] at h2
              injection h2 with h2
              injection h2
              exact d2 (by first | assumption | (symm;assumption)))
            have hb : (xv == yv) = false:=beq_eq_false_iff_ne.2 d2
            go_wp2
            go_quiet (fail)
            go_wp2
            go_ret
            exact ⟨by rw [hne.out];rfl,below_drewN hbw _⟩
          subst d2
          by_cases d3 : xz = yz
          case neg =>
            have hne:=Lib.hid (hno.out fun h=>by
              have h2:=hxH.out
              rw [h.2.1,hyH.out] at h2
              injection h2 with h2
              injection h2
              exact d3 (by first | assumption | (symm;assumption)))
            have hb : (xz == yz) = false:=beq_eq_false_iff_ne.2 d3
            go_wp2
            go_quiet (fail)
            go_wp2
            go_ret
            exact ⟨by rw [hne.out];rfl,below_drewN hbw _⟩
          subst d3
          by_cases d4 : xb = yb
          case neg =>
            have hne:=Lib.hid (hno.out fun h=>by
              have h2:=hxH.out
              rw [h.2.1,hyH.out] at h2
              injection h2 with h2
              injection h2
              exact d4 (by first | assumption | (symm;assumption)))
            have hb : (xb == yb) = false:=beq_eq_false_iff_ne.2 d4
            go_wp2
            go_quiet (fail)
            go_wp2
            go_ret
            exact ⟨by rw [hne.out];rfl,below_drewN hbw _⟩
          subst d4
          by_cases d5 : xk = yk
          case neg =>
            have hne:=Lib.hid (hno.out fun h=>by
              have h2:=hxH.out
              rw [h.2.1,hyH.out] at h2
              injection h2 with h2
              injection h2
              exact d5 (by first | assumption | (symm;assumption)))
            have hb : (xk == yk) = false:=beq_eq_false_iff_ne.2 d5
            go_wp2
            go_quiet (fail)
            go_wp2
            go_ret
            exact ⟨by rw [hne.out];rfl,below_drewN hbw _⟩
          subst d5
          go_wp2
          go_quiet (fail)
          go_wp2
          go_roundg (gk - 1)
          case measure=>omega
          case rel =>
            refine ⟨k + 1,by omega,by omega,by go_num,below_drewN hbl _,fun j hj=>?_⟩
            by_cases hjk : j < k
            · exact hA2.out j hjk
            · obtain rfl : j = k:=by omega
              rw [hxH.out,hyH.out]
        · obtain rfl : k = a.syms.length:=by omega
          have hF2:=Lib.hid (show a.syms = b.syms from List.ext_getElem? fun j=>by
            by_cases hj : j < a.syms.length
            · exact hA2.out j hj
            · have:=L2.out
              rw [List.getElem?_eq_none (by omega),List.getElem?_eq_none (by omega)])
          clear hA2 hlt hgk hk
          go_wp2
          clear e0 e1 e2 e3 e4 f0 f1 f2 f3 f4 hbw
          obtain ⟨wo,rfl⟩ : ∃ wo : World,wo = wr:=⟨_,rfl⟩
          obtain ⟨gO,rfl⟩ : ∃ gO : Nat,gO = gk:=⟨_,rfl⟩
          go_loopg [9] a.rels.length (fun gn i wr=>∃ k : Nat,gn + k = a.rels.length ∧ k ≤ a.rels.length ∧ i = .int .i64 k ∧ Below W.heap.size W wr ∧ (∀ j,j < k → a.rels[j]? = b.rels[j]?))
          case atStart=>exact ⟨0,by omega,by omega,rfl,hbl,fun j hj=>by omega⟩
          case round =>
            clear hbl
            obtain ⟨k,hgk,hk,rfl,hbl,hA0⟩:=hrel
            have hA3:=Lib.hid hA0
            clear hA0
            obtain ⟨⟨e0,e1,e2,e3,e4⟩,f0,f1,f2,f3,f4⟩:=cells _ hbl
            have hbw:=up _ hbl
            by_cases hlt : k < a.rels.length
            · have hlm : k < b.rels.length:=by have:=L3.out;omega
              obtain ⟨bb1,o1,rfl⟩:=rows_some2 k3 hlt
              obtain ⟨bb2,o2,rfl⟩:=rows_some2 m3 hlm
              have hlt1 : (k : Int) < (a.rels.length : Int):=by omega
              obtain ⟨⟨xs,xo,xk,xy,xa⟩,hx⟩ : ∃ x,a.rels[k]? = some x:=⟨a.rels[k],by simp [hlt]⟩
              obtain ⟨⟨ys,yo,yk,yy,ya⟩,hy⟩ : ∃ x,b.rels[k]? = some x:=⟨b.rels[k],by simp [hlm]⟩
              obtain ⟨p0,p1,p2,p3,p4⟩:=rows_rel (k3.below hbw) hx
              obtain ⟨q0,q1,q2,q3,q4⟩:=rows_rel (m3.below hbw) hy
              dsimp only at p0 q0 p1 q1 p2 q2 p3 q3 p4 q4
              have hxH:=Lib.hid hx
              have hyH:=Lib.hid hy
              clear hx hy k1 k2 k3 k4 m1 m2 m3 m4 hC hC' cells h5
              by_cases d0 : xs = ys
              case neg =>
                have hne:=Lib.hid (hno.out fun h=>by
                  have h2:=hxH.out
                  rw [h.2.2.1,hyH.out] at h2
                  injection h2 with h2
                  injection h2
                  exact d0 (by first | assumption | (symm;assumption)))
                have hb : (xs == ys) = false:=beq_eq_false_iff_ne.2 d0
                go_wp2
                go_quiet (fail)
                go_wp2
                go_ret
                exact ⟨by rw [hne.out];rfl,below_drewN hbw _⟩
              subst d0
              by_cases d1 : xo = yo
              case neg =>
                have hne:=Lib.hid (hno.out fun h=>by
                  have h2:=hxH.out
                  rw [h.2.2.1,hyH.out] at h2
                  injection h2 with h2
                  injection h2
                  exact d1 (by first | assumption | (symm;assumption)))
                have hb : (xo == yo) = false:=beq_eq_false_iff_ne.2 d1
                go_wp2
                go_quiet (fail)
                go_wp2
                go_ret
                exact ⟨by rw [hne.out];rfl,below_drewN hbw _⟩
              subst d1
              by_cases d2 : xk = yk
              case neg =>
                have hne:=Lib.hid (hno.out fun h=>by
                  have h2:=hxH.out
                  rw [h.2.2.1,hyH.out] at h2
                  injection h2 with h2
                  injection h2
                  exact d2 (by first | assumption | (symm;assumption)))
                have hb : (xk == yk) = false:=beq_eq_false_iff_ne.2 d2
                go_wp2
                go_quiet (fail)
                go_wp2
                go_ret
                exact ⟨by rw [hne.out];rfl,below_drewN hbw _⟩
              subst d2
              by_cases d3 : xy = yy
              case neg =>
                have hne:=Lib.hid (hno.out fun h=>by
                  have h2:=hxH.out
                  rw [h.2.2.1,hyH.out] at h2
                  injection h2 with h2
                  injection h2
                  exact d3 (by first | assumption | (symm;assumption)))
                have hb : (xy == yy) = false:=beq_eq_false_iff_ne.2 d3
                go_wp2
                go_quiet (fail)
                go_wp2
                go_ret
                exact ⟨by rw [hne.out];rfl,below_drewN hbw _⟩
              subst d3
              by_cases d4 : xa = ya
              case neg =>
                have hne:=Lib.hid (hno.out fun h=>by
                  have h2:=hxH.out
                  rw [h.2.2.1,hyH.out] at h2
                  injection h2 with h2
                  injection h2
                  exact d4 (by first | assumption | (symm;assumption)))
                have hb : (xa == ya) = false:=beq_eq_false_iff_ne.2 d4
                go_wp2
                go_quiet (fail)
                go_wp2
                go_ret
                exact ⟨by rw [hne.out];rfl,below_drewN hbw _⟩
              subst d4
              go_wp2
              go_quiet (fail)
              go_wp2
              go_roundg (gk - 1)
              case measure=>omega
              case rel =>
                refine ⟨k + 1,by omega,by omega,by go_num,below_drewN hbl _,fun j hj=>?_⟩
                by_cases hjk : j < k
                · exact hA3.out j hjk
                · obtain rfl : j = k:=by omega
                  rw [hxH.out,hyH.out]
            · obtain rfl : k = a.rels.length:=by omega
              have hF3:=Lib.hid (show a.rels = b.rels from List.ext_getElem? fun j=>by
                by_cases hj : j < a.rels.length
                · exact hA3.out j hj
                · have:=L3.out
                  rw [List.getElem?_eq_none (by omega),List.getElem?_eq_none (by omega)])
              clear hA3 hlt hgk hk
              go_wp2
              clear e0 e1 e2 e3 e4 f0 f1 f2 f3 f4 hbw
              obtain ⟨wo,rfl⟩ : ∃ wo : World,wo = wr:=⟨_,rfl⟩
              obtain ⟨gO,rfl⟩ : ∃ gO : Nat,gO = gk:=⟨_,rfl⟩
              go_loopg [10] a.files.length (fun gn i wr=>∃ k : Nat,gn + k = a.files.length ∧ k ≤ a.files.length ∧ i = .int .i64 k ∧ Below W.heap.size W wr ∧ (∀ j,j < k → a.files[j]? = b.files[j]?))
              case atStart=>exact ⟨0,by omega,by omega,rfl,hbl,fun j hj=>by omega⟩
              case round =>
                clear hbl
                obtain ⟨k,hgk,hk,rfl,hbl,hA0⟩:=hrel
                have hA4:=Lib.hid hA0
                clear hA0
                obtain ⟨⟨e0,e1,e2,e3,e4⟩,f0,f1,f2,f3,f4⟩:=cells _ hbl
                have hbw:=up _ hbl
                by_cases hlt : k < a.files.length
                · have hlm : k < b.files.length:=by have:=L4.out;omega
                  obtain ⟨bb1,o1,rfl⟩:=rows_some2 k4 hlt
                  obtain ⟨bb2,o2,rfl⟩:=rows_some2 m4 hlm
                  have hlt1 : (k : Int) < (a.files.length : Int):=by omega
                  obtain ⟨x,hx⟩ : ∃ x,a.files[k]? = some x:=⟨a.files[k],by simp [hlt]⟩
                  obtain ⟨y,hy⟩ : ∃ x,b.files[k]? = some x:=⟨b.files[k],by simp [hlm]⟩
                  have p0:=rows_file (k4.below hbw) hx
                  have q0:=rows_file (m4.below hbw) hy
                  have hxH:=Lib.hid hx
                  have hyH:=Lib.hid hy
                  clear hx hy k1 k2 k3 k4 m1 m2 m3 m4 hC hC' cells h5
                  by_cases d0 : x = y
                  case neg =>
                    have hne:=Lib.hid (hno.out fun h=>by
                      have h2:=hxH.out
                      rw [h.2.2.2.1,hyH.out] at h2
                      injection h2 with h2
                      skip
                      exact d0 (by first | assumption | (symm;assumption)))
                    have hb:=bytes_ne d0
                    go_wp2
                    go_quiet (fail)
                    go_wp2
                    go_ret
                    exact ⟨by rw [hne.out];rfl,below_drewN hbw _⟩
                  subst d0
                  go_wp2
                  go_quiet (fail)
                  go_wp2
                  go_roundg (gk - 1)
                  case measure=>omega
                  case rel =>
                    refine ⟨k + 1,by omega,by omega,by go_num,below_drewN hbl _,fun j hj=>?_⟩
                    by_cases hjk : j < k
                    · exact hA4.out j hjk
                    · obtain rfl : j = k:=by omega
                      rw [hxH.out,hyH.out]
                · obtain rfl : k = a.files.length:=by omega
                  have hF4:=Lib.hid (show a.files = b.files from List.ext_getElem? fun j=>by
                    by_cases hj : j < a.files.length
                    · exact hA4.out j hj
                    · have:=L4.out
                      rw [List.getElem?_eq_none (by omega),List.getElem?_eq_none (by omega)])
                  clear hA4 hlt hgk hk
                  go_wp2
                  clear e0 e1 e2 e3 e4 f0 f1 f2 f3 f4
                  have hf:=Lib.hid (show r = true by rw [hrr.out];exact dec_yes ⟨hF1.out,hF2.out,hF3.out,hF4.out,hF5.out⟩)
                  go_ret
                  exact ⟨by rw [hf.out];rfl,hbw⟩
end Go.Ev

namespace Go.Ev
open Go.RowKit Go.Proofs Go.Rw
section
variable {α : Type} (f : α → List Value) (size : Nat)
def flatR (l : List α) : List Value:=l.flatMap f
theorem flatR_get (hf : ∀ x,(f x).length = size) : ∀ (l : List α) (k : Nat) (x : α),l[k]? = some x → ∀ (j : Nat) (u : Value),(f x)[j]? = some u → (flatR f l)[k * size + j]? = some u
  | [],k,x,h,_,_,_=>by simp at h
  | y :: l,0,x,h,j,u,hj=>by
    cases h
    unfold flatR
    rw [List.flatMap_cons,Nat.zero_mul,Nat.zero_add,List.getElem?_append_left (by have:=(List.getElem?_eq_some_iff.1 hj).1;simpa using this)]
    exact hj
  | y :: l,k + 1,x,h,j,u,hj=>by
    have:=flatR_get hf l k x (by simpa using h) j u hj
    unfold flatR at *
    rw [List.flatMap_cons,List.getElem?_append_right (by rw [hf,Nat.succ_mul];omega)]
    rw [show (k + 1) * size + j - (f y).length = k * size + j by rw [hf,Nat.succ_mul];omega]
    exact this
theorem flatR_snoc (l : List α) (x : α) : flatR f (l ++ [x]) = flatR f l ++ f x:=by simp [flatR]
theorem rows_of_ownR {W : World} {base e n : Nat} {v : Value} {l : List α} (hf : ∀ x,(f x).length = size) (h : W.ownsRow base e size v n (flatR f l)) (hn : n = l.length) : RowsAt W v f size l:=by
  subst hn
  rcases h.2 with ⟨rfl,h0⟩ | ⟨g,cap,cur,rfl,_,hg,_⟩
  · have : l = []:=List.eq_nil_of_length_eq_zero h0
    subst this
    exact ⟨none,0,rfl,.inl rfl⟩
  · refine ⟨_,cap,rfl,.inr ⟨g,0,rfl,fun k x hk j u hj=>?_⟩⟩
    have:=h.cells (g:=g) rfl (k * size + j) u (flatR_get f size hf l k x hk j u hj)
    rw [cell_add] at this
    rw [Nat.add_assoc]
    exact this
end
theorem owns_keep {w W : World} {base e size n : Nat} {v : Value} {xs : List Value} (h : w.ownsRow base e size v n xs) (hb : Below w.heap.size w W) : W.ownsRow base e size v n xs:=by
  refine ⟨h.1,h.2.imp id fun ⟨g,cap,cur,e1,h1,h2,h3⟩=>⟨g,cap,cur,e1,h1,(hb.block g ?_).trans h2,h3⟩⟩
  by_cases hlt : g < w.heap.size
  · exact hlt
  · rw [Array.getElem?_eq_none (by omega)] at h2
    cases h2
theorem own_shape {w : World} {base e size n : Nat} {v : Value} {xs : List Value} (h : w.ownsRow base e size v n xs) : ∃ a c,v = .slice a n c:=by
  rcases h.2 with ⟨rfl,h0⟩ | ⟨g,cap,cur,rfl,_⟩
  · exact ⟨none,0,by rw [h0]⟩
  · exact ⟨_,cap,rfl⟩
theorem info_any {t sz by_ : Nat} (h : (Tryz.prog.info? t).map (fun i=>(i.zero.map fun z=>z.cells.size,i.size,i.bytes)) = some (some sz,sz,by_)) : ∃ i z,Tryz.prog.info? t = some i ∧ i.zero = some z ∧ i.size = sz ∧ i.bytes = by_ ∧ z.cells.size = sz:=by
  cases hi : Tryz.prog.info? t with
  | none=>rw [hi] at h;cases h
  | some i =>
    rw [hi] at h
    simp only [Option.map_some,Option.some.injEq,Prod.mk.injEq] at h
    obtain ⟨h1,h2,h3⟩:=h
    cases hz : i.zero with
    | none=>rw [hz] at h1;cases h1
    | some z =>
      rw [hz] at h1
      simp only [Option.map_some,Option.some.injEq] at h1
      exact ⟨i,z,rfl,hz,h2,h3,h1⟩
theorem info68 : (Tryz.prog.info? 68).map (fun i=>(i.zero.map fun z=>z.cells.size,i.size,i.bytes)) = some (some 6,6,56):=by kernel_rfl
theorem symC_len (x : SymT) : x.cells.length = 6:=rfl
theorem relC_len (x : RelT) : x.cells.length = 5:=rfl
theorem secC_len (x : SecT) : x.cells.length = 5:=rfl
theorem symC_one (x : SymT) : ∀ u ∈ x.cells,u.oneCell' = true:=fun u hu=>by
  simp only [SymT.cells,List.mem_cons,List.not_mem_nil,or_false] at hu
  rcases hu with rfl | rfl | rfl | rfl | rfl | rfl <;> rfl
theorem relC_one (x : RelT) : ∀ u ∈ x.cells,u.oneCell' = true:=fun u hu=>by
  simp only [RelT.cells,List.mem_cons,List.not_mem_nil,or_false] at hu
  rcases hu with rfl | rfl | rfl | rfl | rfl <;> rfl
theorem secC_one (x : SecT) : ∀ u ∈ x.cells,u.oneCell' = true:=fun u hu=>by
  simp only [SecT.cells,List.mem_cons,List.not_mem_nil,or_false] at hu
  rcases hu with rfl | rfl | rfl | rfl | rfl <;> rfl
def namesL (o : ObjT) : List SymT:=o.rels.map fun r=>o.syms.getD r.sym.toNat default
theorem take_snoc {α : Type} {l : List α} {k : Nat} {x : α} (hx : l[k]? = some x) : l.take (k + 1) = l.take k ++ [x]:=by rw [List.take_add_one,hx];rfl
end Go.Ev

namespace Go.Ev
open Go.RowKit Go.Proofs Go.Rw
def SrcB (w : World) (a : Option Addr) (n : Nat) (ys : List Int) : Prop:=ys.length = n ∧ (∀ y ∈ ys,InB y) ∧ (a = none → n = 0) ∧ ∀ ad,a = some ad → ∀ j u,(byL ys)[j]? = some u → w.cell? (ad.add j) = some u
theorem SrcB.below {w w' : World} {a : Option Addr} {n : Nat} {ys : List Int} (h : SrcB w a n ys) (hb : Below w.heap.size w w') : SrcB w' a n ys :=
  ⟨h.1,h.2.1,h.2.2.1,fun ad ha j u hj=>(hb.cell (low_of_cell (h.2.2.2 ad ha j u hj))).trans (h.2.2.2 ad ha j u hj)⟩
theorem byL_oneCell (ys : List Int) : ∀ u ∈ byL ys,u.oneCell' = true:=fun u hu=>by
  obtain ⟨y,_,rfl⟩:=List.mem_map.1 hu
  rfl
theorem byL_length (ys : List Int) : (byL ys).length = ys.length:=by simp [byL]
theorem byL_append (xs ys : List Int) : byL (xs ++ ys) = byL xs ++ byL ys:=by simp [byL]
theorem run_append_none (w : World) (a : Option Addr) (n c k : Nat) (h : n ≤ c) (ty : TypeId) : (Builtin.append_ #[34,34] ty #[.slice a n c,.slice none 0 k]).run Tryz.prog w = .ok (.slice a n c) w:=by
  obtain ⟨i0,hi,hz0,hz1,hz2⟩:=info_parts infoW
  cases a <;> simp [Builtin.append_,run_underlying Tryz.underlying34,run_underlying Tryz.underlying5,sizeOf,typeInfo,hi,Builtin.lenOf,Builtin.firstCells,h,storeCells]
theorem wpList_append_none {w : World} {ops : Array Oper} {rest : List Oper} {o : Oper} {a : Act} {Q : Exit → Act → World → Prop} (hgd : o.guard = none) (s x : Operand)
    (ho : o.op = .call { callee:=.builtin .append,args:=#[s,x],argTypes:=#[34,34] }) {va : Option Addr} {n c k : Nat} (hs : a.eval s = .slice va n c) (hx : a.eval x = .slice none 0 k) (hle : n ≤ c)
    (h : wpList Tryz.prog ops Q rest (a.put o.dst (.slice va n c)) w) : wpList Tryz.prog ops Q (o :: rest) a w:=by
  refine wpList_plain hgd fun _ hK=>?_
  have hr:=run_append_none w va n c k hle o.type
  unfold Oper.wp execOp
  simp only [ho,resolve,invoke,builtin,Sem.run_bind,Sem.run_pure,Result.andThen_ok,List.map_toArray,List.map_cons,List.map_nil,hs,hx,hr]
  exact hK _ _ h
theorem own_capped {w : World} {base e size n c : Nat} {a : Option Addr} {xs : List Value} (h : w.ownsRow base e size (.slice a n c) n xs) : n ≤ c:=by
  rcases h.2 with ⟨h0,h1⟩ | ⟨g,cap,cur,h0,_,_,h1,_⟩
  · cases h0;omega
  · cases h0
    exact h1
set_option maxRecDepth 100000 in
set_option maxHeartbeats 2000000 in
theorem bytesN_c {w : World} {base g n c : Nat} {a : Option Addr} {ob : Option Nat} {xs : List Value} {ys : List Int} (h : WrS w base g ob xs) (hs : SrcB w a n ys) (hbase : base ≤ w.heap.size) (hn : xs.length ≤ 10000000) (hm : n ≤ 10000000) :
    Calls Tryz.prog 76 #[.pointer (some ⟨g,0,none⟩),.slice a n c] w (WrR base g ob (xs ++ byL ys) w):=by
  have hlt:=h.lt
  obtain ⟨v,hg,hown,hob,hne⟩:=h
  have c0 : w.cell? ⟨g,0,none⟩ = some v:=by simp [World.cell?,hg]
  have f0 : w.frozen? ⟨g,0,none⟩ = false:=by simp [World.frozen?,hg]
  obtain ⟨i0,hi,hz0,hz1,hz2⟩:=info_parts infoW
  obtain ⟨hs1,hs2,hs0,hs3⟩:=hs
  cases a with
  | none =>
    obtain rfl : n = 0:=hs0 rfl
    obtain rfl : ys = []:=List.eq_nil_of_length_eq_zero hs1
    obtain ⟨va,vc,rfl⟩:=own_shape hown
    have hcap:=own_capped hown
    have hres:=Lib.hid (show WrS (w.setCell ⟨g,0,none⟩ (.slice va xs.length vc)) base g ob (xs ++ byL []) ∧ Wst w (w.setCell ⟨g,0,none⟩ (.slice va xs.length vc)) g ob ob by
      refine ⟨⟨_,heap_setCell_same _ _ 0 _ _ _ hg,?_,hob,hne⟩,⟨rfl,rfl,rfl,by simp,fun k hk hkg _=>heap_setCell_other w ⟨g,0,none⟩ k _ hkg,.inl rfl⟩⟩
      rw [show xs ++ byL [] = xs by simp [byL]]
      exact hown.kept (w':=w.setCell ⟨g,0,none⟩ _) (row:=some g) ⟨rfl,rfl,rfl,by simp,fun k _ hne=>heap_setCell_other w ⟨g,0,none⟩ k _ (fun e=>hne (by rw [e]))⟩ (.inr (by rw [hob];exact hne)))
    clear hown hs3 hs2 hs1
    go_enter Tryz.func76,Tryz.ntmps76
    go_wp2_with (at_builtin;refine wpList_append_none rfl _ _ rfl rfl rfl hcap ?_)
    refine bodyPost_end (results_none rfl _ _ _) rfl ?_
    exact ⟨rfl,ob,hres.out.1,hres.out.2⟩
  | some ad =>
    have hv1:=hs3 ad rfl
    have hl:=byL_length ys
    have ho:=byL_oneCell ys
    clear hs3
    go_enter Tryz.func76,Tryz.ntmps76
    go_wp2_with (at_builtin;refine wpList_append_fresh rfl _ _ 34 rfl base 5 i0 (.int .u8 0) 1 1 Tryz.underlying34 hi hz0 hz1 hz2 rfl (by decide) v xs.length xs rfl hown ad n c (byL ys) rfl (by omega) hv1 ho (by unfold maxLen;omega) (by omega) hbase ?_)
    intro v' w1 hown1 hgr hfr
    have hg1 : w1.heap[g]? = some (.cells #[v] 98 (0,0)):=(hgr.block g hlt.1 (by first | (rw [hob];exact fun e=>hne e.symm) | exact fun e=>hne e.symm)).trans hg
    have c1 : w1.cell? ⟨g,0,none⟩ = some v:=by simp [World.cell?,hg1]
    have f1 : w1.frozen? ⟨g,0,none⟩ = false:=by simp [World.frozen?,hg1]
    have hgg : v'.ownBlock ≠ some g:=by
      rcases hfr with e | ⟨k,e,hk⟩
      · rw [e];simpa [hob] using hne
      · rw [e];intro e';cases e';omega
    have hst : Wst w (w1.setCell ⟨g,0,none⟩ v') g ob v'.ownBlock:=⟨hgr.os,hgr.tape,hgr.output,Nat.le_trans hgr.size (by simp),fun k hk hkg hko=>(heap_setCell_other w1 ⟨g,0,none⟩ k v' hkg).trans (hgr.block k hk (fun e=>hko (by first | (rw [hob] at e;exact e.symm) | exact e.symm))),by simpa [hob] using hfr⟩
    have hwr : WrS (w1.setCell ⟨g,0,none⟩ v') base g v'.ownBlock (xs ++ byL ys):=by
      refine ⟨v',heap_setCell_same _ _ 0 _ _ _ hg1,?_,rfl,hgg⟩
      rw [List.length_append,hl,hs1]
      exact hown1.kept (w':=w1.setCell ⟨g,0,none⟩ v') (row:=some g) ⟨rfl,rfl,rfl,by simp,fun k _ hne=>heap_setCell_other w1 ⟨g,0,none⟩ k v' (fun e=>hne (by rw [e]))⟩ (.inr hgg)
    obtain ⟨a',c',rfl⟩:=own_shape hown1
    have hst:=Lib.hid hst
    have hwr:=Lib.hid hwr
    clear hown1 hgr hfr hv1 ho
    go_wp2
    refine bodyPost_end (results_none rfl _ _ _) rfl ?_
    exact ⟨rfl,_,hwr.out,hst.out⟩
end Go.Ev

