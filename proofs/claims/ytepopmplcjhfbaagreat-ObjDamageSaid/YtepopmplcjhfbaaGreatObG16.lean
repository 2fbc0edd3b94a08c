import Derived.Test.YtepopmplcjhfbaaGreatObG09
import Derived.Test.YtepopmplcjhfbaaGreatObG05
import Derived.Maps.OwnOps
import Derived.Test.YtepopmplcjhfbaaGreatObG15
set_option linter.unusedSectionVars false
set_option linter.unusedVariables false
set_option linter.unusedSimpArgs false
set_option linter.unnecessarySimpa false
namespace Go.Ev
open Go.RowKit Go.Proofs Go.Rw Go.Maps Go.WideMaps Go.ChangeMaps Go.MapKept
theorem ownsMap_below {w W : World} {P : Program} {k : TypeId} {R : Value → Option (DataW Unit × List MemPlace)} {b n : Nat} {D : DataW Unit} (h : w.ownsMap P k R b n D) (hb : Below w.heap.size w W) : W.ownsMap P k R b n D:=by
  have hlt:=h.lt
  obtain ⟨es,clock,h1,F,hs,hD⟩:=h
  exact ⟨es,clock,(hb.block b hlt).trans h1,F,hs,hD⟩
def MapV (W : World) (b k : Nat) (l : List ByteArray) : Prop:=∃ D : DataW Unit,W.ownsMap Tryz.prog 9 (plainElem Tryz.prog 3) b k D ∧ ∀ (j : Nat) (s : ByteArray),j < k → l[j]? = some s → D.atKey (keyL s) (.lit (.int .i64 0)) = .lit (.int .i64 (j : Int))
theorem MapV.below {w W : World} {b k : Nat} {l : List ByteArray} (h : MapV w b k l) (hb : Below w.heap.size w W) : MapV W b k l:=by
  obtain ⟨D,h1,h2⟩:=h
  exact ⟨D,ownsMap_below h1 hb,h2⟩
def MapN (W : World) (b k : Nat) (l : List Int) : Prop:=∃ D : DataW Unit,W.ownsMap Tryz.prog 3 (plainElem Tryz.prog 4) b k D ∧ ∀ i : Int,D.atKey (.int .i64 i) (.lit (.bool false)) = .lit (.bool (decide (i ∈ l)))
theorem MapN.below {w W : World} {b k : Nat} {l : List Int} (h : MapN w b k l) (hb : Below w.heap.size w W) : MapN W b k l:=by
  obtain ⟨D,h1,h2⟩:=h
  exact ⟨D,ownsMap_below h1 hb,h2⟩
def IdxV (l : List ByteArray) (w : World) (e : Ending) (w' : World) : Prop:=e = .returned (.map (some w.heap.size)) ∧ Below w.heap.size w w' ∧ MapV w' w.heap.size l.length l
end Go.Ev

namespace Go.Ev
open Go.RowKit Go.Proofs Go.Rw
section
variable {α : Type} (f : α → List Value) (size : Nat)
end
def OwnR {α : Type} (f : α → List Value) (e : Nat) (W : World) (g : Nat) (l : List α) : Prop:=∃ cur : Array Value,W.heap[g]? = some (.cells cur e (0,0)) ∧ ∀ (k : Nat) (x : α),l[k]? = some x → ∀ (j : Nat) (u : Value),(f x)[j]? = some u → cur[k * 5 + j]? = some u
theorem OwnR.low {α : Type} {f : α → List Value} {e : Nat} {W : World} {g : Nat} {l : List α} (h : OwnR f e W g l) : g < W.heap.size:=by
  obtain ⟨cur,h1,-⟩:=h
  exact (Array.getElem?_eq_some_iff.1 h1).1
theorem OwnR.below {α : Type} {f : α → List Value} {e : Nat} {W W' : World} {g : Nat} {l : List α} (h : OwnR f e W g l) (hb : Below W.heap.size W W') : OwnR f e W' g l:=by
  have hlt:=h.low
  obtain ⟨cur,h1,h2⟩:=h
  exact ⟨cur,(hb.block g hlt).trans h1,h2⟩
theorem OwnR.rows {α : Type} {f : α → List Value} {e c : Nat} {W : World} {g : Nat} {l : List α} (h : OwnR f e W g l) : RowsAt W (.slice (some ⟨g,0,none⟩) l.length c) f 5 l:=by
  obtain ⟨cur,h1,h2⟩:=h
  refine ⟨_,c,rfl,.inr ⟨g,0,rfl,fun k x hk j u hj=>?_⟩⟩
  have:=h2 k x hk j u hj
  rw [Nat.zero_add]
  simpa [World.cell?,h1] using this
theorem OwnR.cell {α : Type} {f : α → List Value} {e : Nat} {W : World} {g : Nat} {l : List α} (h : OwnR f e W g l) {k j : Nat} {x : α} {u : Value} (hk : l[k]? = some x) (hj : (f x)[j]? = some u) : W.cell? ⟨g,k * 5 + j,none⟩ = some u:=by
  obtain ⟨cur,h1,h2⟩:=h
  have:=h2 k x hk j u hj
  simpa [World.cell?,h1] using this
theorem OwnR.frozen {α : Type} {f : α → List Value} {e : Nat} {W : World} {g : Nat} {l : List α} (h : OwnR f e W g l) (i : Nat) : W.frozen? ⟨g,i,none⟩ = false:=by
  obtain ⟨cur,h1,-⟩:=h
  simp [World.frozen?,h1]
theorem OwnR.set {α : Type} {f : α → List Value} {e : Nat} {W : World} {g : Nat} {l : List α} (hf : ∀ x,(f x).length = 5) (h : OwnR f e W g l) {k j0 : Nat} {x x' : α} {u : Value} (hk : l[k]? = some x) (hj0 : j0 < 5) (hx : f x' = (f x).set j0 u) : OwnR f e (W.setCell ⟨g,k * 5 + j0,none⟩ u) g (l.set k x'):=by
  obtain ⟨cur,h1,h2⟩:=h
  obtain ⟨old,hold⟩ : ∃ o,(f x)[j0]? = some o:=⟨(f x)[j0]'(by rw [hf];exact hj0),by simp [hf,hj0]⟩
  have hsz:=(Array.getElem?_eq_some_iff.1 (h2 k x hk j0 old hold)).1
  refine ⟨cur.setIfInBounds (k * 5 + j0) u,heap_setCell_same _ _ _ _ _ _ h1,fun k2 x2 hk2 j v hj=>?_⟩
  have hj5 : j < 5:=by have:=(List.getElem?_eq_some_iff.1 hj).1;rwa [hf] at this
  rw [Array.getElem?_setIfInBounds]
  by_cases e : k2 = k
  · subst e
    rw [List.getElem?_set_self (List.getElem?_eq_some_iff.1 hk).1] at hk2
    cases hk2
    rw [hx] at hj
    by_cases ej : j = j0
    · subst ej
      rw [if_pos rfl,if_pos hsz]
      rw [List.getElem?_set_self (by rw [hf];exact hj5)] at hj
      exact hj
    · rw [if_neg (by omega)]
      rw [List.getElem?_set_ne (fun h=>ej h.symm)] at hj
      exact h2 k2 x hk j v hj
  · rw [if_neg (by omega)]
    rw [List.getElem?_set_ne (fun h=>e h.symm)] at hk2
    exact h2 k2 x2 hk2 j v hj
theorem info94 : (Tryz.prog.info? 94).map (fun i=>(i.zero.map fun z=>z.cells.size,i.size,i.bytes)) = some (some 5,5,40):=by kernel_rfl
theorem info66 : (Tryz.prog.info? 66).map (fun i=>(i.zero.map fun z=>z.cells.size,i.size,i.bytes)) = some (some 5,5,64):=by kernel_rfl
def CloneV {α : Type} (f : α → List Value) (t : Nat) (l : List α) (w : World) (e : Ending) (w' : World) : Prop:=∃ v,e = .returned v ∧ w'.ownsRow w.heap.size t 5 v l.length (flatR f l) ∧ Below w.heap.size w w'
def mixL {α : Type} (F : α → α) (l : List α) (k : Nat) : List α:=l.mapIdx fun i x=>if i < k then F x else x
def Fresh (B : Nat) (a : Option Addr) : Prop:=∀ b o s,a = some ⟨b,o,s⟩ → B ≤ b
end Go.Ev

namespace Go.Ev
open Go.RowKit Go.Proofs Go.Rw
def RowV {α : Type} (f : α → List Value) (e size : Nat) (base : Nat) (l : List α) (w : World) (v : Value) : Prop:=w.ownsRow base e size v l.length (flatR f l)
theorem Stp.grown {R : Nat} {w wr w' : World} {row : Option Nat} (h : Stp R w wr) (hg : wr.grownBy w' row) (hrow : ∀ k,row = some k → w.heap.size ≤ k) : Stp R w w' :=
  ⟨hg.os.trans h.os,hg.tape.trans h.tape,hg.output.trans h.output,Nat.le_trans h.size hg.size,fun k hk hkR ho=>(hg.block k (Nat.lt_of_lt_of_le hk h.size) (fun e=>by have:=hrow k e.symm;omega)).trans (h.block k hk hkR ho),h.fresh⟩
theorem RS.grown {w w' : World} {R b o n c p : Nat} {all : List Nat} {row : Option Nat} (h : RS w R b o n c all p) (hg : w.grownBy w' row) (hR : row ≠ some R) (hb : row ≠ some b) : RS w' R b o n c all p:=by
  have e1 : w'.heap[R]? = w.heap[R]?:=hg.block R h.rlow (fun e=>hR e.symm)
  have e2 : w'.heap[b]? = w.heap[b]?:=hg.block b h.low (fun e=>hb e.symm)
  exact ⟨e1.trans h.blk,⟨h.at_.1,h.at_.2.1,fun j hj=>(World.cell?_of_block e2).trans (h.at_.2.2 j hj)⟩,h.ne,Nat.lt_of_lt_of_le h.low hg.size,h.pn,h.nc,h.nn⟩
theorem owns_stp {w w' : World} {base e size n R : Nat} {v : Value} {xs : List Value} (h : w.ownsRow base e size v n xs) (hs : Stp R w w') (hR : R < base) : w'.ownsRow base e size v n xs:=by
  refine ⟨h.1,h.2.imp id fun ⟨g,cap,cur,e1,h1,h2,h3⟩=>⟨g,cap,cur,e1,h1,(hs.block g ?_ (by omega) (fun e=>by cases e)).trans h2,h3⟩⟩
  by_cases hlt : g < w.heap.size
  · exact hlt
  · rw [Array.getElem?_eq_none (by omega)] at h2
    cases h2
theorem info25 : (Tryz.prog.info? 9).map (fun i=>(i.zero.map fun z=>z.cells.size,i.size,i.bytes)) = some (some 1,1,16):=by kernel_rfl
set_option maxRecDepth 100000 in
set_option maxHeartbeats 4000000 in
theorem lst_sym {w : World} {R b o n c p : Nat} {all : List Nat} (h : RS w R b o n c all p) :
    Calls Tryz.prog 177 #[.pointer (some ⟨R,0,none⟩),.int .i64 500,.func (.func 178) #[] #[]] w (RdR R b o n c all (RowV SymT.cells 68 6 w.heap.size) (lstF (symF all) all p 500) w):=by
  have hu : Calls Tryz.prog 227 #[.pointer (some ⟨R,0,none⟩),.int .i64 500] w (RdR R b o n c all NumV (upF all p 500) w):=upTo2_c (most:=500) h (by omega)
  have hNm : ∀ y,upF all p 500 = .ok y → y.1 ≤ 500:=fun y hy=>(upF_le hy).1
  obtain ⟨i0,z0,hi,hz0,hz1,hz2,hz3⟩:=info_any info68
  have hRl:=h.rlow
  have hbl:=h.low
  have hbR:=h.ne
  unfold lstF
  generalize upF all p 500 = m at hu hNm ⊢
  cases m with
  | error x =>
    have hu:=RdR.no hu rfl
    show Calls Tryz.prog 177 _ w (RdR R b o n c all (RowV SymT.cells 68 6 w.heap.size) (.error x) w)
    go_enter Tryz.func177,Tryz.ntmps177
    go_wp2_with fail
    refine hu.mono ?_
    rintro e w1 ⟨rfl,hs⟩
    go_wp2
    exact ⟨rfl,hs,rfl⟩
  | ok y =>
    have hu:=RdR.yes hu rfl
    obtain ⟨N,q0⟩:=y
    have hN:=hNm _ rfl
    dsimp only at hN hu
    clear hNm
    show Calls Tryz.prog 177 _ w (RdR R b o n c all (RowV SymT.cells 68 6 w.heap.size) (manyF (symF all) N q0) w)
    obtain ⟨M,hM⟩ : ∃ M,M = manyF (symF all) N q0:=⟨_,rfl⟩
    rw [← hM]
    replace hM:=Lib.hid hM
    go_enter Tryz.func177,Tryz.ntmps177
    go_wp2_with fail
    refine hu.mono ?_
    rintro e w1 ⟨v,rfl,rfl,hr1,hs1⟩
    go_wp2_with fail
    go_loopg [7,13] N (fun gn v i wr=>∃ (k q : Nat) (l : List SymT),gn + k = N ∧ k ≤ N ∧ i = .int .i64 k ∧ l.length = k ∧ wr.ownsRow w.heap.size 68 6 v k (flatR SymT.cells l) ∧ RS wr R b o n c all q ∧ Stp R w wr ∧ M = (manyF (symF all) (N - k) q).bind fun z=>.ok (l ++ z.1,z.2))
    case atStart =>
      refine ⟨0,q0,[],by omega,by omega,rfl,rfl,World.ownsRow_nil _ _ _ _,hr1,hs1,?_⟩
      rw [hM.out,Nat.sub_zero]
      cases manyF (symF all) N q0 <;> rfl
    case round =>
      obtain ⟨k,q,l,hgk,hk,rfl,hl,hown,hr,hs,hm⟩:=hrel
      obtain ⟨va,vc,rfl⟩:=own_shape hown
      replace hm:=Lib.hid hm
      replace hown:=Lib.hid hown
      have hsz:=hs.size
      by_cases hlt : k < N
      · have hlt' : (k : Int) < (N : Int):=by omega
        have hc:=symbol2_c hr
        obtain ⟨j,hj⟩ : ∃ j,N - k = j + 1:=⟨N - k - 1,by omega⟩
        have hm1 : M = (symF all q).bind fun y=>(manyF (symF all) j y.2).bind fun z=>.ok (l ++ y.1 :: z.1,z.2):=by
          rw [hm.out,hj,manyF]
          cases symF all q with
          | error x=>rfl
          | ok y =>
            show ((manyF (symF all) j y.2).bind _).bind _ = (manyF (symF all) j y.2).bind _
            cases manyF (symF all) j y.2 <;> rfl
        generalize symF all q = mm at hc hm1
        cases mm with
        | error x =>
          have hc:=RdR.no hc rfl
          have hfin:=Lib.hid (show M = .error x from hm1)
          clear hm1
          go_wp2_with fail
          refine hc.mono ?_
          rintro e w2 ⟨rfl,hs2⟩
          (try go_wp2)
          exact ⟨rfl,hs.trans hs2,by rw [hfin.out]⟩
        | ok y =>
          have hc:=RdR.yes hc rfl
          obtain ⟨x,q1⟩:=y
          have hm2 : M = (manyF (symF all) j q1).bind fun z=>.ok (l ++ x :: z.1,z.2):=hm1
          replace hm2:=Lib.hid hm2
          clear hm1
          go_wp2_with fail
          refine hc.mono ?_
          rintro e w2 ⟨v2,rfl,hv2,hr2,hs2⟩
          obtain rfl:=hv2
          skip
          have hown2:=(owns_stp hown.out hs2 hRl).alloc (.cells #[.string x.name,.int .i64 x.sec,.int .u32 x.val,.int .i64 x.size,.int .i64 x.bind,.int .i64 x.kind] 68)
          have hr3:=hr2.alloc (.cells #[.string x.name,.int .i64 x.sec,.int .u32 x.val,.int .i64 x.size,.int .i64 x.bind,.int .i64 x.kind] 68)
          have hs3:=(hs.trans hs2).alloc (.cells #[.string x.name,.int .i64 x.sec,.int .u32 x.val,.int .i64 x.size,.int .i64 x.bind,.int .i64 x.kind] 68)
          have hnew:=Lib.hid (fun j u (hj : (SymT.cells x)[j]? = some u)=>(by rw [cell_add,Nat.zero_add];exact new_cell w2 _ 68 j u (by simpa [SymT.cells] using hj) : (w2.alloc (.cells #[.string x.name,.int .i64 x.sec,.int .u32 x.val,.int .i64 x.size,.int .i64 x.bind,.int .i64 x.kind] 68)).cell? ((⟨w2.heap.size,0,none⟩ : Addr).add j) = some u))
          replace hown2:=Lib.hid hown2
          replace hr3:=Lib.hid hr3
          replace hs3:=Lib.hid hs3
          go_wp2_with (at_builtin;refine wpList_append_fresh rfl _ _ 23 rfl w.heap.size 68 i0 z0 6 56 Tryz.underlying23 hi hz0 hz1 hz2 hz3 (by decide) _ k _ rfl hown2.out _ 1 1 (SymT.cells x) rfl rfl hnew.out (symC_one x) (by unfold maxLen;omega) (by omega) (Nat.le_trans (Nat.le_trans hsz hs2.size) (by simp)) ?_)
          intro v' w4 hown4 hgr hfr
          have hrow:=fun kk (e : Value.ownBlock _ = some kk)=>(hown2.out.lt kk e).1
          have hr5:=hr3.out.grown hgr (fun e=>by have:=hrow _ e;omega) (fun e=>by have:=hrow _ e;omega)
          have hs5:=hs3.out.grown hgr hrow
          obtain ⟨va',vc',rfl⟩:=own_shape hown4
          have hown5:=Lib.hid (show w4.ownsRow w.heap.size 68 6 (.slice va' (k + 1) vc') (k + 1) (flatR SymT.cells (l ++ [x])) by rw [flatR_snoc];exact hown4)
          clear hown4 hgr hfr hrow hown2 hr3 hs3 hnew
          go_wp2
          go_roundg (gk - 1)
          case measure=>omega
          case rel =>
            refine ⟨k + 1,q1,l ++ [x],by omega,by omega,by go_num,by rw [List.length_append,hl];rfl,hown5.out,hr5,hs5,?_⟩
            rw [hm2.out,show N - (k + 1) = j by omega]
            cases manyF (symF all) j q1 with
            | error _=>rfl
            | ok z=>show Except.ok (l ++ x :: z.1,z.2) = Except.ok (l ++ [x] ++ z.1,z.2);rw [List.append_assoc];rfl
      · obtain rfl : k = N:=by omega
        have hfin:=Lib.hid (show M = .ok (l,q) by rw [hm.out,Nat.sub_self];show Except.ok (l ++ [],q) = _;rw [List.append_nil])
        go_wp2
        go_ret
        rw [hfin.out]
        exact ⟨hs,_,rfl,(by unfold RowV;rw [hl];exact hown.out),hr⟩
set_option maxRecDepth 100000 in
set_option maxHeartbeats 4000000 in
theorem lst_rel {w : World} {R b o n c p : Nat} {all : List Nat} (h : RS w R b o n c all p) :
    Calls Tryz.prog 179 #[.pointer (some ⟨R,0,none⟩),.int .i64 2000,.func (.func 180) #[] #[]] w (RdR R b o n c all (RowV RelT.cells 94 5 w.heap.size) (lstF (relF all) all p 2000) w):=by
  have hu : Calls Tryz.prog 227 #[.pointer (some ⟨R,0,none⟩),.int .i64 2000] w (RdR R b o n c all NumV (upF all p 2000) w):=upTo2_c (most:=2000) h (by omega)
  have hNm : ∀ y,upF all p 2000 = .ok y → y.1 ≤ 2000:=fun y hy=>(upF_le hy).1
  obtain ⟨i0,z0,hi,hz0,hz1,hz2,hz3⟩:=info_any info94
  have hRl:=h.rlow
  have hbl:=h.low
  have hbR:=h.ne
  unfold lstF
  generalize upF all p 2000 = m at hu hNm ⊢
  cases m with
  | error x =>
    have hu:=RdR.no hu rfl
    show Calls Tryz.prog 179 _ w (RdR R b o n c all (RowV RelT.cells 94 5 w.heap.size) (.error x) w)
    go_enter Tryz.func179,Tryz.ntmps179
    go_wp2_with fail
    refine hu.mono ?_
    rintro e w1 ⟨rfl,hs⟩
    go_wp2
    exact ⟨rfl,hs,rfl⟩
  | ok y =>
    have hu:=RdR.yes hu rfl
    obtain ⟨N,q0⟩:=y
    have hN:=hNm _ rfl
    dsimp only at hN hu
    clear hNm
    show Calls Tryz.prog 179 _ w (RdR R b o n c all (RowV RelT.cells 94 5 w.heap.size) (manyF (relF all) N q0) w)
    obtain ⟨M,hM⟩ : ∃ M,M = manyF (relF all) N q0:=⟨_,rfl⟩
    rw [← hM]
    replace hM:=Lib.hid hM
    go_enter Tryz.func179,Tryz.ntmps179
    go_wp2_with fail
    refine hu.mono ?_
    rintro e w1 ⟨v,rfl,rfl,hr1,hs1⟩
    go_wp2_with fail
    go_loopg [7,13] N (fun gn v i wr=>∃ (k q : Nat) (l : List RelT),gn + k = N ∧ k ≤ N ∧ i = .int .i64 k ∧ l.length = k ∧ wr.ownsRow w.heap.size 94 5 v k (flatR RelT.cells l) ∧ RS wr R b o n c all q ∧ Stp R w wr ∧ M = (manyF (relF all) (N - k) q).bind fun z=>.ok (l ++ z.1,z.2))
    case atStart =>
      refine ⟨0,q0,[],by omega,by omega,rfl,rfl,World.ownsRow_nil _ _ _ _,hr1,hs1,?_⟩
      rw [hM.out,Nat.sub_zero]
      cases manyF (relF all) N q0 <;> rfl
    case round =>
      obtain ⟨k,q,l,hgk,hk,rfl,hl,hown,hr,hs,hm⟩:=hrel
      obtain ⟨va,vc,rfl⟩:=own_shape hown
      replace hm:=Lib.hid hm
      replace hown:=Lib.hid hown
      have hsz:=hs.size
      by_cases hlt : k < N
      · have hlt' : (k : Int) < (N : Int):=by omega
        have hc:=reloc2_c hr
        obtain ⟨j,hj⟩ : ∃ j,N - k = j + 1:=⟨N - k - 1,by omega⟩
        have hm1 : M = (relF all q).bind fun y=>(manyF (relF all) j y.2).bind fun z=>.ok (l ++ y.1 :: z.1,z.2):=by
          rw [hm.out,hj,manyF]
          cases relF all q with
          | error x=>rfl
          | ok y =>
            show ((manyF (relF all) j y.2).bind _).bind _ = (manyF (relF all) j y.2).bind _
            cases manyF (relF all) j y.2 <;> rfl
        generalize relF all q = mm at hc hm1
        cases mm with
        | error x =>
          have hc:=RdR.no hc rfl
          have hfin:=Lib.hid (show M = .error x from hm1)
          clear hm1
          go_wp2_with fail
          refine hc.mono ?_
          rintro e w2 ⟨rfl,hs2⟩
          (try go_wp2)
          exact ⟨rfl,hs.trans hs2,by rw [hfin.out]⟩
        | ok y =>
          have hc:=RdR.yes hc rfl
          obtain ⟨x,q1⟩:=y
          have hm2 : M = (manyF (relF all) j q1).bind fun z=>.ok (l ++ x :: z.1,z.2):=hm1
          replace hm2:=Lib.hid hm2
          clear hm1
          go_wp2_with fail
          refine hc.mono ?_
          rintro e w2 ⟨v2,rfl,hv2,hr2,hs2⟩
          obtain rfl:=hv2
          skip
          have hown2:=(owns_stp hown.out hs2 hRl).alloc (.cells #[.int .i64 x.sec,.int .i64 x.off,.int .i64 x.kind,.int .i64 x.sym,.int .i64 x.add] 94)
          have hr3:=hr2.alloc (.cells #[.int .i64 x.sec,.int .i64 x.off,.int .i64 x.kind,.int .i64 x.sym,.int .i64 x.add] 94)
          have hs3:=(hs.trans hs2).alloc (.cells #[.int .i64 x.sec,.int .i64 x.off,.int .i64 x.kind,.int .i64 x.sym,.int .i64 x.add] 94)
          have hnew:=Lib.hid (fun j u (hj : (RelT.cells x)[j]? = some u)=>(by rw [cell_add,Nat.zero_add];exact new_cell w2 _ 94 j u (by simpa [RelT.cells] using hj) : (w2.alloc (.cells #[.int .i64 x.sec,.int .i64 x.off,.int .i64 x.kind,.int .i64 x.sym,.int .i64 x.add] 94)).cell? ((⟨w2.heap.size,0,none⟩ : Addr).add j) = some u))
          replace hown2:=Lib.hid hown2
          replace hr3:=Lib.hid hr3
          replace hs3:=Lib.hid hs3
          go_wp2_with (at_builtin;refine wpList_append_fresh rfl _ _ 24 rfl w.heap.size 94 i0 z0 5 40 Tryz.underlying24 hi hz0 hz1 hz2 hz3 (by decide) _ k _ rfl hown2.out _ 1 1 (RelT.cells x) rfl rfl hnew.out (relC_one x) (by unfold maxLen;omega) (by omega) (Nat.le_trans (Nat.le_trans hsz hs2.size) (by simp)) ?_)
          intro v' w4 hown4 hgr hfr
          have hrow:=fun kk (e : Value.ownBlock _ = some kk)=>(hown2.out.lt kk e).1
          have hr5:=hr3.out.grown hgr (fun e=>by have:=hrow _ e;omega) (fun e=>by have:=hrow _ e;omega)
          have hs5:=hs3.out.grown hgr hrow
          obtain ⟨va',vc',rfl⟩:=own_shape hown4
          have hown5:=Lib.hid (show w4.ownsRow w.heap.size 94 5 (.slice va' (k + 1) vc') (k + 1) (flatR RelT.cells (l ++ [x])) by rw [flatR_snoc];exact hown4)
          clear hown4 hgr hfr hrow hown2 hr3 hs3 hnew
          go_wp2
          go_roundg (gk - 1)
          case measure=>omega
          case rel =>
            refine ⟨k + 1,q1,l ++ [x],by omega,by omega,by go_num,by rw [List.length_append,hl];rfl,hown5.out,hr5,hs5,?_⟩
            rw [hm2.out,show N - (k + 1) = j by omega]
            cases manyF (relF all) j q1 with
            | error _=>rfl
            | ok z=>show Except.ok (l ++ x :: z.1,z.2) = Except.ok (l ++ [x] ++ z.1,z.2);rw [List.append_assoc];rfl
      · obtain rfl : k = N:=by omega
        have hfin:=Lib.hid (show M = .ok (l,q) by rw [hm.out,Nat.sub_self];show Except.ok (l ++ [],q) = _;rw [List.append_nil])
        go_wp2
        go_ret
        rw [hfin.out]
        exact ⟨hs,_,rfl,(by unfold RowV;rw [hl];exact hown.out),hr⟩
theorem file2_c {w : World} {R b o n c p : Nat} {all : List Nat} (h : RS w R b o n c all p) : Calls Tryz.prog 182 #[.pointer (some ⟨R,0,none⟩)] w (RdR R b o n c all StrV (filF all p) w):=by
  have hu : Calls Tryz.prog 183 #[.pointer (some ⟨R,0,none⟩),.int .i64 100] w (RdR R b o n c all StrV (filF all p) w):=text2_c (most:=100) h (by omega)
  generalize filF all p = m at hu ⊢
  cases m with
  | error x =>
    have hu:=RdR.no hu rfl
    go_enter Tryz.func182,Tryz.ntmps182
    go_wp2_with fail
    refine hu.mono ?_
    rintro e w1 ⟨rfl,hs⟩
    go_wp2
    exact ⟨rfl,hs,rfl⟩
  | ok y =>
    have hu:=RdR.yes hu rfl
    go_enter Tryz.func182,Tryz.ntmps182
    go_wp2_with fail
    refine hu.mono ?_
    rintro e w1 ⟨v,rfl,rfl,hr,hs⟩
    go_wp2
    go_ret
    exact ⟨hs,_,rfl,rfl,hr⟩
theorem filC_one (x : ByteArray) : ∀ u ∈ fileCells x,u.oneCell' = true:=fun u hu=>by
  simp only [fileCells,List.mem_cons,List.not_mem_nil,or_false] at hu
  rw [hu]
  rfl
set_option maxRecDepth 100000 in
set_option maxHeartbeats 4000000 in
theorem lst_fil {w : World} {R b o n c p : Nat} {all : List Nat} (h : RS w R b o n c all p) :
    Calls Tryz.prog 181 #[.pointer (some ⟨R,0,none⟩),.int .i64 20,.func (.func 182) #[] #[]] w (RdR R b o n c all (RowV fileCells 9 1 w.heap.size) (lstF (filF all) all p 20) w):=by
  have hu : Calls Tryz.prog 227 #[.pointer (some ⟨R,0,none⟩),.int .i64 20] w (RdR R b o n c all NumV (upF all p 20) w):=upTo2_c (most:=20) h (by omega)
  have hNm : ∀ y,upF all p 20 = .ok y → y.1 ≤ 20:=fun y hy=>(upF_le hy).1
  obtain ⟨i0,z0,hi,hz0,hz1,hz2,hz3⟩:=info_any info25
  have hRl:=h.rlow
  have hbl:=h.low
  have hbR:=h.ne
  unfold lstF
  generalize upF all p 20 = m at hu hNm ⊢
  cases m with
  | error x =>
    have hu:=RdR.no hu rfl
    show Calls Tryz.prog 181 _ w (RdR R b o n c all (RowV fileCells 9 1 w.heap.size) (.error x) w)
    go_enter Tryz.func181,Tryz.ntmps181
    go_wp2_with fail
    refine hu.mono ?_
    rintro e w1 ⟨rfl,hs⟩
    go_wp2
    exact ⟨rfl,hs,rfl⟩
  | ok y =>
    have hu:=RdR.yes hu rfl
    obtain ⟨N,q0⟩:=y
    have hN:=hNm _ rfl
    dsimp only at hN hu
    clear hNm
    show Calls Tryz.prog 181 _ w (RdR R b o n c all (RowV fileCells 9 1 w.heap.size) (manyF (filF all) N q0) w)
    obtain ⟨M,hM⟩ : ∃ M,M = manyF (filF all) N q0:=⟨_,rfl⟩
    rw [← hM]
    replace hM:=Lib.hid hM
    go_enter Tryz.func181,Tryz.ntmps181
    go_wp2_with fail
    refine hu.mono ?_
    rintro e w1 ⟨v,rfl,rfl,hr1,hs1⟩
    go_wp2_with fail
    go_loopg [7,13] N (fun gn v i wr=>∃ (k q : Nat) (l : List ByteArray),gn + k = N ∧ k ≤ N ∧ i = .int .i64 k ∧ l.length = k ∧ wr.ownsRow w.heap.size 9 1 v k (flatR fileCells l) ∧ RS wr R b o n c all q ∧ Stp R w wr ∧ M = (manyF (filF all) (N - k) q).bind fun z=>.ok (l ++ z.1,z.2))
    case atStart =>
      refine ⟨0,q0,[],by omega,by omega,rfl,rfl,World.ownsRow_nil _ _ _ _,hr1,hs1,?_⟩
      rw [hM.out,Nat.sub_zero]
      cases manyF (filF all) N q0 <;> rfl
    case round =>
      obtain ⟨k,q,l,hgk,hk,rfl,hl,hown,hr,hs,hm⟩:=hrel
      obtain ⟨va,vc,rfl⟩:=own_shape hown
      replace hm:=Lib.hid hm
      replace hown:=Lib.hid hown
      have hsz:=hs.size
      by_cases hlt : k < N
      · have hlt' : (k : Int) < (N : Int):=by omega
        have hc:=file2_c hr
        obtain ⟨j,hj⟩ : ∃ j,N - k = j + 1:=⟨N - k - 1,by omega⟩
        have hm1 : M = (filF all q).bind fun y=>(manyF (filF all) j y.2).bind fun z=>.ok (l ++ y.1 :: z.1,z.2):=by
          rw [hm.out,hj,manyF]
          cases filF all q with
          | error x=>rfl
          | ok y =>
            show ((manyF (filF all) j y.2).bind _).bind _ = (manyF (filF all) j y.2).bind _
            cases manyF (filF all) j y.2 <;> rfl
        generalize filF all q = mm at hc hm1
        cases mm with
        | error x =>
          have hc:=RdR.no hc rfl
          have hfin:=Lib.hid (show M = .error x from hm1)
          clear hm1
          go_wp2_with fail
          refine hc.mono ?_
          rintro e w2 ⟨rfl,hs2⟩
          (try go_wp2)
          exact ⟨rfl,hs.trans hs2,by rw [hfin.out]⟩
        | ok y =>
          have hc:=RdR.yes hc rfl
          obtain ⟨x,q1⟩:=y
          have hm2 : M = (manyF (filF all) j q1).bind fun z=>.ok (l ++ x :: z.1,z.2):=hm1
          replace hm2:=Lib.hid hm2
          clear hm1
          go_wp2_with fail
          refine hc.mono ?_
          rintro e w2 ⟨v2,rfl,hv2,hr2,hs2⟩
          obtain rfl:=hv2
          skip
          have hown2:=(owns_stp hown.out hs2 hRl).alloc (.cells #[.string x] 9)
          have hr3:=hr2.alloc (.cells #[.string x] 9)
          have hs3:=(hs.trans hs2).alloc (.cells #[.string x] 9)
          have hnew:=Lib.hid (fun j u (hj : (fileCells x)[j]? = some u)=>(by rw [cell_add,Nat.zero_add];exact new_cell w2 _ 9 j u (by simpa [fileCells] using hj) : (w2.alloc (.cells #[.string x] 9)).cell? ((⟨w2.heap.size,0,none⟩ : Addr).add j) = some u))
          replace hown2:=Lib.hid hown2
          replace hr3:=Lib.hid hr3
          replace hs3:=Lib.hid hs3
          go_wp2_with (at_builtin;refine wpList_append_fresh rfl _ _ 25 rfl w.heap.size 9 i0 z0 1 16 Tryz.underlying25 hi hz0 hz1 hz2 hz3 (by decide) _ k _ rfl hown2.out _ 1 1 (fileCells x) rfl rfl hnew.out (filC_one x) (by unfold maxLen;omega) (by omega) (Nat.le_trans (Nat.le_trans hsz hs2.size) (by simp)) ?_)
          intro v' w4 hown4 hgr hfr
          have hrow:=fun kk (e : Value.ownBlock _ = some kk)=>(hown2.out.lt kk e).1
          have hr5:=hr3.out.grown hgr (fun e=>by have:=hrow _ e;omega) (fun e=>by have:=hrow _ e;omega)
          have hs5:=hs3.out.grown hgr hrow
          obtain ⟨va',vc',rfl⟩:=own_shape hown4
          have hown5:=Lib.hid (show w4.ownsRow w.heap.size 9 1 (.slice va' (k + 1) vc') (k + 1) (flatR fileCells (l ++ [x])) by rw [flatR_snoc];exact hown4)
          clear hown4 hgr hfr hrow hown2 hr3 hs3 hnew
          go_wp2
          go_roundg (gk - 1)
          case measure=>omega
          case rel =>
            refine ⟨k + 1,q1,l ++ [x],by omega,by omega,by go_num,by rw [List.length_append,hl];rfl,hown5.out,hr5,hs5,?_⟩
            rw [hm2.out,show N - (k + 1) = j by omega]
            cases manyF (filF all) j q1 with
            | error _=>rfl
            | ok z=>show Except.ok (l ++ x :: z.1,z.2) = Except.ok (l ++ [x] ++ z.1,z.2);rw [List.append_assoc];rfl
      · obtain rfl : k = N:=by omega
        have hfin:=Lib.hid (show M = .ok (l,q) by rw [hm.out,Nat.sub_self];show Except.ok (l ++ [],q) = _;rw [List.append_nil])
        go_wp2
        go_ret
        rw [hfin.out]
        exact ⟨hs,_,rfl,(by unfold RowV;rw [hl];exact hown.out),hr⟩
def SecRel (w : World) (x : SecT) (m : SecM) : Prop:=x.name = m.name ∧ x.rights = (m.rights : Int) ∧ x.align = (m.align : Int) ∧ x.zero = (m.zero : Int) ∧ x.bn = m.bs.length ∧ ∃ g,x.ba = some ⟨g,0,none⟩ ∧ OwnB w g x.bn x.bc (fun j=>((m.bs.getD j 0 : Nat) : Int))
def SecsRel (w : World) (xs : List SecT) (ms : List SecM) : Prop:=xs.length = ms.length ∧ ∀ (i : Nat) (x : SecT) (m : SecM),xs[i]? = some x → ms[i]? = some m → SecRel w x m
theorem SecsRel.nil (w : World) : SecsRel w [] []:=⟨rfl,fun i x m h=>by simp at h⟩
theorem SecsRel.imp {w w' : World} {xs : List SecT} {ms : List SecM} (h : SecsRel w xs ms) (hk : ∀ g n c q,OwnB w g n c q → OwnB w' g n c q) : SecsRel w' xs ms :=
  ⟨h.1,fun i x m hx hm=>by obtain ⟨a1,a2,a3,a4,a5,g,a6,a7⟩:=h.2 i x m hx hm;exact ⟨a1,a2,a3,a4,a5,g,a6,hk _ _ _ _ a7⟩⟩
theorem SecsRel.snoc {w : World} {xs : List SecT} {ms : List SecM} (h : SecsRel w xs ms) {x : SecT} {m : SecM} (hx : SecRel w x m) : SecsRel w (xs ++ [x]) (ms ++ [m]):=by
  refine ⟨by rw [List.length_append,List.length_append,h.1];rfl,fun i y n hy hn=>?_⟩
  by_cases hi : i < xs.length
  · rw [List.getElem?_append_left hi] at hy
    rw [List.getElem?_append_left (by rw [← h.1];exact hi)] at hn
    exact h.2 i y n hy hn
  · have e : i = xs.length:=by
      have:=(List.getElem?_eq_some_iff.1 hy).1
      rw [List.length_append] at this
      simp only [List.length_cons,List.length_nil] at this
      omega
    subst e
    rw [List.getElem?_append_right (Nat.le_refl _),Nat.sub_self] at hy
    rw [h.1,List.getElem?_append_right (Nat.le_refl _),Nat.sub_self] at hn
    cases hy
    cases hn
    exact hx
theorem OwnB.neR {w : World} {g n cap R b o n' c p : Nat} {q : Nat → Int} {all : List Nat} (h : OwnB w g n cap q) (hr : RS w R b o n' c all p) : g ≠ R:=fun e=>by
  obtain ⟨cur,h1,_⟩:=h
  subst e
  rw [hr.blk] at h1
  simp at h1
theorem OwnB.neRow {w : World} {g n cap base size m k : Nat} {q : Nat → Int} {v : Value} {xs : List Value} (h : OwnB w g n cap q) (ho : w.ownsRow base 66 size v m xs) (hk : v.ownBlock = some k) : g ≠ k:=fun e=>by
  obtain ⟨cur,h1,_⟩:=h
  rcases ho.2 with ⟨rfl,_⟩ | ⟨g',cap',cur',rfl,_,hg,_⟩
  · cases hk
  · cases hk
    subst e
    rw [hg] at h1
    simp at h1
theorem OwnB.grown {w w' : World} {g n cap : Nat} {q : Nat → Int} {row : Option Nat} (h : OwnB w g n cap q) (hg : w.grownBy w' row) (hr : row ≠ some g) : OwnB w' g n cap q:=by
  have hl:=h.low
  obtain ⟨cur,h1,r⟩:=h
  exact ⟨cur,(hg.block g hl (fun e=>hr e.symm)).trans h1,r⟩
def SecsV (base : Nat) (ms : List SecM) (w : World) (v : Value) : Prop:=∃ xs : List SecT,w.ownsRow base 66 5 v ms.length (flatR SecT.cells xs) ∧ SecsRel w xs ms
set_option maxRecDepth 100000 in
set_option maxHeartbeats 4000000 in
theorem lst_sec {w : World} {R b o n c p : Nat} {all : List Nat} (h : RS w R b o n c all p) :
    Calls Tryz.prog 175 #[.pointer (some ⟨R,0,none⟩),.int .i64 16,.func (.func 176) #[] #[]] w (RdR R b o n c all (SecsV w.heap.size) (lstF (secF all) all p 16) w):=by
  have hu : Calls Tryz.prog 227 #[.pointer (some ⟨R,0,none⟩),.int .i64 16] w (RdR R b o n c all NumV (upF all p 16) w):=upTo2_c (most:=16) h (by omega)
  have hNm : ∀ y,upF all p 16 = .ok y → y.1 ≤ 16:=fun y hy=>(upF_le hy).1
  obtain ⟨i0,z0,hi,hz0,hz1,hz2,hz3⟩:=info_any info66
  have hRl:=h.rlow
  have hbl:=h.low
  have hbR:=h.ne
  unfold lstF
  generalize upF all p 16 = m at hu hNm ⊢
  cases m with
  | error x =>
    have hu:=RdR.no hu rfl
    show Calls Tryz.prog 175 _ w (RdR R b o n c all (SecsV w.heap.size) (.error x) w)
    go_enter Tryz.func175,Tryz.ntmps175
    go_wp2_with fail
    refine hu.mono ?_
    rintro e w1 ⟨rfl,hs⟩
    go_wp2
    exact ⟨rfl,hs,rfl⟩
  | ok y =>
    have hu:=RdR.yes hu rfl
    obtain ⟨N,q0⟩:=y
    have hN:=hNm _ rfl
    dsimp only at hN hu
    clear hNm
    show Calls Tryz.prog 175 _ w (RdR R b o n c all (SecsV w.heap.size) (manyF (secF all) N q0) w)
    obtain ⟨M,hM⟩ : ∃ M,M = manyF (secF all) N q0:=⟨_,rfl⟩
    rw [← hM]
    replace hM:=Lib.hid hM
    go_enter Tryz.func175,Tryz.ntmps175
    go_wp2_with fail
    refine hu.mono ?_
    rintro e w1 ⟨v,rfl,rfl,hr1,hs1⟩
    go_wp2_with fail
    go_loopg [7,13] N (fun gn v i wr=>∃ (k q : Nat) (l : List SecM),gn + k = N ∧ k ≤ N ∧ i = .int .i64 k ∧ l.length = k ∧ (∃ xs : List SecT,wr.ownsRow w.heap.size 66 5 v k (flatR SecT.cells xs) ∧ SecsRel wr xs l) ∧ RS wr R b o n c all q ∧ Stp R w wr ∧ M = (manyF (secF all) (N - k) q).bind fun z=>.ok (l ++ z.1,z.2))
    case atStart =>
      refine ⟨0,q0,[],by omega,by omega,rfl,rfl,⟨[],World.ownsRow_nil _ _ _ _,SecsRel.nil _⟩,hr1,hs1,?_⟩
      rw [hM.out,Nat.sub_zero]
      cases manyF (secF all) N q0 <;> rfl
    case round =>
      obtain ⟨k,q,l,hgk,hk,rfl,hl,hown,hr,hs,hm⟩:=hrel
      obtain ⟨xs,hown,hrl⟩:=hown
      obtain ⟨va,vc,rfl⟩:=own_shape hown
      replace hrl:=Lib.hid hrl
      replace hm:=Lib.hid hm
      replace hown:=Lib.hid hown
      have hsz:=hs.size
      by_cases hlt : k < N
      · have hlt' : (k : Int) < (N : Int):=by omega
        have hc:=section2_c hr
        obtain ⟨j,hj⟩ : ∃ j,N - k = j + 1:=⟨N - k - 1,by omega⟩
        have hm1 : M = (secF all q).bind fun y=>(manyF (secF all) j y.2).bind fun z=>.ok (l ++ y.1 :: z.1,z.2):=by
          rw [hm.out,hj,manyF]
          cases secF all q with
          | error x=>rfl
          | ok y =>
            show ((manyF (secF all) j y.2).bind _).bind _ = (manyF (secF all) j y.2).bind _
            cases manyF (secF all) j y.2 <;> rfl
        generalize secF all q = mm at hc hm1
        cases mm with
        | error x =>
          have hc:=RdR.no hc rfl
          have hfin:=Lib.hid (show M = .error x from hm1)
          clear hm1
          go_wp2_with fail
          refine hc.mono ?_
          rintro e w2 ⟨rfl,hs2⟩
          (try go_wp2)
          exact ⟨rfl,hs.trans hs2,by rw [hfin.out]⟩
        | ok y =>
          have hc:=RdR.yes hc rfl
          obtain ⟨x,q1⟩:=y
          have hm2 : M = (manyF (secF all) j q1).bind fun z=>.ok (l ++ x :: z.1,z.2):=hm1
          replace hm2:=Lib.hid hm2
          clear hm1
          go_wp2_with fail
          refine hc.mono ?_
          rintro e w2 ⟨v2,rfl,hv2,hr2,hs2⟩
          obtain ⟨g,cap,rfl,hob⟩:=hv2
          have hrl2:=hrl.out.imp (fun g' n' c' q' h'=>h'.stp hs2 (h'.neR hr))
          have hrl3:=(hrl2.snoc (x:=(⟨x.name,(x.rights : Int),(x.align : Int),some ⟨g,0,none⟩,x.bs.length,cap,(x.zero : Int)⟩ : SecT)) (m:=x) ⟨rfl,rfl,rfl,rfl,rfl,g,rfl,hob⟩)
          have hrl4:=hrl3.imp (w':=w2.alloc (.cells #[.string x.name,.int .i64 (x.rights : Int),.int .i64 (x.align : Int),.slice (some ⟨g,0,none⟩) x.bs.length cap,.int .i64 (x.zero : Int)] 66)) (fun g' n' c' q' h'=>h'.below (one_below w2 _))
          replace hrl4:=Lib.hid hrl4
          clear hrl2 hrl3 hob hrl
          have hown2:=(owns_stp hown.out hs2 hRl).alloc (.cells #[.string x.name,.int .i64 (x.rights : Int),.int .i64 (x.align : Int),.slice (some ⟨g,0,none⟩) x.bs.length cap,.int .i64 (x.zero : Int)] 66)
          have hr3:=hr2.alloc (.cells #[.string x.name,.int .i64 (x.rights : Int),.int .i64 (x.align : Int),.slice (some ⟨g,0,none⟩) x.bs.length cap,.int .i64 (x.zero : Int)] 66)
          have hs3:=(hs.trans hs2).alloc (.cells #[.string x.name,.int .i64 (x.rights : Int),.int .i64 (x.align : Int),.slice (some ⟨g,0,none⟩) x.bs.length cap,.int .i64 (x.zero : Int)] 66)
          have hnew:=Lib.hid (fun j u (hj : (SecT.cells (⟨x.name,(x.rights : Int),(x.align : Int),some ⟨g,0,none⟩,x.bs.length,cap,(x.zero : Int)⟩ : SecT))[j]? = some u)=>(by rw [cell_add,Nat.zero_add];exact new_cell w2 _ 66 j u (by simpa [SecT.cells] using hj) : (w2.alloc (.cells #[.string x.name,.int .i64 (x.rights : Int),.int .i64 (x.align : Int),.slice (some ⟨g,0,none⟩) x.bs.length cap,.int .i64 (x.zero : Int)] 66)).cell? ((⟨w2.heap.size,0,none⟩ : Addr).add j) = some u))
          replace hown2:=Lib.hid hown2
          replace hr3:=Lib.hid hr3
          replace hs3:=Lib.hid hs3
          go_wp2_with (at_builtin;refine wpList_append_fresh rfl _ _ 22 rfl w.heap.size 66 i0 z0 5 64 Tryz.underlying22 hi hz0 hz1 hz2 hz3 (by decide) _ k _ rfl hown2.out _ 1 1 (SecT.cells (⟨x.name,(x.rights : Int),(x.align : Int),some ⟨g,0,none⟩,x.bs.length,cap,(x.zero : Int)⟩ : SecT)) rfl rfl hnew.out (secC_one (⟨x.name,(x.rights : Int),(x.align : Int),some ⟨g,0,none⟩,x.bs.length,cap,(x.zero : Int)⟩ : SecT)) (by unfold maxLen;omega) (by omega) (Nat.le_trans (Nat.le_trans hsz hs2.size) (by simp)) ?_)
          intro v' w4 hown4 hgr hfr
          have hrow:=fun kk (e : Value.ownBlock _ = some kk)=>(hown2.out.lt kk e).1
          have hr5:=hr3.out.grown hgr (fun e=>by have:=hrow _ e;omega) (fun e=>by have:=hrow _ e;omega)
          have hs5:=hs3.out.grown hgr hrow
          have hrl5:=Lib.hid (hrl4.out.imp (fun g' n' c' q' h'=>h'.grown hgr (fun e=>h'.neRow hown2.out e rfl)))
          obtain ⟨va',vc',rfl⟩:=own_shape hown4
          have hown5:=Lib.hid (show w4.ownsRow w.heap.size 66 5 (.slice va' (k + 1) vc') (k + 1) (flatR SecT.cells (xs ++ [(⟨x.name,(x.rights : Int),(x.align : Int),some ⟨g,0,none⟩,x.bs.length,cap,(x.zero : Int)⟩ : SecT)])) by rw [flatR_snoc];exact hown4)
          clear hown4 hgr hfr hrow hown2 hr3 hs3 hnew
          go_wp2
          go_roundg (gk - 1)
          case measure=>omega
          case rel =>
            refine ⟨k + 1,q1,l ++ [x],by omega,by omega,by go_num,by rw [List.length_append,hl];rfl,⟨xs ++ [(⟨x.name,(x.rights : Int),(x.align : Int),some ⟨g,0,none⟩,x.bs.length,cap,(x.zero : Int)⟩ : SecT)],hown5.out,hrl5.out⟩,hr5,hs5,?_⟩
            rw [hm2.out,show N - (k + 1) = j by omega]
            cases manyF (secF all) j q1 with
            | error _=>rfl
            | ok z=>show Except.ok (l ++ x :: z.1,z.2) = Except.ok (l ++ [x] ++ z.1,z.2);rw [List.append_assoc];rfl
      · obtain rfl : k = N:=by omega
        have hfin:=Lib.hid (show M = .ok (l,q) by rw [hm.out,Nat.sub_self];show Except.ok (l ++ [],q) = _;rw [List.append_nil])
        go_wp2
        go_ret
        rw [hfin.out]
        exact ⟨hs,_,rfl,⟨xs,by rw [hl];exact hown.out,hrl.out⟩,hr⟩
end Go.Ev

