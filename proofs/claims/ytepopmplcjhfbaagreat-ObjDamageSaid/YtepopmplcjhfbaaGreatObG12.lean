import Derived.Test.YtepopmplcjhfbaaGreatObG11
import Derived.Deep.RegionLaw
import Derived.Defers
import Derived.Recover
import Derived.Laws.Pointers
import Derived.Laws.EntriesVeiled
import Derived.Test.YtepopmplcjhfbaaGreatObG04
set_option linter.unusedSectionVars false
set_option linter.unusedVariables false
set_option linter.unusedSimpArgs false
set_option linter.unnecessarySimpa false
namespace Go.Ev
open Go.RowKit Go.Proofs Go.Rw
theorem step_append_fresh {P : Program} {ops : Array Oper} {o : Oper} {a : Act} {w : World} {K : Act → World → Prop} {Q : Exit → Act → World → Prop} {E : Prop}
    (hg : o.guard = none) (s x : Operand) (t : TypeId) (ho : o.op = Op.call { callee:=Callee.builtin Builtin.append,args:=#[s,x],argTypes:=#[t,t] })
    (base : Nat) (e : TypeId) (i : TypeInfo) (z : Value) (size bytes : Nat) (ht : P.underlying t = some (.slice e)) (hi : P.info? e = some i) (hz : i.zero = some z) (hsize : i.size = size) (hby : i.bytes = bytes) (hzs : z.cells.size = size) (hsz : 0 < size)
    (v : Value) (n : Nat) (xs : List Value) (hs : a.eval s = v) (hown : w.ownsRow base e size v n xs)
    (ad : Addr) (m c : Nat) (news : List Value) (hx : a.eval x = .slice (some ad) m c) (hl : news.length = m * size) (hnews : ∀ j u,news[j]? = some u → w.cell? (ad.add j) = some u) (h1 : ∀ u ∈ news,u.oneCell' = true)
    (h63 : n + m ≤ maxLen) (hbytes : (n + m) * bytes ≤ 140737488355328) (hbase : base ≤ w.heap.size)
    (h : ∀ v' w',w'.ownsRow base e size v' (n + m) (xs ++ news) → w.grownBy w' v.ownBlock → (v'.ownBlock = v.ownBlock ∨ ∃ k,v'.ownBlock = some k ∧ w.heap.size ≤ k) → K (a.put o.dst v') w') :
    if Region.wanted o (yielded ops a.tmps) = true then Oper.wp P o a w K Q else E:=by
  have hw : Region.wanted o (yielded ops a.tmps) = true:=by simp [Region.wanted,hg]
  rw [if_pos hw]
  obtain ⟨v',w',hr,h2,h3,h4⟩:=run_append_fresh (P:=P) w base t o.type e i z size bytes ht hi hz hsize hby hzs hsz v n xs hown ad m c news hl hnews h1 h63 hbytes hbase
  unfold Oper.wp execOp
  simp only [ho,resolve,invoke,builtin,Sem.run_bind,Sem.run_pure,Result.andThen_ok,List.map_toArray,List.map_cons,List.map_nil,hs,hx,hr]
  exact h v' w' h2 h3 h4
theorem infoL : (Tryz.prog.info? 48).map (fun i=>(i.zero,i.size,i.bytes)) = some (some (Value.agg #[.int .i64 0,.int .i64 0,.int .i64 0,.int .i64 0]),4,32):=by kernel_rfl
theorem MSt.grown {W W2 w' : World} {base M b o n c : Nat} {all : List Nat} {p : Nat} {v : LineT} {tv : Value} {tab : List LineT} (h : MSt W base M b o n c all p v tv tab) (hb : Below W.heap.size W W2)
    (hg : W2.grownBy w' tv.ownBlock) : w'.cell? ⟨M,6,none⟩ = some tv ∧ w'.frozen? ⟨M,6,none⟩ = false:=by
  have hm:=h.mac.below hb
  have hm' : MacB w' M (some ⟨b,o,none⟩) n c (p : Int) v tv:=(hg.block M hm.low (fun e=>h.env.ne e.symm)).trans hm
  exact ⟨hm'.cells.2.2.2.2.2.2,hm'.frozen 6⟩
theorem MSt.mac_grown {W W2 w' : World} {base M b o n c : Nat} {all : List Nat} {p : Nat} {v : LineT} {tv : Value} {tab : List LineT} (h : MSt W base M b o n c all p v tv tab) (hb : Below W.heap.size W W2)
    (hg : W2.grownBy w' tv.ownBlock) : MacB w' M (some ⟨b,o,none⟩) n c (p : Int) v tv:=(hg.block M (h.mac.below hb).low (fun e=>h.env.ne e.symm)).trans (h.mac.below hb)
theorem MSt.append {W W2 w' : World} {base M b o n c : Nat} {all : List Nat} {p : Nat} {v : LineT} {tv v' : Value} {tab : List LineT} (h : MSt W base M b o n c all p v tv tab) (hb : Below W.heap.size W W2)
    (hown : w'.ownsRow base 48 4 v' (tab.length + 1) (flat tab ++ v.cells)) (hg : W2.grownBy w' tv.ownBlock) (hf : v'.ownBlock = tv.ownBlock ∨ ∃ k,v'.ownBlock = some k ∧ W2.heap.size ≤ k) (hv : RngOk v) (hl : tab.length < 4000) :
    MSt (w'.setCell ⟨M,6,none⟩ v') base M b o n c all p v v' (tab ++ [v]) ∧ Below base W (w'.setCell ⟨M,6,none⟩ v'):=by
  have hm:=h.mac.below hb
  have he:=h.env.below hb
  have hm' : MacB w' M (some ⟨b,o,none⟩) n c (p : Int) v tv:=(hg.block M hm.low (fun e=>h.env.ne e.symm)).trans hm
  have hne : v'.ownBlock ≠ some M:=by
    rcases hf with e | ⟨k,e,hk⟩
    · rw [e];exact h.env.ne
    · rw [e];intro e';cases e';have:=hm.low;omega
  have hown' : w'.ownsRow base 48 4 v' (tab ++ [v]).length (flat (tab ++ [v])):=by
    rw [flat_snoc,List.length_append,List.length_singleton]
    exact hown
  have hlow : ∀ k,k < base → w'.heap[k]? = W2.heap[k]?:=fun k hk=>hg.block k (Nat.lt_of_lt_of_le hk he.hs) (fun e=>by have:=(he.own.lt k e.symm).1;omega)
  have hE : MEnv w' base M b o n c all v' (tab ++ [v]):=by
    refine ⟨hown',hne,⟨h.env.bytes.1,h.env.bytes.2.1,fun j hj=>?_⟩,h.env.hb,h.env.hM,Nat.le_trans he.hs hg.size,h.env.hnc,h.env.hn,fun x hx=>?_,by simp;omega⟩
    · rw [World.cell?_of_block (w:=W2) (hlow b h.env.hb)]
      exact he.bytes.2.2 j hj
    · rcases List.mem_append.1 hx with hx | hx
      · exact h.env.rng x hx
      · rw [List.mem_singleton.1 hx];exact hv
  refine ⟨⟨hm'.setTab v',hE.set 6 v'⟩,below_setM ⟨hg.os.trans hb.os,hg.tape.trans hb.tape,hg.output.trans hb.output,Nat.le_trans hb.size hg.size,fun k hk=>(hlow k hk).trans (hb.block k (Nat.lt_of_lt_of_le hk h.env.hs))⟩ h.env.hM 6 v'⟩
theorem own_form {w : World} {base e size n : Nat} {v : Value} {xs : List Value} (h : w.ownsRow base e size v (n + 1) xs) : ∃ a c,v = .slice a (n + 1) c:=by
  rcases h.2 with ⟨_,h0⟩ | ⟨g,cap,cur,rfl,_⟩
  · omega
  · exact ⟨_,_,rfl⟩
set_option maxRecDepth 100000 in
set_option maxHeartbeats 400000 in
theorem step_5 {w : World} {base M b o n c : Nat} {all : List Nat} {p : Nat} {v : LineT} {tv : Value} {tab : List LineT} (h : MSt w base M b o n c all p v tv tab) (hv : RngOk v) (hp : p < n) (hop : all[p]? = some 5) : Calls Tryz.prog 105 #[.pointer (some ⟨M,0,none⟩)] w (StR base M b o n c all p v tab w):=by
  have hdrop:=drop_op hop
  have htk:=take1_c h.mac hp h.env.hnc h.env.hn
  have hbyte0:=h.env.bytes.2.2 p hp
  rw [show all.getD p 0 = 5 by simp [List.getD,hop]] at hbyte0
  have hbr:=h.ne
  have hs0:=h.env.hs
  have hvr:=hv
  unfold RngOk at hvr
  obtain ⟨i0,i1,i2,i3,i4,i5,i6⟩:=h.mac.cells
  go_enter Tryz.func105,Tryz.ntmps105
  go_wp2_with fail
  refine htk.mono ?_
  rintro e w1 ⟨rfl,k,hw1⟩
  have h1 : MSt w1 base M b o n c all (p + 1) v tv tab:=by rw [hw1];exact (h.setAt (p + 1)).drewN k
  have hb1 : Below base w w1:=by rw [hw1];exact below_drewN (below_setM (Below.refl _ _) h.env.hM _ _) _
  have hbyte : w1.cell? ⟨b,o + p,none⟩ = some (.int .u8 ((5 : Nat) : Int)):=by
    rw [hw1]
    show (w.setCell ⟨M,1,none⟩ _).cell? _ = _
    rw [World.cell?_of_block (w:=w) (heap_setCell_other w ⟨M,1,none⟩ b _ hbr)]
    exact hbyte0
  clear hw1 htk hbyte0 i0 i1 i2 i3 i4 i5 i6
  have hstE:=Lib.hid (show stepF v tab (all.drop p) = emitF v tab (all.drop (p + 1)) by
    rw [hdrop,stepF]
    rw [if_neg (by decide),if_neg (by decide),if_neg (by decide),if_neg (by decide),if_neg (by decide),if_pos rfl])
  clear hdrop hop
  obtain ⟨vs,vo,vf,vl⟩:=v
  have hm:=h1
  have hbm:=hb1
  clear h1 hb1
  have hca:=canApp_c hm.mac (rows_of_own hm.env.own) hm.env.rng hm.env.len
  obtain ⟨ca,hcaE0⟩ : ∃ ca,ca = canAppB tab ⟨vs,vo,vf,vl⟩:=⟨_,rfl⟩
  rw [← hcaE0] at hca
  have hcaE:=Lib.hid hcaE0
  clear hcaE0
  obtain ⟨i0,i1,i2,i3,i4,i5,i6⟩:=hm.mac.cells
  dsimp only at i2 i3 i4 i5
  go_wp2_with fail
  refine hca.mono ?_
  rintro e w3 ⟨rfl,hb3⟩
  have hm3:=hm.below hb3
  have hbm3:=bel_then hbm hs0 hb3
  clear i0 i1 i2 i3 i4 i5 i6
  cases ca
  · have hfin:=Lib.hid (show stepF ⟨vs,vo,vf,vl⟩ tab (all.drop p) = none by rw [hstE.out];unfold emitF;rw [if_neg (by rw [← hcaE.out];decide)])
    go_wp2_with (go_at_call 172;refine (must_no _ _).mono ?_;rintro e w4 ⟨rfl,rfl⟩)
    exact ⟨rfl,hbm3,.inl ⟨hfin.out,_,_,rfl⟩⟩
  · have hcaT : canAppB tab ⟨vs,vo,vf,vl⟩ = true:=hcaE.out.symm
    have hcaU:=hcaT
    unfold canAppB at hcaU
    simp only [Bool.and_eq_true,decide_eq_true_eq] at hcaU
    have hrng : RngOk ⟨vs,vo,vf,vl⟩:=hcaU.2.1.1
    have hlen : tab.length < 4000:=hcaU.1
    have hfin:=Lib.hid (show stepF ⟨vs,vo,vf,vl⟩ tab (all.drop p) = some (⟨vs,vo,vf,vl⟩,tab ++ [⟨vs,vo,vf,vl⟩],all.drop (p + 1)) by rw [hstE.out];unfold emitF;rw [if_pos hcaT];exact chkF_ok hrng)
    have hir:=fun W=>inRange_c (w:=W) vs vo vf vl
    rw [decide_eq_true hrng] at hir
    have hrngH:=Lib.hid hrng
    clear hcaU hcaT hca hrng
    obtain ⟨i0,i1,i2,i3,i4,i5,i6⟩:=hm3.mac.cells
    dsimp only at i2 i3 i4 i5
    have hnew:=Lib.hid (show ∀ j u,([.int .i64 vs,.int .i64 vo,.int .i64 vf,.int .i64 vl] : List Value)[j]? = some u → (w3.drew.alloc (.cells #[.int .i64 vs,.int .i64 vo,.int .i64 vf,.int .i64 vl] 48)).cell? ((⟨w3.heap.size,0,none⟩ : Addr).add j) = some u from fun j u hj=>by
      rw [cell_add,Nat.zero_add]
      exact new_cell w3.drew #[.int .i64 vs,.int .i64 vo,.int .i64 vf,.int .i64 vl] 48 j u (by simpa using hj))
    have hone : ∀ u ∈ ([.int .i64 vs,.int .i64 vo,.int .i64 vf,.int .i64 vl] : List Value),u.oneCell' = true:=fun u hu=>by
      simp only [List.mem_cons,List.not_mem_nil,or_false] at hu
      rcases hu with rfl | rfl | rfl | rfl <;> rfl
    have honeH:=Lib.hid hone
    clear hone
    have hbA : Below w3.heap.size w3 (w3.drew.alloc (.cells #[.int .i64 vs,.int .i64 vo,.int .i64 vf,.int .i64 vl] 48)):=((Below.refl w3.heap.size w3).drew).alloc (Nat.le_refl _) _
    have hownA:=Lib.hid (hm3.below hbA).env.own
    have hm3H:=Lib.hid hm3
    have hbAH:=Lib.hid hbA
    clear hm3 hbA
    obtain ⟨iL,hiL,hzL0,hzL1,hzL2⟩:=info_parts infoL
    go_wp2_with (go_at_call 172;refine (must_yes _ _).mono ?_;rintro e w4 ⟨rfl,rfl⟩)
    have j6:=(World.cell?_alloc_lt w4 (.cells #[.int .i64 vs,.int .i64 vo,.int .i64 vf,.int .i64 vl] 48) _ (low_of_cell i6)).trans i6
    have hs4 : base ≤ (w4.drew.alloc (.cells #[.int .i64 vs,.int .i64 vo,.int .i64 vf,.int .i64 vl] 48)).heap.size:=by rw [World.size_alloc];exact Nat.le_succ_of_le hm3H.out.env.hs
    have hmx : tab.length + 1 ≤ maxLen:=by unfold maxLen;omega
    have hmy : (tab.length + 1) * 32 ≤ 140737488355328:=by omega
    go_region_law (refine step_append_fresh rfl (.tmp 122) (.tmp 126) 26 rfl base 48 iL _ 4 32 Tryz.underlying26 hiL hzL0 hzL1 hzL2 rfl (by decide) tv tab.length (flat tab) (by simp [Act.eval,Act.put]) hownA.out ⟨w4.heap.size,0,none⟩ 1 1 [.int .i64 vs,.int .i64 vo,.int .i64 vf,.int .i64 vl] (by simp [Act.eval,Act.put]) rfl hnew.out honeH.out hmx hmy hs4 ?_;intro v' w' hown' hgr hfr;obtain ⟨a',c',rfl⟩:=own_form hown';obtain ⟨hc6,hf6⟩:=hm3H.out.grown hbAH.out hgr)
    all_goals (
      obtain ⟨hm5,hb5⟩:=hm3H.out.append hbAH.out hown' hgr hfr hrngH.out hlen
      have hbm5:=hbm3.trans hb5
      obtain ⟨-, -,g2,g3,g4,g5,-⟩:=(hm3H.out.mac_grown hbAH.out hgr).cells
      dsimp only at g2 g3 g4 g5
      clear i0 i1 i2 i3 i4 i5 i6 j6 hc6 hf6 hown' hgr hfr hownA
      have hm5:=Lib.hid hm5
      go_wp2_with fail
      refine (hir _).mono ?_
      rintro e w5 ⟨rfl,hb6⟩
      have h6:=hm5.out.below hb6
      have hb7:=bel_then hbm5 hs0 hb6
      go_wp2_with (go_at_call 172;refine (must_yes _ _).mono ?_;rintro e w7 ⟨rfl,rfl⟩)
      exact ⟨rfl,_,results_none rfl _ _ _,hb7,.inr ⟨_,_,p + 1,_,hfin.out,by omega,by omega,rfl,h6,hrngH.out⟩⟩)
end Go.Ev

namespace Go.Ev
open Go.RowKit Go.Proofs Go.Rw
set_option maxRecDepth 100000 in
set_option maxHeartbeats 400000 in
theorem step_s {w : World} {base M b o n c : Nat} {all : List Nat} {p : Nat} {v : LineT} {tv : Value} {tab : List LineT} (h : MSt w base M b o n c all p v tv tab) (hv : RngOk v) (hp : p < n) {op : Nat} (hop : all[p]? = some op) (o6 : 64 ≤ op) (o7 : op < 256) : Calls Tryz.prog 105 #[.pointer (some ⟨M,0,none⟩)] w (StR base M b o n c all p v tab w):=by
  have hdrop:=drop_op hop
  have htk:=take1_c h.mac hp h.env.hnc h.env.hn
  have hbyte0:=h.env.bytes.2.2 p hp
  rw [show all.getD p 0 = op by simp [List.getD,hop]] at hbyte0
  have hbr:=h.ne
  have hs0:=h.env.hs
  have hvr:=hv
  unfold RngOk at hvr
  obtain ⟨i0,i1,i2,i3,i4,i5,i6⟩:=h.mac.cells
  go_enter Tryz.func105,Tryz.ntmps105
  go_wp2_with fail
  refine htk.mono ?_
  rintro e w1 ⟨rfl,k,hw1⟩
  have h1 : MSt w1 base M b o n c all (p + 1) v tv tab:=by rw [hw1];exact (h.setAt (p + 1)).drewN k
  have hb1 : Below base w w1:=by rw [hw1];exact below_drewN (below_setM (Below.refl _ _) h.env.hM _ _) _
  have hbyte : w1.cell? ⟨b,o + p,none⟩ = some (.int .u8 (op : Int)):=by
    rw [hw1]
    show (w.setCell ⟨M,1,none⟩ _).cell? _ = _
    rw [World.cell?_of_block (w:=w) (heap_setCell_other w ⟨M,1,none⟩ b _ hbr)]
    exact hbyte0
  clear hw1 htk hbyte0 i0 i1 i2 i3 i4 i5 i6
  have hstE0 : stepF v tab (all.drop p) = emitF ⟨v.sec,v.off + ((op - 64) / 16 * 4 : Nat),v.file,v.line + (((op - 64) % 16 : Nat) - 4)⟩ tab (all.drop (p + 1)):=by
    rw [hdrop,stepF,if_neg (by omega),if_neg (by omega),if_neg (by omega),if_neg (by omega),if_pos o6]
  have b1 : ((op : Int) == 1) = false:=beq_eq_false_iff_ne.2 (by omega)
  have b2 : ((op : Int) == 2) = false:=beq_eq_false_iff_ne.2 (by omega)
  have b3 : ((op : Int) == 3) = false:=beq_eq_false_iff_ne.2 (by omega)
  have b4 : ((op : Int) == 4) = false:=beq_eq_false_iff_ne.2 (by omega)
  have b6 : (64 : Int) ≤ (op : Int):=by omega
  obtain ⟨vs,uo,vf,ul⟩:=v
  dsimp only at hstE0 hvr
  obtain ⟨kk,hkk⟩ : ∃ kk : Nat,kk = op - 64:=⟨_,rfl⟩
  rw [← hkk] at hstE0
  have e1 : (op : Int) - 64 = (kk : Int):=by omega
  have e2 : ((op : Int) - 64) % 256 = (kk : Int):=by omega
  have e2b : (kk : Int) % 256 = (kk : Int):=by omega
  obtain ⟨r,hr⟩ : ∃ r : Int,r = ((kk / 16 : Nat) : Int):=⟨_,rfl⟩
  have e3 : (kk : Int).tdiv 16 = r:=by rw [Int.tdiv_eq_ediv_of_nonneg (by omega)];omega
  have e4 : wrap64 r = r:=wrap_in (by omega) (by omega)
  obtain ⟨s,hs⟩ : ∃ s : Int,s = ((kk / 16 * 4 : Nat) : Int):=⟨_,rfl⟩
  have e5 : r * 4 = s:=by omega
  have e6 : wrap64 (r * 4) = s:=by rw [e5];exact wrap_in (by omega) (by omega)
  obtain ⟨vo,hvo⟩ : ∃ vo : Int,vo = uo + s:=⟨_,rfl⟩
  have e7 : uo + s = vo:=hvo.symm
  have e8 : wrap64 (uo + s) = vo:=by rw [e7];exact wrap_in (by omega) (by omega)
  obtain ⟨m,hm0⟩ : ∃ m : Int,m = ((kk % 16 : Nat) : Int):=⟨_,rfl⟩
  have e9 : (kk : Int).tmod 16 = m:=by rw [Int.tmod_eq_emod_of_nonneg (by omega)];omega
  have e9b : wrap64 m = m:=wrap_in (by omega) (by omega)
  obtain ⟨d,hd⟩ : ∃ d : Int,d = m - 4:=⟨_,rfl⟩
  have e10 : m + -4 = d:=by omega
  have e11 : wrap64 (m + -4) = d:=by rw [e10];exact wrap_in (by omega) (by omega)
  have e10b : m - 4 = d:=hd.symm
  obtain ⟨vl,hvl⟩ : ∃ vl : Int,vl = ul + d:=⟨_,rfl⟩
  have e12 : ul + d = vl:=hvl.symm
  have e13 : wrap64 (ul + d) = vl:=by rw [e12];exact wrap_in (by omega) (by omega)
  have e6b : wrap64 s = s:=wrap_in (by omega) (by omega)
  have e8b : wrap64 vo = vo:=wrap_in (by omega) (by omega)
  have e11b : wrap64 d = d:=wrap_in (by omega) (by omega)
  have e13b : wrap64 vl = vl:=wrap_in (by omega) (by omega)
  have hstE:=Lib.hid (show stepF ⟨vs,uo,vf,ul⟩ tab (all.drop p) = emitF ⟨vs,vo,vf,vl⟩ tab (all.drop (p + 1)) by
    rw [hstE0,← hs,← hm0,e7,e10b,e12])
  clear hstE0 hdrop hop hkk hr hs hvo hm0 hd hvl
  have hm:=(h1.setOff vo).setLine vl
  dsimp only at hm
  have hbm:=below_setM (below_setM hb1 h.env.hM 3 (.int .i64 vo)) h.env.hM 5 (.int .i64 vl)
  obtain ⟨y0,y1,y2,y3,y4,y5,y6⟩:=h1.mac.cells
  dsimp only at y2 y3 y4 y5
  have x3:=h1.mac.frozen 3
  have x5:=h1.mac.frozen 5
  clear hb1
  have hca:=canApp_c hm.mac (rows_of_own hm.env.own) hm.env.rng hm.env.len
  obtain ⟨ca,hcaE0⟩ : ∃ ca,ca = canAppB tab ⟨vs,vo,vf,vl⟩:=⟨_,rfl⟩
  rw [← hcaE0] at hca
  have hcaE:=Lib.hid hcaE0
  clear hcaE0
  obtain ⟨i0,i1,i2,i3,i4,i5,i6⟩:=hm.mac.cells
  dsimp only at i2 i3 i4 i5
  go_wp2_with fail
  refine hca.mono ?_
  rintro e w3 ⟨rfl,hb3⟩
  have hm3:=hm.below hb3
  have hbm3:=bel_then hbm hs0 hb3
  clear i0 i1 i2 i3 i4 i5 i6
  cases ca
  · have hfin:=Lib.hid (show stepF ⟨vs,uo,vf,ul⟩ tab (all.drop p) = none by rw [hstE.out];unfold emitF;rw [if_neg (by rw [← hcaE.out];decide)])
    go_wp2_with (go_at_call 172;refine (must_no _ _).mono ?_;rintro e w4 ⟨rfl,rfl⟩)
    exact ⟨rfl,hbm3,.inl ⟨hfin.out,_,_,rfl⟩⟩
  · have hcaT : canAppB tab ⟨vs,vo,vf,vl⟩ = true:=hcaE.out.symm
    have hcaU:=hcaT
    unfold canAppB at hcaU
    simp only [Bool.and_eq_true,decide_eq_true_eq] at hcaU
    have hrng : RngOk ⟨vs,vo,vf,vl⟩:=hcaU.2.1.1
    have hlen : tab.length < 4000:=hcaU.1
    have hfin:=Lib.hid (show stepF ⟨vs,uo,vf,ul⟩ tab (all.drop p) = some (⟨vs,vo,vf,vl⟩,tab ++ [⟨vs,vo,vf,vl⟩],all.drop (p + 1)) by rw [hstE.out];unfold emitF;rw [if_pos hcaT];exact chkF_ok hrng)
    have hir:=fun W=>inRange_c (w:=W) vs vo vf vl
    rw [decide_eq_true hrng] at hir
    have hrngH:=Lib.hid hrng
    clear hcaU hcaT hca hrng
    obtain ⟨i0,i1,i2,i3,i4,i5,i6⟩:=hm3.mac.cells
    dsimp only at i2 i3 i4 i5
    have hnew:=Lib.hid (show ∀ j u,([.int .i64 vs,.int .i64 vo,.int .i64 vf,.int .i64 vl] : List Value)[j]? = some u → (w3.drew.alloc (.cells #[.int .i64 vs,.int .i64 vo,.int .i64 vf,.int .i64 vl] 48)).cell? ((⟨w3.heap.size,0,none⟩ : Addr).add j) = some u from fun j u hj=>by
      rw [cell_add,Nat.zero_add]
      exact new_cell w3.drew #[.int .i64 vs,.int .i64 vo,.int .i64 vf,.int .i64 vl] 48 j u (by simpa using hj))
    have hone : ∀ u ∈ ([.int .i64 vs,.int .i64 vo,.int .i64 vf,.int .i64 vl] : List Value),u.oneCell' = true:=fun u hu=>by
      simp only [List.mem_cons,List.not_mem_nil,or_false] at hu
      rcases hu with rfl | rfl | rfl | rfl <;> rfl
    have honeH:=Lib.hid hone
    clear hone
    have hbA : Below w3.heap.size w3 (w3.drew.alloc (.cells #[.int .i64 vs,.int .i64 vo,.int .i64 vf,.int .i64 vl] 48)):=((Below.refl w3.heap.size w3).drew).alloc (Nat.le_refl _) _
    have hownA:=Lib.hid (hm3.below hbA).env.own
    have hm3H:=Lib.hid hm3
    have hbAH:=Lib.hid hbA
    clear hm3 hbA
    obtain ⟨iL,hiL,hzL0,hzL1,hzL2⟩:=info_parts infoL
    go_wp2_with (go_at_call 172;refine (must_yes _ _).mono ?_;rintro e w4 ⟨rfl,rfl⟩)
    have j6:=(World.cell?_alloc_lt w4 (.cells #[.int .i64 vs,.int .i64 vo,.int .i64 vf,.int .i64 vl] 48) _ (low_of_cell i6)).trans i6
    have hs4 : base ≤ (w4.drew.alloc (.cells #[.int .i64 vs,.int .i64 vo,.int .i64 vf,.int .i64 vl] 48)).heap.size:=by rw [World.size_alloc];exact Nat.le_succ_of_le hm3H.out.env.hs
    have hmx : tab.length + 1 ≤ maxLen:=by unfold maxLen;omega
    have hmy : (tab.length + 1) * 32 ≤ 140737488355328:=by omega
    go_region_law (refine step_append_fresh rfl (.tmp 122) (.tmp 126) 26 rfl base 48 iL _ 4 32 Tryz.underlying26 hiL hzL0 hzL1 hzL2 rfl (by decide) tv tab.length (flat tab) (by simp [Act.eval,Act.put]) hownA.out ⟨w4.heap.size,0,none⟩ 1 1 [.int .i64 vs,.int .i64 vo,.int .i64 vf,.int .i64 vl] (by simp [Act.eval,Act.put]) rfl hnew.out honeH.out hmx hmy hs4 ?_;intro v' w' hown' hgr hfr;obtain ⟨a',c',rfl⟩:=own_form hown';obtain ⟨hc6,hf6⟩:=hm3H.out.grown hbAH.out hgr)
    all_goals (
      obtain ⟨hm5,hb5⟩:=hm3H.out.append hbAH.out hown' hgr hfr hrngH.out hlen
      have hbm5:=hbm3.trans hb5
      obtain ⟨-, -,g2,g3,g4,g5,-⟩:=(hm3H.out.mac_grown hbAH.out hgr).cells
      dsimp only at g2 g3 g4 g5
      clear i0 i1 i2 i3 i4 i5 i6 j6 hc6 hf6 hown' hgr hfr hownA
      have hm5:=Lib.hid hm5
      go_wp2_with fail
      refine (hir _).mono ?_
      rintro e w5 ⟨rfl,hb6⟩
      have h6:=hm5.out.below hb6
      have hb7:=bel_then hbm5 hs0 hb6
      go_wp2_with (go_at_call 172;refine (must_yes _ _).mono ?_;rintro e w7 ⟨rfl,rfl⟩)
      exact ⟨rfl,_,results_none rfl _ _ _,hb7,.inr ⟨_,_,p + 1,_,hfin.out,by omega,by omega,rfl,h6,hrngH.out⟩⟩)
theorem step_c {w : World} {base M b o n c : Nat} {all : List Nat} {p : Nat} {v : LineT} {tv : Value} {tab : List LineT} (h : MSt w base M b o n c all p v tv tab) (hv : RngOk v) (hp : p < n) : Calls Tryz.prog 105 #[.pointer (some ⟨M,0,none⟩)] w (StR base M b o n c all p v tab w):=by
  obtain ⟨op,hop⟩ : ∃ op,all[p]? = some op:=⟨all[p]'(by rw [h.env.bytes.1];exact hp),List.getElem?_eq_getElem _⟩
  have h256:=h.env.bytes.2.1 op (List.mem_of_getElem? hop)
  by_cases o1 : op = 1
  · subst o1;exact step_1 h hv hp hop
  · by_cases o2 : op = 2
    · subst o2;exact step_2 h hv hp hop
    · by_cases o3 : op = 3
      · subst o3;exact step_3 h hv hp hop
      · by_cases o4 : op = 4
        · subst o4;exact step_4 h hv hp hop
        · by_cases o5 : op = 5
          · subst o5;exact step_5 h hv hp hop
          · by_cases o6 : 64 ≤ op
            · exact step_s h hv hp hop o6 h256
            · exact step_x h hv hp hop o1 o2 o3 o4 o5 (by omega)
end Go.Ev

namespace Go.Ev
open Go.RowKit Go.Proofs Go.Rw
theorem ta_flt (x y : Int) (w : World) : (Instr.typeAssert (.iface 119 (.agg #[.int .i64 x,.int .i64 y])) 20 119 true).run Tryz.prog w = .ok (.tuple #[.agg #[.int .i64 x,.int .i64 y],.bool true]) w:=by kernel_rfl
theorem ta_nil (w : World) : (Instr.typeAssert .nilIface 20 119 true).run Tryz.prog w = .ok (.tuple #[.agg #[.int .i64 0,.int .i64 0],.bool false]) w:=by kernel_rfl
set_option maxRecDepth 100000 in
set_option maxHeartbeats 400000 in
theorem catch_flt {w : World} {A B : Nat} (x y : Int) (older : List PanicEntry) (va vb : Value) (ha : w.cell? ⟨A,0,none⟩ = some va) (hb : w.cell? ⟨B,0,none⟩ = some vb) (fa : w.frozen? ⟨A,0,none⟩ = false) (fb : w.frozen? ⟨B,0,none⟩ = false) (hAB : B ≠ A) :
    CallsD Tryz.prog 103 #[.pointer (some ⟨A,0,none⟩),.pointer (some ⟨B,0,none⟩)] (.panicking ({ v:=.iface 119 (.agg #[.int .i64 x,.int .i64 y]),recovered:=false } :: older)) w fun e u' w' =>
      e = .returned (.tuple #[]) ∧ u' = .panicking ({ v:=.iface 119 (.agg #[.int .i64 x,.int .i64 y]),recovered:=true } :: older) ∧ w' = ((w.alloc (.cells #[.int .i64 x,.int .i64 y] 119)).setCell ⟨A,0,none⟩ (.slice none 0 0)).setCell ⟨B,0,none⟩ (.int .i64 33):=by
  have qa:=(World.cell?_alloc_lt w (.cells #[.int .i64 x,.int .i64 y] 119) _ (low_of_cell ha)).trans ha
  have qb:=(World.cell?_alloc_lt w (.cells #[.int .i64 x,.int .i64 y] 119) _ (low_of_cell hb)).trans hb
  have ga:=(World.frozen?_of_block (w:=w) (w':=w.alloc (.cells #[.int .i64 x,.int .i64 y] 119)) (a:=⟨A,0,none⟩) (heap_alloc_old w _ (low_of_cell ha))).trans fa
  have gb:=(World.frozen?_of_block (w:=w) (w':=w.alloc (.cells #[.int .i64 x,.int .i64 y] 119)) (a:=⟨B,0,none⟩) (heap_alloc_old w _ (low_of_cell hb))).trans fb
  have qb2:=(World.cell?_of_block (w:=w.alloc (.cells #[.int .i64 x,.int .i64 y] 119)) (a:=⟨B,0,none⟩) (heap_setCell_other _ ⟨A,0,none⟩ B (.slice none 0 0) hAB)).trans qb
  have gb2:=(World.frozen?_of_block (w:=w.alloc (.cells #[.int .i64 x,.int .i64 y] 119)) (a:=⟨B,0,none⟩) (heap_setCell_other _ ⟨A,0,none⟩ B (.slice none 0 0) hAB)).trans gb
  refine callsD_of_wpS Tryz.func103 rfl fun c₀ cs hu=>?_
  apply wpS_seq
  apply wpS_region
  simp [wpOpsS,go_sem,recoverD,hu,Tryz.ntmps103,Exit.thenS,ta_flt]
  apply wpS_seq
  apply wpS_region
  simp [wpOpsS,go_sem,Exit.thenS]
  refine wpS_cond (t:=true) (by simp [Act.eval,Array.replicate]) ?_
  simp only [if_true]
  apply wpS_region
  simp [wpOpsS,go_sem,qa,ga,qb,gb,qb2,gb2,bodyPostS,results,Tryz.results103]
  all_goals trace_state
theorem catch_idle {w : World} {A B : Nat} :
    CallsD Tryz.prog 103 #[.pointer (some ⟨A,0,none⟩),.pointer (some ⟨B,0,none⟩)] .returning w fun e u' w'=>e = .returned (.tuple #[]) ∧ u' = .returning ∧ w' = w.alloc (.cells #[.int .i64 0,.int .i64 0] 119):=by
  refine callsD_of_wpS Tryz.func103 rfl fun c₀ cs hu=>?_
  apply wpS_seq
  apply wpS_region
  simp [wpOpsS,go_sem,recoverD,hu,Tryz.ntmps103,Exit.thenS,ta_nil]
  apply wpS_seq
  apply wpS_region
  simp [wpOpsS,go_sem,Exit.thenS]
  refine wpS_cond (t:=false) (by simp [Act.eval,Array.replicate]) ?_
  simp only [Bool.false_eq_true,if_false]
  refine wpS_of_wp (wp_skip ?_)
  cases c₀
  simp_all [bodyPostS,results,Tryz.results103]
end Go.Ev

namespace Go.Ev
open Go.RowKit Go.Proofs Go.Rw
theorem stepF_len {v v' : LineT} {tab tab' : List LineT} {b : Nat} {bs r' : List Nat} (h : stepF v tab (b :: bs) = some (v',tab',r')) : r'.length ≤ bs.length:=by
  have hn : ∀ {f : Nat × List Nat → Option (LineT × List LineT × List Nat)},(∀ q u,f q = some u → u.2.2 = q.2) → (numF bs).bind f = some (v',tab',r') → r'.length ≤ bs.length:=fun hf e=>by
    cases hb : numF bs with
    | none=>rw [hb] at e;cases e
    | some q =>
      obtain ⟨n,r⟩:=q
      rw [hb] at e
      have:=hf _ _ e
      rw [show r' = r from this]
      have:=(numF_len hb).1
      omega
  rw [stepF] at h
  split at h
  · exact hn (fun q u e=>(chkF_some e).2.2.2) h
  · split at h
    · exact hn (fun q u e=>(chkF_some e).2.2.2) h
    · split at h
      · exact hn (fun q u e=>(chkF_some e).2.2.2) h
      · split at h
        · exact hn (fun q u e=>by
            split at e
            · cases e
            · exact (chkF_some e).2.2.2) h
        · split at h
          · rw [(emitF_some h).2.2.2.2];exact Nat.le_refl _
          · split at h
            · rw [(emitF_some h).2.2.2.2];exact Nat.le_refl _
            · cases h
theorem runF_fuel : ∀ (k k' : Nat) (v : LineT) (tab : List LineT) (bs : List Nat),bs.length ≤ k → bs.length ≤ k' → runF k v tab bs = runF k' v tab bs
  | k,k',v,tab,[],_,_=>by cases k <;> cases k' <;> rfl
  | 0,_,v,tab,b :: bs,h,_=>by simp at h
  | _ + 1,0,v,tab,b :: bs,_,h=>by simp at h
  | k + 1,k' + 1,v,tab,b :: bs,h,h'=>by
    rw [runF,runF]
    cases hs : stepF v tab (b :: bs) with
    | none=>rfl
    | some q =>
      obtain ⟨v',tab',r'⟩:=q
      have:=stepF_len hs
      simp only [List.length_cons] at h h'
      exact runF_fuel k k' v' tab' r' (by omega) (by omega)
def UpR (all : List Nat) (w : World) (e : Ending) (w' : World) : Prop :=
  Below w.heap.size w w' ∧ ((unpackF all = none ∧ e = .returned (.tuple #[.slice none 0 0,.int .i64 33])) ∨ (∃ tab tv,unpackF all = some tab ∧ e = .returned (.tuple #[tv,.int .i64 0]) ∧ RowsAt w' tv LineT.cells 4 tab))
def atOf (W : World) (M n : Nat) : Nat:=match W.cell? ⟨M,1,none⟩ with
  | some (.int _ p)=>n - p.toNat
  | _=>0
set_option maxRecDepth 100000 in
set_option maxHeartbeats 400000 in
theorem unpack_some {w : World} {b o n c : Nat} {all : List Nat} (hA : AllAt w b o n all) (hb : b < w.heap.size) (hn0 : 0 < n) (hnc : n ≤ c) (hn : n ≤ 140737488351232) :
    Calls Tryz.prog 30 #[.slice (some ⟨b,o,none⟩) n c] w (UpR all w):=by
  have hmf : ∀ (fn : Fn) (first cap : Array Value) (w : World),(Instr.makeFunc fn first cap).run Tryz.prog w = .ok (.func fn first cap) w:=fun _ _ _ _=>rfl
  obtain ⟨W2,hW2⟩ : ∃ W2 : World,W2 = (w.alloc (.cells #[.slice none 0 0] 26)).alloc (.cells #[.int .i64 0] 31):=⟨_,rfl⟩
  have hs2 : W2.heap.size = w.heap.size + 1 + 1:=by rw [hW2,World.size_alloc,World.size_alloc]
  have hbW : Below w.heap.size w W2:=by rw [hW2];exact ((Below.refl _ _).alloc (Nat.le_refl _) _).alloc (by simp) _
  have qA0 : W2.heap[w.heap.size]? = some (.cells #[.slice none 0 0] 26 (0,0)):=by
    rw [hW2,heap_alloc_old _ _ (by simp)]
    exact heap_alloc_new w _
  have qB0 : W2.heap[w.heap.size + 1]? = some (.cells #[.int .i64 0] 31 (0,0)):=by
    rw [hW2]
    have:=heap_alloc_new (w.alloc (.cells #[.slice none 0 0] 26)) (.cells #[.int .i64 0] 31)
    rwa [World.size_alloc] at this
  have hM0 : MSt (W2.alloc (.cells #[.slice (some ⟨b,o,none⟩) n c,.int .i64 0,.int .i64 0,.int .i64 0,.int .i64 0,.int .i64 0,.slice none 0 0] 139)) (w.heap.size + 1 + 1) (w.heap.size + 1 + 1) b o n c all 0 default (.slice none 0 0) []:=by
    have hb3:=hbW.alloc hbW.size (.cells #[.slice (some ⟨b,o,none⟩) n c,.int .i64 0,.int .i64 0,.int .i64 0,.int .i64 0,.int .i64 0,.slice none 0 0] 139)
    refine ⟨?_,⟨World.ownsRow_nil _ _ _ _,by simp [Value.ownBlock],⟨hA.1,hA.2.1,fun j hj=>?_⟩,by omega,Nat.le_refl _,by rw [World.size_alloc];omega,hnc,hn,by simp,by simp⟩⟩
    · have:=heap_alloc_new W2 (.cells #[.slice (some ⟨b,o,none⟩) n c,.int .i64 0,.int .i64 0,.int .i64 0,.int .i64 0,.int .i64 0,.slice none 0 0] 139)
      rw [hs2] at this
      exact this
    · have:=hA.2.2 j hj
      exact (hb3.cell (low_of_cell this)).trans this
  have hM0:=Lib.hid hM0
  have hrun0:=Lib.hid (show runF (n - 0) default [] (all.drop 0) = unpackF all by rw [unpackF,List.drop_zero,Nat.sub_zero,hA.1])
  have hAn:=hA.1
  have qAB : ∀ wr,Below (w.heap.size + 1 + 1) W2 wr → (wr.cell? ⟨w.heap.size,0,none⟩ = some (.slice none 0 0) ∧ wr.cell? ⟨w.heap.size + 1,0,none⟩ = some (.int .i64 0)) ∧ wr.frozen? ⟨w.heap.size,0,none⟩ = false ∧ wr.frozen? ⟨w.heap.size + 1,0,none⟩ = false:=fun wr hb=>by
    have h1:=(hb.block w.heap.size (by omega)).trans qA0
    have h2:=(hb.block (w.heap.size + 1) (by omega)).trans qB0
    refine ⟨⟨?_,?_⟩,?_,?_⟩ <;> simp [World.cell?,World.frozen?,h1,h2]
  have hz3 : Below (w.heap.size + 1 + 1) W2 (W2.alloc (.cells #[.slice (some ⟨b,o,none⟩) n c,.int .i64 0,.int .i64 0,.int .i64 0,.int .i64 0,.int .i64 0,.slice none 0 0] 139)):=(Below.refl _ _).alloc (by omega) _
  have qA0:=Lib.hid qA0
  have qB0:=Lib.hid qB0
  clear hA
  go_enter_defers Tryz.func30,Tryz.ntmps30
  go_wp2_with fail
  rw [← hW2]
  clear hW2
  go_loopw [] (fun wr=>∃ (p : Nat) (v : LineT) (tv : Value) (tab : List LineT),p ≤ n ∧ MSt wr (w.heap.size + 1 + 1) (w.heap.size + 1 + 1) b o n c all p v tv tab ∧ RngOk v ∧ Below (w.heap.size + 1 + 1) W2 wr ∧ runF (n - p) v tab (all.drop p) = unpackF all) (fun wr=>atOf wr (w.heap.size + 1 + 1) n)
  case atStart=>exact ⟨0,default,.slice none 0 0,[],by omega,hM0.out,rng_default,hz3,hrun0.out⟩
  case round =>
    obtain ⟨p,v,tv,tab,hp,hm,hv,hbl,hrun⟩:=hrel
    have hrun:=Lib.hid hrun
    have hend:=isAtEnd_c hm.mac
    by_cases hpn : p = n
    · have hpe : ((p : Int) == (n : Int)) = true:=beq_iff_eq.2 (by omega)
      have hfin:=Lib.hid (show unpackF all = some tab by rw [← hrun.out,hpn,List.drop_eq_nil_of_le (by omega)];cases (n - n) <;> rfl)
      have hrows:=Lib.hid (rows_of_own hm.env.own)
      obtain ⟨ta,tc,rfl⟩:=rows_slice hrows.out
      obtain ⟨-, -, -, -, -, -,i6⟩:=hm.mac.cells
      obtain ⟨⟨qa,qb⟩,fa,fb⟩:=qAB wr hbl
      go_wp2_with (go_at_call 104;refine hend.mono ?_;rintro e w1 ⟨rfl,k,rfl⟩)
      have hlo:=hm.env.own.lt
      have qA1 : (wr.drewN k).heap[w.heap.size]? = some (.cells #[.slice none 0 0] 26 (0,0)):=(hbl.block w.heap.size (by omega)).trans qA0.out
      have qB1 : (wr.drewN k).heap[w.heap.size + 1]? = some (.cells #[.int .i64 0] 31 (0,0)):=(hbl.block (w.heap.size + 1) (by omega)).trans qB0.out
      have hownD:=Lib.hid (((hm.env.own.kept (w':=(wr.drewN k).setCell ⟨w.heap.size,0,none⟩ (.slice ta tab.length tc)) (row:=some w.heap.size) ⟨rfl,rfl,rfl,by simp,fun j _ hne=>heap_setCell_other (wr.drewN k) ⟨w.heap.size,0,none⟩ j _ (fun e=>hne (by rw [e]))⟩ (.inr (fun e=>by have:=(hlo _ e).1;omega)))).kept (w':=((wr.drewN k).setCell ⟨w.heap.size,0,none⟩ (.slice ta tab.length tc)).setCell ⟨w.heap.size + 1,0,none⟩ (.int .i64 0)) (row:=some (w.heap.size + 1)) ⟨rfl,rfl,rfl,by simp,fun j _ hne=>heap_setCell_other _ ⟨w.heap.size + 1,0,none⟩ j _ (fun e=>hne (by rw [e]))⟩ (.inr (fun e=>by have:=(hlo _ e).1;omega)))
      have hwr:=hbl.size
      have hb5:=Lib.hid ((((below_drewN hbl k).mono (show w.heap.size ≤ w.heap.size + 1 + 1 by omega)).setCell (p:=⟨w.heap.size,0,none⟩) (Nat.le_refl _) (.slice ta tab.length tc)).setCell (p:=⟨w.heap.size + 1,0,none⟩) (by simp) (.int .i64 0))
      refine leaves_cons (f:=103) (args:=#[.pointer (some ⟨w.heap.size,0,none⟩),.pointer (some ⟨w.heap.size + 1,0,none⟩)]) (by simp) (by simp [go_sem]) ?_
      refine catch_idle.mono ?_
      rintro e u' w'' ⟨rfl,rfl,rfl⟩
      have hb6:=Lib.hid ((hbW.trans hb5.out).alloc (hbW.trans hb5.out).size (.cells #[.int .i64 0,.int .i64 0] 119))
      have hrowsD:=Lib.hid (rows_of_own (hownD.out.alloc (.cells #[.int .i64 0,.int .i64 0] 119)))
      have rb : ((((wr.drewN k).setCell ⟨w.heap.size,0,none⟩ (.slice ta tab.length tc)).setCell ⟨w.heap.size + 1,0,none⟩ (.int .i64 0)).alloc (.cells #[.int .i64 0,.int .i64 0] 119)).heap[w.heap.size + 1]? = some (.cells #[.int .i64 0] 31 (0,0)):=by
        rw [heap_alloc_old _ _ (by simp;omega)]
        exact heap_setCell_same _ _ 0 _ _ _ ((heap_setCell_other _ _ _ _ (by simp)).trans qB1)
      have ra : ((((wr.drewN k).setCell ⟨w.heap.size,0,none⟩ (.slice ta tab.length tc)).setCell ⟨w.heap.size + 1,0,none⟩ (.int .i64 0)).alloc (.cells #[.int .i64 0,.int .i64 0] 119)).heap[w.heap.size]? = some (.cells #[.slice ta tab.length tc] 26 (0,0)):=by
        rw [heap_alloc_old _ _ (by simp;omega),heap_setCell_other _ _ _ _ (by simp)]
        exact heap_setCell_same _ _ 0 _ _ _ qA1
      generalize hWd : ((((wr.drewN k).setCell ⟨w.heap.size,0,none⟩ (.slice ta tab.length tc)).setCell ⟨w.heap.size + 1,0,none⟩ (.int .i64 0)).alloc (.cells #[.int .i64 0,.int .i64 0] 119)) = Wd at *
      clear hWd
      have ca : Wd.cell? ⟨w.heap.size,0,none⟩ = some (.slice ta tab.length tc):=by simp [World.cell?,ra]
      have cb : Wd.cell? ⟨w.heap.size + 1,0,none⟩ = some (.int .i64 0):=by simp [World.cell?,rb]
      clear ra rb
      simp [Leaves,settle,results,Tryz.f30,go_sem,ca,cb]
      exact ⟨hb6.out,.inr ⟨tab,_,hfin.out,rfl,hrowsD.out⟩⟩
    · have hpe : ((p : Int) == (n : Int)) = false:=beq_eq_false_iff_ne.2 (by omega)
      go_wp2_with (go_at_call 104;refine hend.mono ?_;rintro e w1 ⟨rfl,k,rfl⟩)
      refine (step_c (hm.drewN k) hv (by omega)).mono ?_
      rintro e w2 ⟨hb2,(⟨hnone,x,y,rfl⟩ | ⟨v',tab',p',tv',hs,hp1,hp2,rfl,hm2,hv2⟩)⟩
      · have hfin:=Lib.hid (show unpackF all = none by
          have h1:=hrun.out
          have hl : (all.drop p).length = n - p:=by rw [List.length_drop,hAn]
          cases hd : all.drop p with
          | nil=>rw [hd] at hl;simp at hl;omega
          | cons b0 bs =>
            rw [hd] at h1 hnone
            rw [← h1]
            have e1 : n - p = (n - p - 1) + 1:=by omega
            rw [e1,runF,hnone]
            rfl)
        have hbl2:=(below_drewN hbl k).trans hb2
        obtain ⟨⟨qa,qb⟩,fa,fb⟩:=qAB w2 hbl2
        have hwr:=hbl2.size
        have qA1 : w2.heap[w.heap.size]? = some (.cells #[.slice none 0 0] 26 (0,0)):=(hbl2.block w.heap.size (by omega)).trans qA0.out
        have qB1 : w2.heap[w.heap.size + 1]? = some (.cells #[.int .i64 0] 31 (0,0)):=(hbl2.block (w.heap.size + 1) (by omega)).trans qB0.out
        go_wp2
        refine leaves_cons (f:=103) (args:=#[.pointer (some ⟨w.heap.size,0,none⟩),.pointer (some ⟨w.heap.size + 1,0,none⟩)]) (by simp) (by simp [go_sem]) ?_
        refine (catch_flt x y [] (.slice none 0 0) (.int .i64 0) qa qb fa fb (by omega)).mono ?_
        rintro e u' w'' ⟨rfl,rfl,rfl⟩
        have hb6:=Lib.hid ((((hbW.trans (hbl2.mono (show w.heap.size ≤ w.heap.size + 1 + 1 by omega))).alloc (by omega) (.cells #[.int .i64 x,.int .i64 y] 119)).setCell (p:=⟨w.heap.size,0,none⟩) (Nat.le_refl _) (.slice none 0 0)).setCell (p:=⟨w.heap.size + 1,0,none⟩) (by simp) (.int .i64 33))
        have rb : (((w2.alloc (.cells #[.int .i64 x,.int .i64 y] 119)).setCell ⟨w.heap.size,0,none⟩ (.slice none 0 0)).setCell ⟨w.heap.size + 1,0,none⟩ (.int .i64 33)).heap[w.heap.size + 1]? = some (.cells #[.int .i64 33] 31 (0,0)):=by
          have h0 : ((w2.alloc (.cells #[.int .i64 x,.int .i64 y] 119)).setCell ⟨w.heap.size,0,none⟩ (.slice none 0 0)).heap[w.heap.size + 1]? = some (.cells #[.int .i64 0] 31 (0,0)):=by
            rw [heap_setCell_other _ _ _ _ (by simp),heap_alloc_old _ _ (by omega)]
            exact qB1
          exact heap_setCell_same _ _ 0 _ _ _ h0
        have ra : (((w2.alloc (.cells #[.int .i64 x,.int .i64 y] 119)).setCell ⟨w.heap.size,0,none⟩ (.slice none 0 0)).setCell ⟨w.heap.size + 1,0,none⟩ (.int .i64 33)).heap[w.heap.size]? = some (.cells #[.slice none 0 0] 26 (0,0)):=by
          rw [heap_setCell_other _ _ _ _ (by simp)]
          have h0 : (w2.alloc (.cells #[.int .i64 x,.int .i64 y] 119)).heap[w.heap.size]? = some (.cells #[.slice none 0 0] 26 (0,0)):=by
            rw [heap_alloc_old _ _ (by omega)]
            exact qA1
          exact heap_setCell_same _ _ 0 _ _ _ h0
        generalize hWd : (((w2.alloc (.cells #[.int .i64 x,.int .i64 y] 119)).setCell ⟨w.heap.size,0,none⟩ (.slice none 0 0)).setCell ⟨w.heap.size + 1,0,none⟩ (.int .i64 33)) = Wd at *
        clear hWd
        have ca : Wd.cell? ⟨w.heap.size,0,none⟩ = some (.slice none 0 0):=by simp [World.cell?,ra]
        have cb : Wd.cell? ⟨w.heap.size + 1,0,none⟩ = some (.int .i64 33):=by simp [World.cell?,rb]
        clear ra rb
        simp [Leaves,settle,results,Tryz.f30,go_sem,ca,cb]
        exact ⟨hb6.out,.inl ⟨hfin.out,rfl⟩⟩
      · have hrun2:=Lib.hid (show runF (n - p') v' tab' (all.drop p') = unpackF all by
          have h1:=hrun.out
          have hl : (all.drop p).length = n - p:=by rw [List.length_drop,hAn]
          cases hd : all.drop p with
          | nil=>rw [hd] at hl;simp at hl;omega
          | cons b0 bs =>
            rw [hd] at h1 hs hl
            rw [← h1]
            have e1 : n - p = (n - p - 1) + 1:=by omega
            rw [e1,runF,hs]
            dsimp only [Option.bind]
            exact runF_fuel _ _ _ _ _ (by rw [List.length_drop];omega) (by rw [List.length_drop];omega))
        have hbl2:=(below_drewN hbl k).trans hb2
        have a1:=hm.mac.cells.2.1
        have a2:=hm2.mac.cells.2.1
        go_wp2
        go_roundw
        case rel=>exact ⟨p',v',tv',tab',hp2,hm2,hv2,hbl2,hrun2.out⟩
        case measure=>unfold atOf;rw [a1,a2];simp;omega
end Go.Ev

