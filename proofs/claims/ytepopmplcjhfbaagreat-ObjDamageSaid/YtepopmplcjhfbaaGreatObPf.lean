import Derived.Test.YtepopmplcjhfbaaGreatObG01
set_option linter.unusedSectionVars false
set_option linter.unusedVariables false
set_option linter.unusedSimpArgs false
set_option linter.unnecessarySimpa false
namespace Go.Ev
open Go.RowKit Go.Proofs Go.Rw
def secP (now next : LineT) : List Int:=if next.sec = now.sec then [] else 4 :: numL (next.sec - now.sec).toNat
def fileP (now next : LineT) : List Int:=if next.file = now.file then [] else 3 :: numL next.file.toNat
def offD (now next : LineT) : Int:=next.off - (if next.sec = now.sec then now.off else 0)
def offP (d : Int) : List Int:=if offB d = 0 then [] else 1 :: numL (offB d).toNat
def lineP (e : Int) : List Int:=if lineB e = 0 then [] else 2 :: numL (zig (lineB e))
def lastP (d e : Int) : Int:=64 + (d - offB d) / 4 * 16 + (e - lineB e) + 4
def entryL (now next : LineT) : List Int:=secP now next ++ (fileP now next ++ (offP (offD now next) ++ (lineP (next.line - now.line) ++ [lastP (offD now next) (next.line - now.line)])))
theorem new_at2 (w : World) (A B : Obj) (u : Value) : (((w.alloc A).alloc B).alloc (.cells #[u] 5)).cell? ⟨w.heap.size + 1 + 1,0,none⟩ = some u:=by
  have:=new_cell ((w.alloc A).alloc B) #[u] 5 0 u rfl
  rwa [World.size_alloc,World.size_alloc] at this
theorem new_set (w : World) (p : Addr) (x u : Value) : ((w.setCell p x).alloc (.cells #[u] 5)).cell? ⟨w.heap.size,0,none⟩ = some u:=by
  have:=new_cell (w.setCell p x) #[u] 5 0 u rfl
  rwa [World.size_setCell] at this
theorem numL_le9 {n : Nat} (h : n ≤ 4611686018427387904) : (numL n).length ≤ 9:=numL_len 8 n (by omega)
theorem offB_in {d : Int} (h0 : 0 ≤ d) (h1 : d ≤ 65535) : 0 ≤ offB d ∧ offB d ≤ 65535 ∧ 0 ≤ d - offB d ∧ d - offB d ≤ 44:=by
  unfold offB
  split <;> omega
theorem lineB_in {d : Int} (h0 : -1048576 ≤ d) (h1 : d ≤ 1048576) : -1048576 ≤ lineB d ∧ lineB d ≤ 1048576 ∧ -4 ≤ d - lineB d ∧ d - lineB d ≤ 11:=by
  unfold lineB
  split
  · omega
  · split <;> omega
theorem zig_in {d : Int} (h0 : -1048576 ≤ d) (h1 : d ≤ 1048576) : zig d ≤ 4611686018427387904:=by
  unfold zig
  split <;> omega
set_option maxRecDepth 100000 in
set_option maxHeartbeats 2000000 in
theorem entry_nnnn {w : World} {base g : Nat} {ob : Option Nat} {P : List Value} {ns no nf nl xo xl : Int} (h : WrS w base g ob P) (hbase : base ≤ w.heap.size) (hn : P.length ≤ 4000000) (hr1 : RngOk ⟨ns,no,nf,nl⟩) (hr2 : RngOk ⟨ns,xo,nf,xl⟩)
    (ho : no ≤ xo) (cO : offB (xo - no) = 0) (cL : lineB (xl - nl) = 0) :
    Calls Tryz.prog 102 #[.pointer (some ⟨g,0,none⟩),.agg #[.int .i64 ns,.int .i64 no,.int .i64 nf,.int .i64 nl],.agg #[.int .i64 ns,.int .i64 xo,.int .i64 nf,.int .i64 xl]] w (WrR base g ob (P ++ byL (entryL ⟨ns,no,nf,nl⟩ ⟨ns,xo,nf,xl⟩)) w):=by
  unfold RngOk at hr1 hr2
  dsimp only at hr1 hr2
  obtain ⟨d,hd⟩ : ∃ d : Int,d = xo - no:=⟨_,rfl⟩
  obtain ⟨e,he⟩ : ∃ e : Int,e = xl - nl:=⟨_,rfl⟩
  obtain ⟨m,hm⟩ : ∃ m : Int,m = offB d:=⟨_,rfl⟩
  obtain ⟨m2,hm2⟩ : ∃ m2 : Int,m2 = lineB e:=⟨_,rfl⟩
  have hdi:=offB_in (d:=d) (by omega) (by omega)
  have hei:=lineB_in (d:=e) (by omega) (by omega)
  have hof:=fun W=>offB_c (w:=W) (d:=d) (by omega) (by omega)
  have hli:=fun W=>lineB_c (w:=W) (d:=e) (by omega) (by omega)
  rw [← hd,← hm] at cO
  rw [← he,← hm2] at cL
  rw [← hm] at hdi hof
  rw [← hm2] at hei hli
  obtain ⟨q,hq⟩ : ∃ q : Int,q = d - m:=⟨_,rfl⟩
  obtain ⟨l,hl⟩ : ∃ l : Int,l = e - m2:=⟨_,rfl⟩
  obtain ⟨z,hz⟩ : ∃ z : Int,z = 64 + q / 4 * 16 + l + 4:=⟨_,rfl⟩
  have hfin : entryL ⟨ns,no,nf,nl⟩ ⟨ns,xo,nf,xl⟩ = [z]:=by
    unfold entryL secP fileP offP lineP lastP offD
    dsimp only
    rw [if_pos rfl,if_pos rfl]
    rw [if_pos rfl]
    rw [← hd,← he,← hm,← hm2,← hq,← hl,← hz]
    rw [if_pos cO]
    rw [if_pos cL]
    all_goals rfl
  have hfin:=Lib.hid hfin
  have w1 : wrap64 (xo - no) = d:=by unfold wrap64;omega
  have w1c : xo - no = d:=hd.symm
  have w2 : wrap64 (xl - nl) = e:=by unfold wrap64;omega
  have w2c : xl - nl = e:=he.symm
  obtain rfl : q = d:=by omega
  subst cO
  obtain rfl : l = e:=by omega
  subst cL
  obtain ⟨r,hr⟩ : ∃ r : Int,r = q / 4:=⟨_,rfl⟩
  have w5 : q.tdiv 4 = r:=by rw [Int.tdiv_eq_ediv_of_nonneg (by omega)];exact hr.symm
  have w5b : wrap64 r = r:=by unfold wrap64;omega
  obtain ⟨s,hsv⟩ : ∃ s : Int,s = r * 16:=⟨_,rfl⟩
  have w6 : wrap64 (r * 16) = s:=by unfold wrap64;omega
  have w6c : r * 16 = s:=hsv.symm
  obtain ⟨t,ht⟩ : ∃ t : Int,t = 64 + s:=⟨_,rfl⟩
  have w7 : wrap64 (64 + s) = t:=by unfold wrap64;omega
  have w7c : 64 + s = t:=ht.symm
  obtain ⟨u,hu⟩ : ∃ u : Int,u = t + l:=⟨_,rfl⟩
  have w8 : wrap64 (t + l) = u:=by unfold wrap64;omega
  have w8c : t + l = u:=hu.symm
  have w9 : wrap64 (u - -4) = z:=by unfold wrap64;omega
  have w9b : wrap64 (u + 4) = z:=by unfold wrap64;omega
  have w9c : u + 4 = z:=by omega
  have w9d : u - -4 = z:=by omega
  have hz0 : 0 ≤ z:=by omega
  have hz1 : z < 256:=by omega
  have w10 : z % 256 = z:=by omega
  clear hd he hm hm2 hq hl hz hr hsv ht hu
  have hlt:=h.lt
  have hE : EnvE ((w.alloc (.cells #[.int .i64 ns,.int .i64 no,.int .i64 nf,.int .i64 nl] 48)).alloc (.cells #[.int .i64 ns,.int .i64 xo,.int .i64 nf,.int .i64 xl] 48)) g ob w.heap.size ⟨ns,no,nf,nl⟩ ⟨ns,xo,nf,xl⟩:=by
    refine ⟨(lineB_new w ⟨ns,no,nf,nl⟩).alloc _,?_,fun e=>by have:=(hlt.2 _ e).2;omega,fun e=>by have:=(hlt.2 _ e).2;omega,by omega,by omega⟩
    have:=lineB_new (w.alloc (.cells #[.int .i64 ns,.int .i64 no,.int .i64 nf,.int .i64 nl] 48)) ⟨ns,xo,nf,xl⟩
    rwa [World.size_alloc] at this
  have hS : Wst w ((w.alloc (.cells #[.int .i64 ns,.int .i64 no,.int .i64 nf,.int .i64 nl] 48)).alloc (.cells #[.int .i64 ns,.int .i64 xo,.int .i64 nf,.int .i64 xl] 48)) g ob ob:=((Wst.refl w g ob).alloc _).alloc _
  have hW:=Lib.hid ((h.alloc (.cells #[.int .i64 ns,.int .i64 no,.int .i64 nf,.int .i64 nl] 48)).alloc (.cells #[.int .i64 ns,.int .i64 xo,.int .i64 nf,.int .i64 xl] 48))
  obtain ⟨a0,a1,a2,a3⟩:=hE.now.cells
  obtain ⟨n0,n1,n2,n3⟩:=hE.next.cells
  dsimp only at a0 a1 a2 a3 n0 n1 n2 n3
  have hcall:=fun u hu=>bytes1_c (hW.out.alloc (.cells #[u] 5)) (new_at2 _ _ _ u) hu (Nat.le_trans hbase (Nat.le_trans hS.size (by simp))) (by omega)
  clear h
  go_enter Tryz.func102,Tryz.ntmps102
  go_wp2_with (first
      | (go_at_call 76;refine (hcall _ rfl).mono ?_;rintro e w1 ⟨rfl,ob1,hW1,hS1⟩;have hE':=(hE.alloc _).step hS1;have hS':=(hS.alloc _).trans hS1;clear hE hS hW;have hE:=hE';have hS:=hS';clear hE' hS';have hW:=Lib.hid hW1;clear hW1 hS1 a0 a1 a2 a3 n0 n1 n2 n3;obtain ⟨a0,a1,a2,a3⟩:=hE.now.cells;obtain ⟨n0,n1,n2,n3⟩:=hE.next.cells;dsimp only at a0 a1 a2 a3 n0 n1 n2 n3;clear hcall;have hcall:=fun u hu=>bytes1_c (hW.out.alloc (.cells #[u] 5)) (new_cell w1 #[u] 5 0 u rfl) hu (Nat.le_trans hbase (Nat.le_trans hS.size (by simp))) (by first | omega | (simp [byL];omega)))
      | (go_at_call 170;refine (number_i hW.out (Nat.le_trans hbase hS.size) (by simp [byL];omega) (by omega) (by omega)).mono ?_;rintro e w1 ⟨rfl,ob1,hW1,hS1⟩;have hE':=hE.step hS1;have hS':=hS.trans hS1;clear hE hS hW;have hE:=hE';have hS:=hS';clear hE' hS';have hW:=Lib.hid hW1;clear hW1 hS1 a0 a1 a2 a3 n0 n1 n2 n3;obtain ⟨a0,a1,a2,a3⟩:=hE.now.cells;obtain ⟨n0,n1,n2,n3⟩:=hE.next.cells;dsimp only at a0 a1 a2 a3 n0 n1 n2 n3;clear hcall;have hcall:=fun u hu=>bytes1_c (hW.out.alloc (.cells #[u] 5)) (new_cell w1 #[u] 5 0 u rfl) hu (Nat.le_trans hbase (Nat.le_trans hS.size (by simp))) (by first | omega | (simp [byL];omega)))
      | (go_at_call 171;refine (signed_c hW.out (Nat.le_trans hbase hS.size) (by simp [byL];omega) (by omega) (by omega)).mono ?_;rintro e w1 ⟨rfl,ob1,hW1,hS1⟩;have hE':=hE.step hS1;have hS':=hS.trans hS1;clear hE hS hW;have hE:=hE';have hS:=hS';clear hE' hS';have hW:=Lib.hid hW1;clear hW1 hS1 a0 a1 a2 a3 n0 n1 n2 n3;obtain ⟨a0,a1,a2,a3⟩:=hE.now.cells;obtain ⟨n0,n1,n2,n3⟩:=hE.next.cells;dsimp only at a0 a1 a2 a3 n0 n1 n2 n3;clear hcall;have hcall:=fun u hu=>bytes1_c (hW.out.alloc (.cells #[u] 5)) (new_cell w1 #[u] 5 0 u rfl) hu (Nat.le_trans hbase (Nat.le_trans hS.size (by simp))) (by first | omega | (simp [byL];omega)))
      | (go_at_call 189;refine (hof _).mono ?_;rintro e w1 ⟨rfl,rfl⟩)
      | (go_at_call 190;refine (hli _).mono ?_;rintro e w1 ⟨rfl,rfl⟩))
  refine bodyPost_ret (results_none rfl _ _ _) rfl ?_
  refine ⟨rfl,_,?_,hS⟩
  rw [hfin.out]
  simpa [byL] using hW.out
set_option maxRecDepth 100000 in
set_option maxHeartbeats 2000000 in
theorem entry_nnny {w : World} {base g : Nat} {ob : Option Nat} {P : List Value} {ns no nf nl xo xl : Int} (h : WrS w base g ob P) (hbase : base ≤ w.heap.size) (hn : P.length ≤ 4000000) (hr1 : RngOk ⟨ns,no,nf,nl⟩) (hr2 : RngOk ⟨ns,xo,nf,xl⟩)
    (ho : no ≤ xo) (cO : offB (xo - no) = 0) (cL : lineB (xl - nl) ≠ 0) :
    Calls Tryz.prog 102 #[.pointer (some ⟨g,0,none⟩),.agg #[.int .i64 ns,.int .i64 no,.int .i64 nf,.int .i64 nl],.agg #[.int .i64 ns,.int .i64 xo,.int .i64 nf,.int .i64 xl]] w (WrR base g ob (P ++ byL (entryL ⟨ns,no,nf,nl⟩ ⟨ns,xo,nf,xl⟩)) w):=by
  unfold RngOk at hr1 hr2
  dsimp only at hr1 hr2
  obtain ⟨d,hd⟩ : ∃ d : Int,d = xo - no:=⟨_,rfl⟩
  obtain ⟨e,he⟩ : ∃ e : Int,e = xl - nl:=⟨_,rfl⟩
  obtain ⟨m,hm⟩ : ∃ m : Int,m = offB d:=⟨_,rfl⟩
  obtain ⟨m2,hm2⟩ : ∃ m2 : Int,m2 = lineB e:=⟨_,rfl⟩
  have hdi:=offB_in (d:=d) (by omega) (by omega)
  have hei:=lineB_in (d:=e) (by omega) (by omega)
  have hof:=fun W=>offB_c (w:=W) (d:=d) (by omega) (by omega)
  have hli:=fun W=>lineB_c (w:=W) (d:=e) (by omega) (by omega)
  rw [← hd,← hm] at cO
  rw [← he,← hm2] at cL
  rw [← hm] at hdi hof
  rw [← hm2] at hei hli
  obtain ⟨q,hq⟩ : ∃ q : Int,q = d - m:=⟨_,rfl⟩
  obtain ⟨l,hl⟩ : ∃ l : Int,l = e - m2:=⟨_,rfl⟩
  obtain ⟨z,hz⟩ : ∃ z : Int,z = 64 + q / 4 * 16 + l + 4:=⟨_,rfl⟩
  have hfin : entryL ⟨ns,no,nf,nl⟩ ⟨ns,xo,nf,xl⟩ = (2 :: numL (zig m2)) ++ ([z]):=by
    unfold entryL secP fileP offP lineP lastP offD
    dsimp only
    rw [if_pos rfl,if_pos rfl]
    rw [if_pos rfl]
    rw [← hd,← he,← hm,← hm2,← hq,← hl,← hz]
    rw [if_pos cO]
    rw [if_neg cL]
    all_goals rfl
  have hfin:=Lib.hid hfin
  have w1 : wrap64 (xo - no) = d:=by unfold wrap64;omega
  have w1c : xo - no = d:=hd.symm
  have w2 : wrap64 (xl - nl) = e:=by unfold wrap64;omega
  have w2c : xl - nl = e:=he.symm
  have cL' : (m2 != 0) = true:=bne_iff_ne.2 cL
  have w4 : wrap64 (e - m2) = l:=by unfold wrap64;omega
  have w4c : e - m2 = l:=hl.symm
  have lL:=numL_le9 (n:=zig m2) (zig_in (by omega) (by omega))
  obtain rfl : q = d:=by omega
  subst cO
  obtain ⟨r,hr⟩ : ∃ r : Int,r = q / 4:=⟨_,rfl⟩
  have w5 : q.tdiv 4 = r:=by rw [Int.tdiv_eq_ediv_of_nonneg (by omega)];exact hr.symm
  have w5b : wrap64 r = r:=by unfold wrap64;omega
  obtain ⟨s,hsv⟩ : ∃ s : Int,s = r * 16:=⟨_,rfl⟩
  have w6 : wrap64 (r * 16) = s:=by unfold wrap64;omega
  have w6c : r * 16 = s:=hsv.symm
  obtain ⟨t,ht⟩ : ∃ t : Int,t = 64 + s:=⟨_,rfl⟩
  have w7 : wrap64 (64 + s) = t:=by unfold wrap64;omega
  have w7c : 64 + s = t:=ht.symm
  obtain ⟨u,hu⟩ : ∃ u : Int,u = t + l:=⟨_,rfl⟩
  have w8 : wrap64 (t + l) = u:=by unfold wrap64;omega
  have w8c : t + l = u:=hu.symm
  have w9 : wrap64 (u - -4) = z:=by unfold wrap64;omega
  have w9b : wrap64 (u + 4) = z:=by unfold wrap64;omega
  have w9c : u + 4 = z:=by omega
  have w9d : u - -4 = z:=by omega
  have hz0 : 0 ≤ z:=by omega
  have hz1 : z < 256:=by omega
  have w10 : z % 256 = z:=by omega
  clear hd he hm hm2 hq hl hz hr hsv ht hu
  have hlt:=h.lt
  have hE : EnvE ((w.alloc (.cells #[.int .i64 ns,.int .i64 no,.int .i64 nf,.int .i64 nl] 48)).alloc (.cells #[.int .i64 ns,.int .i64 xo,.int .i64 nf,.int .i64 xl] 48)) g ob w.heap.size ⟨ns,no,nf,nl⟩ ⟨ns,xo,nf,xl⟩:=by
    refine ⟨(lineB_new w ⟨ns,no,nf,nl⟩).alloc _,?_,fun e=>by have:=(hlt.2 _ e).2;omega,fun e=>by have:=(hlt.2 _ e).2;omega,by omega,by omega⟩
    have:=lineB_new (w.alloc (.cells #[.int .i64 ns,.int .i64 no,.int .i64 nf,.int .i64 nl] 48)) ⟨ns,xo,nf,xl⟩
    rwa [World.size_alloc] at this
  have hS : Wst w ((w.alloc (.cells #[.int .i64 ns,.int .i64 no,.int .i64 nf,.int .i64 nl] 48)).alloc (.cells #[.int .i64 ns,.int .i64 xo,.int .i64 nf,.int .i64 xl] 48)) g ob ob:=((Wst.refl w g ob).alloc _).alloc _
  have hW:=Lib.hid ((h.alloc (.cells #[.int .i64 ns,.int .i64 no,.int .i64 nf,.int .i64 nl] 48)).alloc (.cells #[.int .i64 ns,.int .i64 xo,.int .i64 nf,.int .i64 xl] 48))
  obtain ⟨a0,a1,a2,a3⟩:=hE.now.cells
  obtain ⟨n0,n1,n2,n3⟩:=hE.next.cells
  dsimp only at a0 a1 a2 a3 n0 n1 n2 n3
  have hcall:=fun u hu=>bytes1_c (hW.out.alloc (.cells #[u] 5)) (new_at2 _ _ _ u) hu (Nat.le_trans hbase (Nat.le_trans hS.size (by simp))) (by omega)
  clear h
  go_enter Tryz.func102,Tryz.ntmps102
  go_wp2_with (first
      | (go_at_call 76;refine (hcall _ rfl).mono ?_;rintro e w1 ⟨rfl,ob1,hW1,hS1⟩;have hE':=(hE.alloc _).step hS1;have hS':=(hS.alloc _).trans hS1;clear hE hS hW;have hE:=hE';have hS:=hS';clear hE' hS';have hW:=Lib.hid hW1;clear hW1 hS1 a0 a1 a2 a3 n0 n1 n2 n3;obtain ⟨a0,a1,a2,a3⟩:=hE.now.cells;obtain ⟨n0,n1,n2,n3⟩:=hE.next.cells;dsimp only at a0 a1 a2 a3 n0 n1 n2 n3;clear hcall;have hcall:=fun u hu=>bytes1_c (hW.out.alloc (.cells #[u] 5)) (new_cell w1 #[u] 5 0 u rfl) hu (Nat.le_trans hbase (Nat.le_trans hS.size (by simp))) (by first | omega | (simp [byL];omega)))
      | (go_at_call 170;refine (number_i hW.out (Nat.le_trans hbase hS.size) (by simp [byL];omega) (by omega) (by omega)).mono ?_;rintro e w1 ⟨rfl,ob1,hW1,hS1⟩;have hE':=hE.step hS1;have hS':=hS.trans hS1;clear hE hS hW;have hE:=hE';have hS:=hS';clear hE' hS';have hW:=Lib.hid hW1;clear hW1 hS1 a0 a1 a2 a3 n0 n1 n2 n3;obtain ⟨a0,a1,a2,a3⟩:=hE.now.cells;obtain ⟨n0,n1,n2,n3⟩:=hE.next.cells;dsimp only at a0 a1 a2 a3 n0 n1 n2 n3;clear hcall;have hcall:=fun u hu=>bytes1_c (hW.out.alloc (.cells #[u] 5)) (new_cell w1 #[u] 5 0 u rfl) hu (Nat.le_trans hbase (Nat.le_trans hS.size (by simp))) (by first | omega | (simp [byL];omega)))
      | (go_at_call 171;refine (signed_c hW.out (Nat.le_trans hbase hS.size) (by simp [byL];omega) (by omega) (by omega)).mono ?_;rintro e w1 ⟨rfl,ob1,hW1,hS1⟩;have hE':=hE.step hS1;have hS':=hS.trans hS1;clear hE hS hW;have hE:=hE';have hS:=hS';clear hE' hS';have hW:=Lib.hid hW1;clear hW1 hS1 a0 a1 a2 a3 n0 n1 n2 n3;obtain ⟨a0,a1,a2,a3⟩:=hE.now.cells;obtain ⟨n0,n1,n2,n3⟩:=hE.next.cells;dsimp only at a0 a1 a2 a3 n0 n1 n2 n3;clear hcall;have hcall:=fun u hu=>bytes1_c (hW.out.alloc (.cells #[u] 5)) (new_cell w1 #[u] 5 0 u rfl) hu (Nat.le_trans hbase (Nat.le_trans hS.size (by simp))) (by first | omega | (simp [byL];omega)))
      | (go_at_call 189;refine (hof _).mono ?_;rintro e w1 ⟨rfl,rfl⟩)
      | (go_at_call 190;refine (hli _).mono ?_;rintro e w1 ⟨rfl,rfl⟩))
  refine bodyPost_ret (results_none rfl _ _ _) rfl ?_
  refine ⟨rfl,_,?_,hS⟩
  rw [hfin.out]
  simpa [byL] using hW.out
set_option maxRecDepth 100000 in
set_option maxHeartbeats 2000000 in
theorem entry_nnyn {w : World} {base g : Nat} {ob : Option Nat} {P : List Value} {ns no nf nl xo xl : Int} (h : WrS w base g ob P) (hbase : base ≤ w.heap.size) (hn : P.length ≤ 4000000) (hr1 : RngOk ⟨ns,no,nf,nl⟩) (hr2 : RngOk ⟨ns,xo,nf,xl⟩)
    (ho : no ≤ xo) (cO : offB (xo - no) ≠ 0) (cL : lineB (xl - nl) = 0) :
    Calls Tryz.prog 102 #[.pointer (some ⟨g,0,none⟩),.agg #[.int .i64 ns,.int .i64 no,.int .i64 nf,.int .i64 nl],.agg #[.int .i64 ns,.int .i64 xo,.int .i64 nf,.int .i64 xl]] w (WrR base g ob (P ++ byL (entryL ⟨ns,no,nf,nl⟩ ⟨ns,xo,nf,xl⟩)) w):=by
  unfold RngOk at hr1 hr2
  dsimp only at hr1 hr2
  obtain ⟨d,hd⟩ : ∃ d : Int,d = xo - no:=⟨_,rfl⟩
  obtain ⟨e,he⟩ : ∃ e : Int,e = xl - nl:=⟨_,rfl⟩
  obtain ⟨m,hm⟩ : ∃ m : Int,m = offB d:=⟨_,rfl⟩
  obtain ⟨m2,hm2⟩ : ∃ m2 : Int,m2 = lineB e:=⟨_,rfl⟩
  have hdi:=offB_in (d:=d) (by omega) (by omega)
  have hei:=lineB_in (d:=e) (by omega) (by omega)
  have hof:=fun W=>offB_c (w:=W) (d:=d) (by omega) (by omega)
  have hli:=fun W=>lineB_c (w:=W) (d:=e) (by omega) (by omega)
  rw [← hd,← hm] at cO
  rw [← he,← hm2] at cL
  rw [← hm] at hdi hof
  rw [← hm2] at hei hli
  obtain ⟨q,hq⟩ : ∃ q : Int,q = d - m:=⟨_,rfl⟩
  obtain ⟨l,hl⟩ : ∃ l : Int,l = e - m2:=⟨_,rfl⟩
  obtain ⟨z,hz⟩ : ∃ z : Int,z = 64 + q / 4 * 16 + l + 4:=⟨_,rfl⟩
  have hfin : entryL ⟨ns,no,nf,nl⟩ ⟨ns,xo,nf,xl⟩ = (1 :: numL m.toNat) ++ ([z]):=by
    unfold entryL secP fileP offP lineP lastP offD
    dsimp only
    rw [if_pos rfl,if_pos rfl]
    rw [if_pos rfl]
    rw [← hd,← he,← hm,← hm2,← hq,← hl,← hz]
    rw [if_neg cO]
    rw [if_pos cL]
    all_goals rfl
  have hfin:=Lib.hid hfin
  have w1 : wrap64 (xo - no) = d:=by unfold wrap64;omega
  have w1c : xo - no = d:=hd.symm
  have w2 : wrap64 (xl - nl) = e:=by unfold wrap64;omega
  have w2c : xl - nl = e:=he.symm
  have cO' : (m != 0) = true:=bne_iff_ne.2 cO
  have w3 : wrap64 (d - m) = q:=by unfold wrap64;omega
  have w3c : d - m = q:=hq.symm
  have lO:=numL_le9 (n:=m.toNat) (by omega)
  obtain rfl : l = e:=by omega
  subst cL
  obtain ⟨r,hr⟩ : ∃ r : Int,r = q / 4:=⟨_,rfl⟩
  have w5 : q.tdiv 4 = r:=by rw [Int.tdiv_eq_ediv_of_nonneg (by omega)];exact hr.symm
  have w5b : wrap64 r = r:=by unfold wrap64;omega
  obtain ⟨s,hsv⟩ : ∃ s : Int,s = r * 16:=⟨_,rfl⟩
  have w6 : wrap64 (r * 16) = s:=by unfold wrap64;omega
  have w6c : r * 16 = s:=hsv.symm
  obtain ⟨t,ht⟩ : ∃ t : Int,t = 64 + s:=⟨_,rfl⟩
  have w7 : wrap64 (64 + s) = t:=by unfold wrap64;omega
  have w7c : 64 + s = t:=ht.symm
  obtain ⟨u,hu⟩ : ∃ u : Int,u = t + l:=⟨_,rfl⟩
  have w8 : wrap64 (t + l) = u:=by unfold wrap64;omega
  have w8c : t + l = u:=hu.symm
  have w9 : wrap64 (u - -4) = z:=by unfold wrap64;omega
  have w9b : wrap64 (u + 4) = z:=by unfold wrap64;omega
  have w9c : u + 4 = z:=by omega
  have w9d : u - -4 = z:=by omega
  have hz0 : 0 ≤ z:=by omega
  have hz1 : z < 256:=by omega
  have w10 : z % 256 = z:=by omega
  clear hd he hm hm2 hq hl hz hr hsv ht hu
  have hlt:=h.lt
  have hE : EnvE ((w.alloc (.cells #[.int .i64 ns,.int .i64 no,.int .i64 nf,.int .i64 nl] 48)).alloc (.cells #[.int .i64 ns,.int .i64 xo,.int .i64 nf,.int .i64 xl] 48)) g ob w.heap.size ⟨ns,no,nf,nl⟩ ⟨ns,xo,nf,xl⟩:=by
    refine ⟨(lineB_new w ⟨ns,no,nf,nl⟩).alloc _,?_,fun e=>by have:=(hlt.2 _ e).2;omega,fun e=>by have:=(hlt.2 _ e).2;omega,by omega,by omega⟩
    have:=lineB_new (w.alloc (.cells #[.int .i64 ns,.int .i64 no,.int .i64 nf,.int .i64 nl] 48)) ⟨ns,xo,nf,xl⟩
    rwa [World.size_alloc] at this
  have hS : Wst w ((w.alloc (.cells #[.int .i64 ns,.int .i64 no,.int .i64 nf,.int .i64 nl] 48)).alloc (.cells #[.int .i64 ns,.int .i64 xo,.int .i64 nf,.int .i64 xl] 48)) g ob ob:=((Wst.refl w g ob).alloc _).alloc _
  have hW:=Lib.hid ((h.alloc (.cells #[.int .i64 ns,.int .i64 no,.int .i64 nf,.int .i64 nl] 48)).alloc (.cells #[.int .i64 ns,.int .i64 xo,.int .i64 nf,.int .i64 xl] 48))
  obtain ⟨a0,a1,a2,a3⟩:=hE.now.cells
  obtain ⟨n0,n1,n2,n3⟩:=hE.next.cells
  dsimp only at a0 a1 a2 a3 n0 n1 n2 n3
  have hcall:=fun u hu=>bytes1_c (hW.out.alloc (.cells #[u] 5)) (new_at2 _ _ _ u) hu (Nat.le_trans hbase (Nat.le_trans hS.size (by simp))) (by omega)
  clear h
  go_enter Tryz.func102,Tryz.ntmps102
  go_wp2_with (first
      | (go_at_call 76;refine (hcall _ rfl).mono ?_;rintro e w1 ⟨rfl,ob1,hW1,hS1⟩;have hE':=(hE.alloc _).step hS1;have hS':=(hS.alloc _).trans hS1;clear hE hS hW;have hE:=hE';have hS:=hS';clear hE' hS';have hW:=Lib.hid hW1;clear hW1 hS1 a0 a1 a2 a3 n0 n1 n2 n3;obtain ⟨a0,a1,a2,a3⟩:=hE.now.cells;obtain ⟨n0,n1,n2,n3⟩:=hE.next.cells;dsimp only at a0 a1 a2 a3 n0 n1 n2 n3;clear hcall;have hcall:=fun u hu=>bytes1_c (hW.out.alloc (.cells #[u] 5)) (new_cell w1 #[u] 5 0 u rfl) hu (Nat.le_trans hbase (Nat.le_trans hS.size (by simp))) (by first | omega | (simp [byL];omega)))
      | (go_at_call 170;refine (number_i hW.out (Nat.le_trans hbase hS.size) (by simp [byL];omega) (by omega) (by omega)).mono ?_;rintro e w1 ⟨rfl,ob1,hW1,hS1⟩;have hE':=hE.step hS1;have hS':=hS.trans hS1;clear hE hS hW;have hE:=hE';have hS:=hS';clear hE' hS';have hW:=Lib.hid hW1;clear hW1 hS1 a0 a1 a2 a3 n0 n1 n2 n3;obtain ⟨a0,a1,a2,a3⟩:=hE.now.cells;obtain ⟨n0,n1,n2,n3⟩:=hE.next.cells;dsimp only at a0 a1 a2 a3 n0 n1 n2 n3;clear hcall;have hcall:=fun u hu=>bytes1_c (hW.out.alloc (.cells #[u] 5)) (new_cell w1 #[u] 5 0 u rfl) hu (Nat.le_trans hbase (Nat.le_trans hS.size (by simp))) (by first | omega | (simp [byL];omega)))
      | (go_at_call 171;refine (signed_c hW.out (Nat.le_trans hbase hS.size) (by simp [byL];omega) (by omega) (by omega)).mono ?_;rintro e w1 ⟨rfl,ob1,hW1,hS1⟩;have hE':=hE.step hS1;have hS':=hS.trans hS1;clear hE hS hW;have hE:=hE';have hS:=hS';clear hE' hS';have hW:=Lib.hid hW1;clear hW1 hS1 a0 a1 a2 a3 n0 n1 n2 n3;obtain ⟨a0,a1,a2,a3⟩:=hE.now.cells;obtain ⟨n0,n1,n2,n3⟩:=hE.next.cells;dsimp only at a0 a1 a2 a3 n0 n1 n2 n3;clear hcall;have hcall:=fun u hu=>bytes1_c (hW.out.alloc (.cells #[u] 5)) (new_cell w1 #[u] 5 0 u rfl) hu (Nat.le_trans hbase (Nat.le_trans hS.size (by simp))) (by first | omega | (simp [byL];omega)))
      | (go_at_call 189;refine (hof _).mono ?_;rintro e w1 ⟨rfl,rfl⟩)
      | (go_at_call 190;refine (hli _).mono ?_;rintro e w1 ⟨rfl,rfl⟩))
  refine bodyPost_ret (results_none rfl _ _ _) rfl ?_
  refine ⟨rfl,_,?_,hS⟩
  rw [hfin.out]
  simpa [byL] using hW.out
set_option maxRecDepth 100000 in
set_option maxHeartbeats 2000000 in
theorem entry_nnyy {w : World} {base g : Nat} {ob : Option Nat} {P : List Value} {ns no nf nl xo xl : Int} (h : WrS w base g ob P) (hbase : base ≤ w.heap.size) (hn : P.length ≤ 4000000) (hr1 : RngOk ⟨ns,no,nf,nl⟩) (hr2 : RngOk ⟨ns,xo,nf,xl⟩)
    (ho : no ≤ xo) (cO : offB (xo - no) ≠ 0) (cL : lineB (xl - nl) ≠ 0) :
    Calls Tryz.prog 102 #[.pointer (some ⟨g,0,none⟩),.agg #[.int .i64 ns,.int .i64 no,.int .i64 nf,.int .i64 nl],.agg #[.int .i64 ns,.int .i64 xo,.int .i64 nf,.int .i64 xl]] w (WrR base g ob (P ++ byL (entryL ⟨ns,no,nf,nl⟩ ⟨ns,xo,nf,xl⟩)) w):=by
  unfold RngOk at hr1 hr2
  dsimp only at hr1 hr2
  obtain ⟨d,hd⟩ : ∃ d : Int,d = xo - no:=⟨_,rfl⟩
  obtain ⟨e,he⟩ : ∃ e : Int,e = xl - nl:=⟨_,rfl⟩
  obtain ⟨m,hm⟩ : ∃ m : Int,m = offB d:=⟨_,rfl⟩
  obtain ⟨m2,hm2⟩ : ∃ m2 : Int,m2 = lineB e:=⟨_,rfl⟩
  have hdi:=offB_in (d:=d) (by omega) (by omega)
  have hei:=lineB_in (d:=e) (by omega) (by omega)
  have hof:=fun W=>offB_c (w:=W) (d:=d) (by omega) (by omega)
  have hli:=fun W=>lineB_c (w:=W) (d:=e) (by omega) (by omega)
  rw [← hd,← hm] at cO
  rw [← he,← hm2] at cL
  rw [← hm] at hdi hof
  rw [← hm2] at hei hli
  obtain ⟨q,hq⟩ : ∃ q : Int,q = d - m:=⟨_,rfl⟩
  obtain ⟨l,hl⟩ : ∃ l : Int,l = e - m2:=⟨_,rfl⟩
  obtain ⟨z,hz⟩ : ∃ z : Int,z = 64 + q / 4 * 16 + l + 4:=⟨_,rfl⟩
  have hfin : entryL ⟨ns,no,nf,nl⟩ ⟨ns,xo,nf,xl⟩ = (1 :: numL m.toNat) ++ ((2 :: numL (zig m2)) ++ ([z])):=by
    unfold entryL secP fileP offP lineP lastP offD
    dsimp only
    rw [if_pos rfl,if_pos rfl]
    rw [if_pos rfl]
    rw [← hd,← he,← hm,← hm2,← hq,← hl,← hz]
    rw [if_neg cO]
    rw [if_neg cL]
    all_goals rfl
  have hfin:=Lib.hid hfin
  have w1 : wrap64 (xo - no) = d:=by unfold wrap64;omega
  have w1c : xo - no = d:=hd.symm
  have w2 : wrap64 (xl - nl) = e:=by unfold wrap64;omega
  have w2c : xl - nl = e:=he.symm
  have cO' : (m != 0) = true:=bne_iff_ne.2 cO
  have w3 : wrap64 (d - m) = q:=by unfold wrap64;omega
  have w3c : d - m = q:=hq.symm
  have lO:=numL_le9 (n:=m.toNat) (by omega)
  have cL' : (m2 != 0) = true:=bne_iff_ne.2 cL
  have w4 : wrap64 (e - m2) = l:=by unfold wrap64;omega
  have w4c : e - m2 = l:=hl.symm
  have lL:=numL_le9 (n:=zig m2) (zig_in (by omega) (by omega))
  obtain ⟨r,hr⟩ : ∃ r : Int,r = q / 4:=⟨_,rfl⟩
  have w5 : q.tdiv 4 = r:=by rw [Int.tdiv_eq_ediv_of_nonneg (by omega)];exact hr.symm
  have w5b : wrap64 r = r:=by unfold wrap64;omega
  obtain ⟨s,hsv⟩ : ∃ s : Int,s = r * 16:=⟨_,rfl⟩
  have w6 : wrap64 (r * 16) = s:=by unfold wrap64;omega
  have w6c : r * 16 = s:=hsv.symm
  obtain ⟨t,ht⟩ : ∃ t : Int,t = 64 + s:=⟨_,rfl⟩
  have w7 : wrap64 (64 + s) = t:=by unfold wrap64;omega
  have w7c : 64 + s = t:=ht.symm
  obtain ⟨u,hu⟩ : ∃ u : Int,u = t + l:=⟨_,rfl⟩
  have w8 : wrap64 (t + l) = u:=by unfold wrap64;omega
  have w8c : t + l = u:=hu.symm
  have w9 : wrap64 (u - -4) = z:=by unfold wrap64;omega
  have w9b : wrap64 (u + 4) = z:=by unfold wrap64;omega
  have w9c : u + 4 = z:=by omega
  have w9d : u - -4 = z:=by omega
  have hz0 : 0 ≤ z:=by omega
  have hz1 : z < 256:=by omega
  have w10 : z % 256 = z:=by omega
  clear hd he hm hm2 hq hl hz hr hsv ht hu
  have hlt:=h.lt
  have hE : EnvE ((w.alloc (.cells #[.int .i64 ns,.int .i64 no,.int .i64 nf,.int .i64 nl] 48)).alloc (.cells #[.int .i64 ns,.int .i64 xo,.int .i64 nf,.int .i64 xl] 48)) g ob w.heap.size ⟨ns,no,nf,nl⟩ ⟨ns,xo,nf,xl⟩:=by
    refine ⟨(lineB_new w ⟨ns,no,nf,nl⟩).alloc _,?_,fun e=>by have:=(hlt.2 _ e).2;omega,fun e=>by have:=(hlt.2 _ e).2;omega,by omega,by omega⟩
    have:=lineB_new (w.alloc (.cells #[.int .i64 ns,.int .i64 no,.int .i64 nf,.int .i64 nl] 48)) ⟨ns,xo,nf,xl⟩
    rwa [World.size_alloc] at this
  have hS : Wst w ((w.alloc (.cells #[.int .i64 ns,.int .i64 no,.int .i64 nf,.int .i64 nl] 48)).alloc (.cells #[.int .i64 ns,.int .i64 xo,.int .i64 nf,.int .i64 xl] 48)) g ob ob:=((Wst.refl w g ob).alloc _).alloc _
  have hW:=Lib.hid ((h.alloc (.cells #[.int .i64 ns,.int .i64 no,.int .i64 nf,.int .i64 nl] 48)).alloc (.cells #[.int .i64 ns,.int .i64 xo,.int .i64 nf,.int .i64 xl] 48))
  obtain ⟨a0,a1,a2,a3⟩:=hE.now.cells
  obtain ⟨n0,n1,n2,n3⟩:=hE.next.cells
  dsimp only at a0 a1 a2 a3 n0 n1 n2 n3
  have hcall:=fun u hu=>bytes1_c (hW.out.alloc (.cells #[u] 5)) (new_at2 _ _ _ u) hu (Nat.le_trans hbase (Nat.le_trans hS.size (by simp))) (by omega)
  clear h
  go_enter Tryz.func102,Tryz.ntmps102
  go_wp2_with (first
      | (go_at_call 76;refine (hcall _ rfl).mono ?_;rintro e w1 ⟨rfl,ob1,hW1,hS1⟩;have hE':=(hE.alloc _).step hS1;have hS':=(hS.alloc _).trans hS1;clear hE hS hW;have hE:=hE';have hS:=hS';clear hE' hS';have hW:=Lib.hid hW1;clear hW1 hS1 a0 a1 a2 a3 n0 n1 n2 n3;obtain ⟨a0,a1,a2,a3⟩:=hE.now.cells;obtain ⟨n0,n1,n2,n3⟩:=hE.next.cells;dsimp only at a0 a1 a2 a3 n0 n1 n2 n3;clear hcall;have hcall:=fun u hu=>bytes1_c (hW.out.alloc (.cells #[u] 5)) (new_cell w1 #[u] 5 0 u rfl) hu (Nat.le_trans hbase (Nat.le_trans hS.size (by simp))) (by first | omega | (simp [byL];omega)))
      | (go_at_call 170;refine (number_i hW.out (Nat.le_trans hbase hS.size) (by simp [byL];omega) (by omega) (by omega)).mono ?_;rintro e w1 ⟨rfl,ob1,hW1,hS1⟩;have hE':=hE.step hS1;have hS':=hS.trans hS1;clear hE hS hW;have hE:=hE';have hS:=hS';clear hE' hS';have hW:=Lib.hid hW1;clear hW1 hS1 a0 a1 a2 a3 n0 n1 n2 n3;obtain ⟨a0,a1,a2,a3⟩:=hE.now.cells;obtain ⟨n0,n1,n2,n3⟩:=hE.next.cells;dsimp only at a0 a1 a2 a3 n0 n1 n2 n3;clear hcall;have hcall:=fun u hu=>bytes1_c (hW.out.alloc (.cells #[u] 5)) (new_cell w1 #[u] 5 0 u rfl) hu (Nat.le_trans hbase (Nat.le_trans hS.size (by simp))) (by first | omega | (simp [byL];omega)))
      | (go_at_call 171;refine (signed_c hW.out (Nat.le_trans hbase hS.size) (by simp [byL];omega) (by omega) (by omega)).mono ?_;rintro e w1 ⟨rfl,ob1,hW1,hS1⟩;have hE':=hE.step hS1;have hS':=hS.trans hS1;clear hE hS hW;have hE:=hE';have hS:=hS';clear hE' hS';have hW:=Lib.hid hW1;clear hW1 hS1 a0 a1 a2 a3 n0 n1 n2 n3;obtain ⟨a0,a1,a2,a3⟩:=hE.now.cells;obtain ⟨n0,n1,n2,n3⟩:=hE.next.cells;dsimp only at a0 a1 a2 a3 n0 n1 n2 n3;clear hcall;have hcall:=fun u hu=>bytes1_c (hW.out.alloc (.cells #[u] 5)) (new_cell w1 #[u] 5 0 u rfl) hu (Nat.le_trans hbase (Nat.le_trans hS.size (by simp))) (by first | omega | (simp [byL];omega)))
      | (go_at_call 189;refine (hof _).mono ?_;rintro e w1 ⟨rfl,rfl⟩)
      | (go_at_call 190;refine (hli _).mono ?_;rintro e w1 ⟨rfl,rfl⟩))
  refine bodyPost_ret (results_none rfl _ _ _) rfl ?_
  refine ⟨rfl,_,?_,hS⟩
  rw [hfin.out]
  simpa [byL] using hW.out
set_option maxRecDepth 100000 in
set_option maxHeartbeats 2000000 in
theorem entry_nynn {w : World} {base g : Nat} {ob : Option Nat} {P : List Value} {ns no nf nl xo xf xl : Int} (h : WrS w base g ob P) (hbase : base ≤ w.heap.size) (hn : P.length ≤ 4000000) (hr1 : RngOk ⟨ns,no,nf,nl⟩) (hr2 : RngOk ⟨ns,xo,xf,xl⟩)
    (ho : no ≤ xo) (cF : xf ≠ nf) (cO : offB (xo - no) = 0) (cL : lineB (xl - nl) = 0) :
    Calls Tryz.prog 102 #[.pointer (some ⟨g,0,none⟩),.agg #[.int .i64 ns,.int .i64 no,.int .i64 nf,.int .i64 nl],.agg #[.int .i64 ns,.int .i64 xo,.int .i64 xf,.int .i64 xl]] w (WrR base g ob (P ++ byL (entryL ⟨ns,no,nf,nl⟩ ⟨ns,xo,xf,xl⟩)) w):=by
  unfold RngOk at hr1 hr2
  dsimp only at hr1 hr2
  obtain ⟨d,hd⟩ : ∃ d : Int,d = xo - no:=⟨_,rfl⟩
  obtain ⟨e,he⟩ : ∃ e : Int,e = xl - nl:=⟨_,rfl⟩
  obtain ⟨m,hm⟩ : ∃ m : Int,m = offB d:=⟨_,rfl⟩
  obtain ⟨m2,hm2⟩ : ∃ m2 : Int,m2 = lineB e:=⟨_,rfl⟩
  have hdi:=offB_in (d:=d) (by omega) (by omega)
  have hei:=lineB_in (d:=e) (by omega) (by omega)
  have hof:=fun W=>offB_c (w:=W) (d:=d) (by omega) (by omega)
  have hli:=fun W=>lineB_c (w:=W) (d:=e) (by omega) (by omega)
  rw [← hd,← hm] at cO
  rw [← he,← hm2] at cL
  rw [← hm] at hdi hof
  rw [← hm2] at hei hli
  obtain ⟨q,hq⟩ : ∃ q : Int,q = d - m:=⟨_,rfl⟩
  obtain ⟨l,hl⟩ : ∃ l : Int,l = e - m2:=⟨_,rfl⟩
  obtain ⟨z,hz⟩ : ∃ z : Int,z = 64 + q / 4 * 16 + l + 4:=⟨_,rfl⟩
  have hfin : entryL ⟨ns,no,nf,nl⟩ ⟨ns,xo,xf,xl⟩ = (3 :: numL xf.toNat) ++ ([z]):=by
    unfold entryL secP fileP offP lineP lastP offD
    dsimp only
    rw [if_pos rfl,if_pos rfl]
    rw [if_neg cF]
    rw [← hd,← he,← hm,← hm2,← hq,← hl,← hz]
    rw [if_pos cO]
    rw [if_pos cL]
    all_goals rfl
  have hfin:=Lib.hid hfin
  have w1 : wrap64 (xo - no) = d:=by unfold wrap64;omega
  have w1c : xo - no = d:=hd.symm
  have cF' : (xf != nf) = true:=bne_iff_ne.2 cF
  have lF:=numL_le9 (n:=xf.toNat) (by omega)
  have w2 : wrap64 (xl - nl) = e:=by unfold wrap64;omega
  have w2c : xl - nl = e:=he.symm
  obtain rfl : q = d:=by omega
  subst cO
  obtain rfl : l = e:=by omega
  subst cL
  obtain ⟨r,hr⟩ : ∃ r : Int,r = q / 4:=⟨_,rfl⟩
  have w5 : q.tdiv 4 = r:=by rw [Int.tdiv_eq_ediv_of_nonneg (by omega)];exact hr.symm
  have w5b : wrap64 r = r:=by unfold wrap64;omega
  obtain ⟨s,hsv⟩ : ∃ s : Int,s = r * 16:=⟨_,rfl⟩
  have w6 : wrap64 (r * 16) = s:=by unfold wrap64;omega
  have w6c : r * 16 = s:=hsv.symm
  obtain ⟨t,ht⟩ : ∃ t : Int,t = 64 + s:=⟨_,rfl⟩
  have w7 : wrap64 (64 + s) = t:=by unfold wrap64;omega
  have w7c : 64 + s = t:=ht.symm
  obtain ⟨u,hu⟩ : ∃ u : Int,u = t + l:=⟨_,rfl⟩
  have w8 : wrap64 (t + l) = u:=by unfold wrap64;omega
  have w8c : t + l = u:=hu.symm
  have w9 : wrap64 (u - -4) = z:=by unfold wrap64;omega
  have w9b : wrap64 (u + 4) = z:=by unfold wrap64;omega
  have w9c : u + 4 = z:=by omega
  have w9d : u - -4 = z:=by omega
  have hz0 : 0 ≤ z:=by omega
  have hz1 : z < 256:=by omega
  have w10 : z % 256 = z:=by omega
  clear hd he hm hm2 hq hl hz hr hsv ht hu
  have hlt:=h.lt
  have hE : EnvE ((w.alloc (.cells #[.int .i64 ns,.int .i64 no,.int .i64 nf,.int .i64 nl] 48)).alloc (.cells #[.int .i64 ns,.int .i64 xo,.int .i64 xf,.int .i64 xl] 48)) g ob w.heap.size ⟨ns,no,nf,nl⟩ ⟨ns,xo,xf,xl⟩:=by
    refine ⟨(lineB_new w ⟨ns,no,nf,nl⟩).alloc _,?_,fun e=>by have:=(hlt.2 _ e).2;omega,fun e=>by have:=(hlt.2 _ e).2;omega,by omega,by omega⟩
    have:=lineB_new (w.alloc (.cells #[.int .i64 ns,.int .i64 no,.int .i64 nf,.int .i64 nl] 48)) ⟨ns,xo,xf,xl⟩
    rwa [World.size_alloc] at this
  have hS : Wst w ((w.alloc (.cells #[.int .i64 ns,.int .i64 no,.int .i64 nf,.int .i64 nl] 48)).alloc (.cells #[.int .i64 ns,.int .i64 xo,.int .i64 xf,.int .i64 xl] 48)) g ob ob:=((Wst.refl w g ob).alloc _).alloc _
  have hW:=Lib.hid ((h.alloc (.cells #[.int .i64 ns,.int .i64 no,.int .i64 nf,.int .i64 nl] 48)).alloc (.cells #[.int .i64 ns,.int .i64 xo,.int .i64 xf,.int .i64 xl] 48))
  obtain ⟨a0,a1,a2,a3⟩:=hE.now.cells
  obtain ⟨n0,n1,n2,n3⟩:=hE.next.cells
  dsimp only at a0 a1 a2 a3 n0 n1 n2 n3
  have hcall:=fun u hu=>bytes1_c (hW.out.alloc (.cells #[u] 5)) (new_at2 _ _ _ u) hu (Nat.le_trans hbase (Nat.le_trans hS.size (by simp))) (by omega)
  clear h
  go_enter Tryz.func102,Tryz.ntmps102
  go_wp2_with (first
      | (go_at_call 76;refine (hcall _ rfl).mono ?_;rintro e w1 ⟨rfl,ob1,hW1,hS1⟩;have hE':=(hE.alloc _).step hS1;have hS':=(hS.alloc _).trans hS1;clear hE hS hW;have hE:=hE';have hS:=hS';clear hE' hS';have hW:=Lib.hid hW1;clear hW1 hS1 a0 a1 a2 a3 n0 n1 n2 n3;obtain ⟨a0,a1,a2,a3⟩:=hE.now.cells;obtain ⟨n0,n1,n2,n3⟩:=hE.next.cells;dsimp only at a0 a1 a2 a3 n0 n1 n2 n3;clear hcall;have hcall:=fun u hu=>bytes1_c (hW.out.alloc (.cells #[u] 5)) (new_cell w1 #[u] 5 0 u rfl) hu (Nat.le_trans hbase (Nat.le_trans hS.size (by simp))) (by first | omega | (simp [byL];omega)))
      | (go_at_call 170;refine (number_i hW.out (Nat.le_trans hbase hS.size) (by simp [byL];omega) (by omega) (by omega)).mono ?_;rintro e w1 ⟨rfl,ob1,hW1,hS1⟩;have hE':=hE.step hS1;have hS':=hS.trans hS1;clear hE hS hW;have hE:=hE';have hS:=hS';clear hE' hS';have hW:=Lib.hid hW1;clear hW1 hS1 a0 a1 a2 a3 n0 n1 n2 n3;obtain ⟨a0,a1,a2,a3⟩:=hE.now.cells;obtain ⟨n0,n1,n2,n3⟩:=hE.next.cells;dsimp only at a0 a1 a2 a3 n0 n1 n2 n3;clear hcall;have hcall:=fun u hu=>bytes1_c (hW.out.alloc (.cells #[u] 5)) (new_cell w1 #[u] 5 0 u rfl) hu (Nat.le_trans hbase (Nat.le_trans hS.size (by simp))) (by first | omega | (simp [byL];omega)))
      | (go_at_call 171;refine (signed_c hW.out (Nat.le_trans hbase hS.size) (by simp [byL];omega) (by omega) (by omega)).mono ?_;rintro e w1 ⟨rfl,ob1,hW1,hS1⟩;have hE':=hE.step hS1;have hS':=hS.trans hS1;clear hE hS hW;have hE:=hE';have hS:=hS';clear hE' hS';have hW:=Lib.hid hW1;clear hW1 hS1 a0 a1 a2 a3 n0 n1 n2 n3;obtain ⟨a0,a1,a2,a3⟩:=hE.now.cells;obtain ⟨n0,n1,n2,n3⟩:=hE.next.cells;dsimp only at a0 a1 a2 a3 n0 n1 n2 n3;clear hcall;have hcall:=fun u hu=>bytes1_c (hW.out.alloc (.cells #[u] 5)) (new_cell w1 #[u] 5 0 u rfl) hu (Nat.le_trans hbase (Nat.le_trans hS.size (by simp))) (by first | omega | (simp [byL];omega)))
      | (go_at_call 189;refine (hof _).mono ?_;rintro e w1 ⟨rfl,rfl⟩)
      | (go_at_call 190;refine (hli _).mono ?_;rintro e w1 ⟨rfl,rfl⟩))
  refine bodyPost_ret (results_none rfl _ _ _) rfl ?_
  refine ⟨rfl,_,?_,hS⟩
  rw [hfin.out]
  simpa [byL] using hW.out
set_option maxRecDepth 100000 in
set_option maxHeartbeats 2000000 in
theorem entry_nyny {w : World} {base g : Nat} {ob : Option Nat} {P : List Value} {ns no nf nl xo xf xl : Int} (h : WrS w base g ob P) (hbase : base ≤ w.heap.size) (hn : P.length ≤ 4000000) (hr1 : RngOk ⟨ns,no,nf,nl⟩) (hr2 : RngOk ⟨ns,xo,xf,xl⟩)
    (ho : no ≤ xo) (cF : xf ≠ nf) (cO : offB (xo - no) = 0) (cL : lineB (xl - nl) ≠ 0) :
    Calls Tryz.prog 102 #[.pointer (some ⟨g,0,none⟩),.agg #[.int .i64 ns,.int .i64 no,.int .i64 nf,.int .i64 nl],.agg #[.int .i64 ns,.int .i64 xo,.int .i64 xf,.int .i64 xl]] w (WrR base g ob (P ++ byL (entryL ⟨ns,no,nf,nl⟩ ⟨ns,xo,xf,xl⟩)) w):=by
  unfold RngOk at hr1 hr2
  dsimp only at hr1 hr2
  obtain ⟨d,hd⟩ : ∃ d : Int,d = xo - no:=⟨_,rfl⟩
  obtain ⟨e,he⟩ : ∃ e : Int,e = xl - nl:=⟨_,rfl⟩
  obtain ⟨m,hm⟩ : ∃ m : Int,m = offB d:=⟨_,rfl⟩
  obtain ⟨m2,hm2⟩ : ∃ m2 : Int,m2 = lineB e:=⟨_,rfl⟩
  have hdi:=offB_in (d:=d) (by omega) (by omega)
  have hei:=lineB_in (d:=e) (by omega) (by omega)
  have hof:=fun W=>offB_c (w:=W) (d:=d) (by omega) (by omega)
  have hli:=fun W=>lineB_c (w:=W) (d:=e) (by omega) (by omega)
  rw [← hd,← hm] at cO
  rw [← he,← hm2] at cL
  rw [← hm] at hdi hof
  rw [← hm2] at hei hli
  obtain ⟨q,hq⟩ : ∃ q : Int,q = d - m:=⟨_,rfl⟩
  obtain ⟨l,hl⟩ : ∃ l : Int,l = e - m2:=⟨_,rfl⟩
  obtain ⟨z,hz⟩ : ∃ z : Int,z = 64 + q / 4 * 16 + l + 4:=⟨_,rfl⟩
  have hfin : entryL ⟨ns,no,nf,nl⟩ ⟨ns,xo,xf,xl⟩ = (3 :: numL xf.toNat) ++ ((2 :: numL (zig m2)) ++ ([z])):=by
    unfold entryL secP fileP offP lineP lastP offD
    dsimp only
    rw [if_pos rfl,if_pos rfl]
    rw [if_neg cF]
    rw [← hd,← he,← hm,← hm2,← hq,← hl,← hz]
    rw [if_pos cO]
    rw [if_neg cL]
    all_goals rfl
  have hfin:=Lib.hid hfin
  have w1 : wrap64 (xo - no) = d:=by unfold wrap64;omega
  have w1c : xo - no = d:=hd.symm
  have cF' : (xf != nf) = true:=bne_iff_ne.2 cF
  have lF:=numL_le9 (n:=xf.toNat) (by omega)
  have w2 : wrap64 (xl - nl) = e:=by unfold wrap64;omega
  have w2c : xl - nl = e:=he.symm
  have cL' : (m2 != 0) = true:=bne_iff_ne.2 cL
  have w4 : wrap64 (e - m2) = l:=by unfold wrap64;omega
  have w4c : e - m2 = l:=hl.symm
  have lL:=numL_le9 (n:=zig m2) (zig_in (by omega) (by omega))
  obtain rfl : q = d:=by omega
  subst cO
  obtain ⟨r,hr⟩ : ∃ r : Int,r = q / 4:=⟨_,rfl⟩
  have w5 : q.tdiv 4 = r:=by rw [Int.tdiv_eq_ediv_of_nonneg (by omega)];exact hr.symm
  have w5b : wrap64 r = r:=by unfold wrap64;omega
  obtain ⟨s,hsv⟩ : ∃ s : Int,s = r * 16:=⟨_,rfl⟩
  have w6 : wrap64 (r * 16) = s:=by unfold wrap64;omega
  have w6c : r * 16 = s:=hsv.symm
  obtain ⟨t,ht⟩ : ∃ t : Int,t = 64 + s:=⟨_,rfl⟩
  have w7 : wrap64 (64 + s) = t:=by unfold wrap64;omega
  have w7c : 64 + s = t:=ht.symm
  obtain ⟨u,hu⟩ : ∃ u : Int,u = t + l:=⟨_,rfl⟩
  have w8 : wrap64 (t + l) = u:=by unfold wrap64;omega
  have w8c : t + l = u:=hu.symm
  have w9 : wrap64 (u - -4) = z:=by unfold wrap64;omega
  have w9b : wrap64 (u + 4) = z:=by unfold wrap64;omega
  have w9c : u + 4 = z:=by omega
  have w9d : u - -4 = z:=by omega
  have hz0 : 0 ≤ z:=by omega
  have hz1 : z < 256:=by omega
  have w10 : z % 256 = z:=by omega
  clear hd he hm hm2 hq hl hz hr hsv ht hu
  have hlt:=h.lt
  have hE : EnvE ((w.alloc (.cells #[.int .i64 ns,.int .i64 no,.int .i64 nf,.int .i64 nl] 48)).alloc (.cells #[.int .i64 ns,.int .i64 xo,.int .i64 xf,.int .i64 xl] 48)) g ob w.heap.size ⟨ns,no,nf,nl⟩ ⟨ns,xo,xf,xl⟩:=by
    refine ⟨(lineB_new w ⟨ns,no,nf,nl⟩).alloc _,?_,fun e=>by have:=(hlt.2 _ e).2;omega,fun e=>by have:=(hlt.2 _ e).2;omega,by omega,by omega⟩
    have:=lineB_new (w.alloc (.cells #[.int .i64 ns,.int .i64 no,.int .i64 nf,.int .i64 nl] 48)) ⟨ns,xo,xf,xl⟩
    rwa [World.size_alloc] at this
  have hS : Wst w ((w.alloc (.cells #[.int .i64 ns,.int .i64 no,.int .i64 nf,.int .i64 nl] 48)).alloc (.cells #[.int .i64 ns,.int .i64 xo,.int .i64 xf,.int .i64 xl] 48)) g ob ob:=((Wst.refl w g ob).alloc _).alloc _
  have hW:=Lib.hid ((h.alloc (.cells #[.int .i64 ns,.int .i64 no,.int .i64 nf,.int .i64 nl] 48)).alloc (.cells #[.int .i64 ns,.int .i64 xo,.int .i64 xf,.int .i64 xl] 48))
  obtain ⟨a0,a1,a2,a3⟩:=hE.now.cells
  obtain ⟨n0,n1,n2,n3⟩:=hE.next.cells
  dsimp only at a0 a1 a2 a3 n0 n1 n2 n3
  have hcall:=fun u hu=>bytes1_c (hW.out.alloc (.cells #[u] 5)) (new_at2 _ _ _ u) hu (Nat.le_trans hbase (Nat.le_trans hS.size (by simp))) (by omega)
  clear h
  go_enter Tryz.func102,Tryz.ntmps102
  go_wp2_with (first
      | (go_at_call 76;refine (hcall _ rfl).mono ?_;rintro e w1 ⟨rfl,ob1,hW1,hS1⟩;have hE':=(hE.alloc _).step hS1;have hS':=(hS.alloc _).trans hS1;clear hE hS hW;have hE:=hE';have hS:=hS';clear hE' hS';have hW:=Lib.hid hW1;clear hW1 hS1 a0 a1 a2 a3 n0 n1 n2 n3;obtain ⟨a0,a1,a2,a3⟩:=hE.now.cells;obtain ⟨n0,n1,n2,n3⟩:=hE.next.cells;dsimp only at a0 a1 a2 a3 n0 n1 n2 n3;clear hcall;have hcall:=fun u hu=>bytes1_c (hW.out.alloc (.cells #[u] 5)) (new_cell w1 #[u] 5 0 u rfl) hu (Nat.le_trans hbase (Nat.le_trans hS.size (by simp))) (by first | omega | (simp [byL];omega)))
      | (go_at_call 170;refine (number_i hW.out (Nat.le_trans hbase hS.size) (by simp [byL];omega) (by omega) (by omega)).mono ?_;rintro e w1 ⟨rfl,ob1,hW1,hS1⟩;have hE':=hE.step hS1;have hS':=hS.trans hS1;clear hE hS hW;have hE:=hE';have hS:=hS';clear hE' hS';have hW:=Lib.hid hW1;clear hW1 hS1 a0 a1 a2 a3 n0 n1 n2 n3;obtain ⟨a0,a1,a2,a3⟩:=hE.now.cells;obtain ⟨n0,n1,n2,n3⟩:=hE.next.cells;dsimp only at a0 a1 a2 a3 n0 n1 n2 n3;clear hcall;have hcall:=fun u hu=>bytes1_c (hW.out.alloc (.cells #[u] 5)) (new_cell w1 #[u] 5 0 u rfl) hu (Nat.le_trans hbase (Nat.le_trans hS.size (by simp))) (by first | omega | (simp [byL];omega)))
      | (go_at_call 171;refine (signed_c hW.out (Nat.le_trans hbase hS.size) (by simp [byL];omega) (by omega) (by omega)).mono ?_;rintro e w1 ⟨rfl,ob1,hW1,hS1⟩;have hE':=hE.step hS1;have hS':=hS.trans hS1;clear hE hS hW;have hE:=hE';have hS:=hS';clear hE' hS';have hW:=Lib.hid hW1;clear hW1 hS1 a0 a1 a2 a3 n0 n1 n2 n3;obtain ⟨a0,a1,a2,a3⟩:=hE.now.cells;obtain ⟨n0,n1,n2,n3⟩:=hE.next.cells;dsimp only at a0 a1 a2 a3 n0 n1 n2 n3;clear hcall;have hcall:=fun u hu=>bytes1_c (hW.out.alloc (.cells #[u] 5)) (new_cell w1 #[u] 5 0 u rfl) hu (Nat.le_trans hbase (Nat.le_trans hS.size (by simp))) (by first | omega | (simp [byL];omega)))
      | (go_at_call 189;refine (hof _).mono ?_;rintro e w1 ⟨rfl,rfl⟩)
      | (go_at_call 190;refine (hli _).mono ?_;rintro e w1 ⟨rfl,rfl⟩))
  refine bodyPost_ret (results_none rfl _ _ _) rfl ?_
  refine ⟨rfl,_,?_,hS⟩
  rw [hfin.out]
  simpa [byL] using hW.out
set_option maxRecDepth 100000 in
set_option maxHeartbeats 2000000 in
theorem entry_nyyn {w : World} {base g : Nat} {ob : Option Nat} {P : List Value} {ns no nf nl xo xf xl : Int} (h : WrS w base g ob P) (hbase : base ≤ w.heap.size) (hn : P.length ≤ 4000000) (hr1 : RngOk ⟨ns,no,nf,nl⟩) (hr2 : RngOk ⟨ns,xo,xf,xl⟩)
    (ho : no ≤ xo) (cF : xf ≠ nf) (cO : offB (xo - no) ≠ 0) (cL : lineB (xl - nl) = 0) :
    Calls Tryz.prog 102 #[.pointer (some ⟨g,0,none⟩),.agg #[.int .i64 ns,.int .i64 no,.int .i64 nf,.int .i64 nl],.agg #[.int .i64 ns,.int .i64 xo,.int .i64 xf,.int .i64 xl]] w (WrR base g ob (P ++ byL (entryL ⟨ns,no,nf,nl⟩ ⟨ns,xo,xf,xl⟩)) w):=by
  unfold RngOk at hr1 hr2
  dsimp only at hr1 hr2
  obtain ⟨d,hd⟩ : ∃ d : Int,d = xo - no:=⟨_,rfl⟩
  obtain ⟨e,he⟩ : ∃ e : Int,e = xl - nl:=⟨_,rfl⟩
  obtain ⟨m,hm⟩ : ∃ m : Int,m = offB d:=⟨_,rfl⟩
  obtain ⟨m2,hm2⟩ : ∃ m2 : Int,m2 = lineB e:=⟨_,rfl⟩
  have hdi:=offB_in (d:=d) (by omega) (by omega)
  have hei:=lineB_in (d:=e) (by omega) (by omega)
  have hof:=fun W=>offB_c (w:=W) (d:=d) (by omega) (by omega)
  have hli:=fun W=>lineB_c (w:=W) (d:=e) (by omega) (by omega)
  rw [← hd,← hm] at cO
  rw [← he,← hm2] at cL
  rw [← hm] at hdi hof
  rw [← hm2] at hei hli
  obtain ⟨q,hq⟩ : ∃ q : Int,q = d - m:=⟨_,rfl⟩
  obtain ⟨l,hl⟩ : ∃ l : Int,l = e - m2:=⟨_,rfl⟩
  obtain ⟨z,hz⟩ : ∃ z : Int,z = 64 + q / 4 * 16 + l + 4:=⟨_,rfl⟩
  have hfin : entryL ⟨ns,no,nf,nl⟩ ⟨ns,xo,xf,xl⟩ = (3 :: numL xf.toNat) ++ ((1 :: numL m.toNat) ++ ([z])):=by
    unfold entryL secP fileP offP lineP lastP offD
    dsimp only
    rw [if_pos rfl,if_pos rfl]
    rw [if_neg cF]
    rw [← hd,← he,← hm,← hm2,← hq,← hl,← hz]
    rw [if_neg cO]
    rw [if_pos cL]
    all_goals rfl
  have hfin:=Lib.hid hfin
  have w1 : wrap64 (xo - no) = d:=by unfold wrap64;omega
  have w1c : xo - no = d:=hd.symm
  have cF' : (xf != nf) = true:=bne_iff_ne.2 cF
  have lF:=numL_le9 (n:=xf.toNat) (by omega)
  have w2 : wrap64 (xl - nl) = e:=by unfold wrap64;omega
  have w2c : xl - nl = e:=he.symm
  have cO' : (m != 0) = true:=bne_iff_ne.2 cO
  have w3 : wrap64 (d - m) = q:=by unfold wrap64;omega
  have w3c : d - m = q:=hq.symm
  have lO:=numL_le9 (n:=m.toNat) (by omega)
  obtain rfl : l = e:=by omega
  subst cL
  obtain ⟨r,hr⟩ : ∃ r : Int,r = q / 4:=⟨_,rfl⟩
  have w5 : q.tdiv 4 = r:=by rw [Int.tdiv_eq_ediv_of_nonneg (by omega)];exact hr.symm
  have w5b : wrap64 r = r:=by unfold wrap64;omega
  obtain ⟨s,hsv⟩ : ∃ s : Int,s = r * 16:=⟨_,rfl⟩
  have w6 : wrap64 (r * 16) = s:=by unfold wrap64;omega
  have w6c : r * 16 = s:=hsv.symm
  obtain ⟨t,ht⟩ : ∃ t : Int,t = 64 + s:=⟨_,rfl⟩
  have w7 : wrap64 (64 + s) = t:=by unfold wrap64;omega
  have w7c : 64 + s = t:=ht.symm
  obtain ⟨u,hu⟩ : ∃ u : Int,u = t + l:=⟨_,rfl⟩
  have w8 : wrap64 (t + l) = u:=by unfold wrap64;omega
  have w8c : t + l = u:=hu.symm
  have w9 : wrap64 (u - -4) = z:=by unfold wrap64;omega
  have w9b : wrap64 (u + 4) = z:=by unfold wrap64;omega
  have w9c : u + 4 = z:=by omega
  have w9d : u - -4 = z:=by omega
  have hz0 : 0 ≤ z:=by omega
  have hz1 : z < 256:=by omega
  have w10 : z % 256 = z:=by omega
  clear hd he hm hm2 hq hl hz hr hsv ht hu
  have hlt:=h.lt
  have hE : EnvE ((w.alloc (.cells #[.int .i64 ns,.int .i64 no,.int .i64 nf,.int .i64 nl] 48)).alloc (.cells #[.int .i64 ns,.int .i64 xo,.int .i64 xf,.int .i64 xl] 48)) g ob w.heap.size ⟨ns,no,nf,nl⟩ ⟨ns,xo,xf,xl⟩:=by
    refine ⟨(lineB_new w ⟨ns,no,nf,nl⟩).alloc _,?_,fun e=>by have:=(hlt.2 _ e).2;omega,fun e=>by have:=(hlt.2 _ e).2;omega,by omega,by omega⟩
    have:=lineB_new (w.alloc (.cells #[.int .i64 ns,.int .i64 no,.int .i64 nf,.int .i64 nl] 48)) ⟨ns,xo,xf,xl⟩
    rwa [World.size_alloc] at this
  have hS : Wst w ((w.alloc (.cells #[.int .i64 ns,.int .i64 no,.int .i64 nf,.int .i64 nl] 48)).alloc (.cells #[.int .i64 ns,.int .i64 xo,.int .i64 xf,.int .i64 xl] 48)) g ob ob:=((Wst.refl w g ob).alloc _).alloc _
  have hW:=Lib.hid ((h.alloc (.cells #[.int .i64 ns,.int .i64 no,.int .i64 nf,.int .i64 nl] 48)).alloc (.cells #[.int .i64 ns,.int .i64 xo,.int .i64 xf,.int .i64 xl] 48))
  obtain ⟨a0,a1,a2,a3⟩:=hE.now.cells
  obtain ⟨n0,n1,n2,n3⟩:=hE.next.cells
  dsimp only at a0 a1 a2 a3 n0 n1 n2 n3
  have hcall:=fun u hu=>bytes1_c (hW.out.alloc (.cells #[u] 5)) (new_at2 _ _ _ u) hu (Nat.le_trans hbase (Nat.le_trans hS.size (by simp))) (by omega)
  clear h
  go_enter Tryz.func102,Tryz.ntmps102
  go_wp2_with (first
      | (go_at_call 76;refine (hcall _ rfl).mono ?_;rintro e w1 ⟨rfl,ob1,hW1,hS1⟩;have hE':=(hE.alloc _).step hS1;have hS':=(hS.alloc _).trans hS1;clear hE hS hW;have hE:=hE';have hS:=hS';clear hE' hS';have hW:=Lib.hid hW1;clear hW1 hS1 a0 a1 a2 a3 n0 n1 n2 n3;obtain ⟨a0,a1,a2,a3⟩:=hE.now.cells;obtain ⟨n0,n1,n2,n3⟩:=hE.next.cells;dsimp only at a0 a1 a2 a3 n0 n1 n2 n3;clear hcall;have hcall:=fun u hu=>bytes1_c (hW.out.alloc (.cells #[u] 5)) (new_cell w1 #[u] 5 0 u rfl) hu (Nat.le_trans hbase (Nat.le_trans hS.size (by simp))) (by first | omega | (simp [byL];omega)))
      | (go_at_call 170;refine (number_i hW.out (Nat.le_trans hbase hS.size) (by simp [byL];omega) (by omega) (by omega)).mono ?_;rintro e w1 ⟨rfl,ob1,hW1,hS1⟩;have hE':=hE.step hS1;have hS':=hS.trans hS1;clear hE hS hW;have hE:=hE';have hS:=hS';clear hE' hS';have hW:=Lib.hid hW1;clear hW1 hS1 a0 a1 a2 a3 n0 n1 n2 n3;obtain ⟨a0,a1,a2,a3⟩:=hE.now.cells;obtain ⟨n0,n1,n2,n3⟩:=hE.next.cells;dsimp only at a0 a1 a2 a3 n0 n1 n2 n3;clear hcall;have hcall:=fun u hu=>bytes1_c (hW.out.alloc (.cells #[u] 5)) (new_cell w1 #[u] 5 0 u rfl) hu (Nat.le_trans hbase (Nat.le_trans hS.size (by simp))) (by first | omega | (simp [byL];omega)))
      | (go_at_call 171;refine (signed_c hW.out (Nat.le_trans hbase hS.size) (by simp [byL];omega) (by omega) (by omega)).mono ?_;rintro e w1 ⟨rfl,ob1,hW1,hS1⟩;have hE':=hE.step hS1;have hS':=hS.trans hS1;clear hE hS hW;have hE:=hE';have hS:=hS';clear hE' hS';have hW:=Lib.hid hW1;clear hW1 hS1 a0 a1 a2 a3 n0 n1 n2 n3;obtain ⟨a0,a1,a2,a3⟩:=hE.now.cells;obtain ⟨n0,n1,n2,n3⟩:=hE.next.cells;dsimp only at a0 a1 a2 a3 n0 n1 n2 n3;clear hcall;have hcall:=fun u hu=>bytes1_c (hW.out.alloc (.cells #[u] 5)) (new_cell w1 #[u] 5 0 u rfl) hu (Nat.le_trans hbase (Nat.le_trans hS.size (by simp))) (by first | omega | (simp [byL];omega)))
      | (go_at_call 189;refine (hof _).mono ?_;rintro e w1 ⟨rfl,rfl⟩)
      | (go_at_call 190;refine (hli _).mono ?_;rintro e w1 ⟨rfl,rfl⟩))
  refine bodyPost_ret (results_none rfl _ _ _) rfl ?_
  refine ⟨rfl,_,?_,hS⟩
  rw [hfin.out]
  simpa [byL] using hW.out
set_option maxRecDepth 100000 in
set_option maxHeartbeats 2000000 in
theorem entry_nyyy {w : World} {base g : Nat} {ob : Option Nat} {P : List Value} {ns no nf nl xo xf xl : Int} (h : WrS w base g ob P) (hbase : base ≤ w.heap.size) (hn : P.length ≤ 4000000) (hr1 : RngOk ⟨ns,no,nf,nl⟩) (hr2 : RngOk ⟨ns,xo,xf,xl⟩)
    (ho : no ≤ xo) (cF : xf ≠ nf) (cO : offB (xo - no) ≠ 0) (cL : lineB (xl - nl) ≠ 0) :
    Calls Tryz.prog 102 #[.pointer (some ⟨g,0,none⟩),.agg #[.int .i64 ns,.int .i64 no,.int .i64 nf,.int .i64 nl],.agg #[.int .i64 ns,.int .i64 xo,.int .i64 xf,.int .i64 xl]] w (WrR base g ob (P ++ byL (entryL ⟨ns,no,nf,nl⟩ ⟨ns,xo,xf,xl⟩)) w):=by
  unfold RngOk at hr1 hr2
  dsimp only at hr1 hr2
  obtain ⟨d,hd⟩ : ∃ d : Int,d = xo - no:=⟨_,rfl⟩
  obtain ⟨e,he⟩ : ∃ e : Int,e = xl - nl:=⟨_,rfl⟩
  obtain ⟨m,hm⟩ : ∃ m : Int,m = offB d:=⟨_,rfl⟩
  obtain ⟨m2,hm2⟩ : ∃ m2 : Int,m2 = lineB e:=⟨_,rfl⟩
  have hdi:=offB_in (d:=d) (by omega) (by omega)
  have hei:=lineB_in (d:=e) (by omega) (by omega)
  have hof:=fun W=>offB_c (w:=W) (d:=d) (by omega) (by omega)
  have hli:=fun W=>lineB_c (w:=W) (d:=e) (by omega) (by omega)
  rw [← hd,← hm] at cO
  rw [← he,← hm2] at cL
  rw [← hm] at hdi hof
  rw [← hm2] at hei hli
  obtain ⟨q,hq⟩ : ∃ q : Int,q = d - m:=⟨_,rfl⟩
  obtain ⟨l,hl⟩ : ∃ l : Int,l = e - m2:=⟨_,rfl⟩
  obtain ⟨z,hz⟩ : ∃ z : Int,z = 64 + q / 4 * 16 + l + 4:=⟨_,rfl⟩
  have hfin : entryL ⟨ns,no,nf,nl⟩ ⟨ns,xo,xf,xl⟩ = (3 :: numL xf.toNat) ++ ((1 :: numL m.toNat) ++ ((2 :: numL (zig m2)) ++ ([z]))):=by
    unfold entryL secP fileP offP lineP lastP offD
    dsimp only
    rw [if_pos rfl,if_pos rfl]
    rw [if_neg cF]
    rw [← hd,← he,← hm,← hm2,← hq,← hl,← hz]
    rw [if_neg cO]
    rw [if_neg cL]
    all_goals rfl
  have hfin:=Lib.hid hfin
  have w1 : wrap64 (xo - no) = d:=by unfold wrap64;omega
  have w1c : xo - no = d:=hd.symm
  have cF' : (xf != nf) = true:=bne_iff_ne.2 cF
  have lF:=numL_le9 (n:=xf.toNat) (by omega)
  have w2 : wrap64 (xl - nl) = e:=by unfold wrap64;omega
  have w2c : xl - nl = e:=he.symm
  have cO' : (m != 0) = true:=bne_iff_ne.2 cO
  have w3 : wrap64 (d - m) = q:=by unfold wrap64;omega
  have w3c : d - m = q:=hq.symm
  have lO:=numL_le9 (n:=m.toNat) (by omega)
  have cL' : (m2 != 0) = true:=bne_iff_ne.2 cL
  have w4 : wrap64 (e - m2) = l:=by unfold wrap64;omega
  have w4c : e - m2 = l:=hl.symm
  have lL:=numL_le9 (n:=zig m2) (zig_in (by omega) (by omega))
  obtain ⟨r,hr⟩ : ∃ r : Int,r = q / 4:=⟨_,rfl⟩
  have w5 : q.tdiv 4 = r:=by rw [Int.tdiv_eq_ediv_of_nonneg (by omega)];exact hr.symm
  have w5b : wrap64 r = r:=by unfold wrap64;omega
  obtain ⟨s,hsv⟩ : ∃ s : Int,s = r * 16:=⟨_,rfl⟩
  have w6 : wrap64 (r * 16) = s:=by unfold wrap64;omega
  have w6c : r * 16 = s:=hsv.symm
  obtain ⟨t,ht⟩ : ∃ t : Int,t = 64 + s:=⟨_,rfl⟩
  have w7 : wrap64 (64 + s) = t:=by unfold wrap64;omega
  have w7c : 64 + s = t:=ht.symm
  obtain ⟨u,hu⟩ : ∃ u : Int,u = t + l:=⟨_,rfl⟩
  have w8 : wrap64 (t + l) = u:=by unfold wrap64;omega
  have w8c : t + l = u:=hu.symm
  have w9 : wrap64 (u - -4) = z:=by unfold wrap64;omega
  have w9b : wrap64 (u + 4) = z:=by unfold wrap64;omega
  have w9c : u + 4 = z:=by omega
  have w9d : u - -4 = z:=by omega
  have hz0 : 0 ≤ z:=by omega
  have hz1 : z < 256:=by omega
  have w10 : z % 256 = z:=by omega
  clear hd he hm hm2 hq hl hz hr hsv ht hu
  have hlt:=h.lt
  have hE : EnvE ((w.alloc (.cells #[.int .i64 ns,.int .i64 no,.int .i64 nf,.int .i64 nl] 48)).alloc (.cells #[.int .i64 ns,.int .i64 xo,.int .i64 xf,.int .i64 xl] 48)) g ob w.heap.size ⟨ns,no,nf,nl⟩ ⟨ns,xo,xf,xl⟩:=by
    refine ⟨(lineB_new w ⟨ns,no,nf,nl⟩).alloc _,?_,fun e=>by have:=(hlt.2 _ e).2;omega,fun e=>by have:=(hlt.2 _ e).2;omega,by omega,by omega⟩
    have:=lineB_new (w.alloc (.cells #[.int .i64 ns,.int .i64 no,.int .i64 nf,.int .i64 nl] 48)) ⟨ns,xo,xf,xl⟩
    rwa [World.size_alloc] at this
  have hS : Wst w ((w.alloc (.cells #[.int .i64 ns,.int .i64 no,.int .i64 nf,.int .i64 nl] 48)).alloc (.cells #[.int .i64 ns,.int .i64 xo,.int .i64 xf,.int .i64 xl] 48)) g ob ob:=((Wst.refl w g ob).alloc _).alloc _
  have hW:=Lib.hid ((h.alloc (.cells #[.int .i64 ns,.int .i64 no,.int .i64 nf,.int .i64 nl] 48)).alloc (.cells #[.int .i64 ns,.int .i64 xo,.int .i64 xf,.int .i64 xl] 48))
  obtain ⟨a0,a1,a2,a3⟩:=hE.now.cells
  obtain ⟨n0,n1,n2,n3⟩:=hE.next.cells
  dsimp only at a0 a1 a2 a3 n0 n1 n2 n3
  have hcall:=fun u hu=>bytes1_c (hW.out.alloc (.cells #[u] 5)) (new_at2 _ _ _ u) hu (Nat.le_trans hbase (Nat.le_trans hS.size (by simp))) (by omega)
  clear h
  go_enter Tryz.func102,Tryz.ntmps102
  go_wp2_with (first
      | (go_at_call 76;refine (hcall _ rfl).mono ?_;rintro e w1 ⟨rfl,ob1,hW1,hS1⟩;have hE':=(hE.alloc _).step hS1;have hS':=(hS.alloc _).trans hS1;clear hE hS hW;have hE:=hE';have hS:=hS';clear hE' hS';have hW:=Lib.hid hW1;clear hW1 hS1 a0 a1 a2 a3 n0 n1 n2 n3;obtain ⟨a0,a1,a2,a3⟩:=hE.now.cells;obtain ⟨n0,n1,n2,n3⟩:=hE.next.cells;dsimp only at a0 a1 a2 a3 n0 n1 n2 n3;clear hcall;have hcall:=fun u hu=>bytes1_c (hW.out.alloc (.cells #[u] 5)) (new_cell w1 #[u] 5 0 u rfl) hu (Nat.le_trans hbase (Nat.le_trans hS.size (by simp))) (by first | omega | (simp [byL];omega)))
      | (go_at_call 170;refine (number_i hW.out (Nat.le_trans hbase hS.size) (by simp [byL];omega) (by omega) (by omega)).mono ?_;rintro e w1 ⟨rfl,ob1,hW1,hS1⟩;have hE':=hE.step hS1;have hS':=hS.trans hS1;clear hE hS hW;have hE:=hE';have hS:=hS';clear hE' hS';have hW:=Lib.hid hW1;clear hW1 hS1 a0 a1 a2 a3 n0 n1 n2 n3;obtain ⟨a0,a1,a2,a3⟩:=hE.now.cells;obtain ⟨n0,n1,n2,n3⟩:=hE.next.cells;dsimp only at a0 a1 a2 a3 n0 n1 n2 n3;clear hcall;have hcall:=fun u hu=>bytes1_c (hW.out.alloc (.cells #[u] 5)) (new_cell w1 #[u] 5 0 u rfl) hu (Nat.le_trans hbase (Nat.le_trans hS.size (by simp))) (by first | omega | (simp [byL];omega)))
      | (go_at_call 171;refine (signed_c hW.out (Nat.le_trans hbase hS.size) (by simp [byL];omega) (by omega) (by omega)).mono ?_;rintro e w1 ⟨rfl,ob1,hW1,hS1⟩;have hE':=hE.step hS1;have hS':=hS.trans hS1;clear hE hS hW;have hE:=hE';have hS:=hS';clear hE' hS';have hW:=Lib.hid hW1;clear hW1 hS1 a0 a1 a2 a3 n0 n1 n2 n3;obtain ⟨a0,a1,a2,a3⟩:=hE.now.cells;obtain ⟨n0,n1,n2,n3⟩:=hE.next.cells;dsimp only at a0 a1 a2 a3 n0 n1 n2 n3;clear hcall;have hcall:=fun u hu=>bytes1_c (hW.out.alloc (.cells #[u] 5)) (new_cell w1 #[u] 5 0 u rfl) hu (Nat.le_trans hbase (Nat.le_trans hS.size (by simp))) (by first | omega | (simp [byL];omega)))
      | (go_at_call 189;refine (hof _).mono ?_;rintro e w1 ⟨rfl,rfl⟩)
      | (go_at_call 190;refine (hli _).mono ?_;rintro e w1 ⟨rfl,rfl⟩))
  refine bodyPost_ret (results_none rfl _ _ _) rfl ?_
  refine ⟨rfl,_,?_,hS⟩
  rw [hfin.out]
  simpa [byL] using hW.out
set_option maxRecDepth 100000 in
set_option maxHeartbeats 2000000 in
theorem entry_ynnn {w : World} {base g : Nat} {ob : Option Nat} {P : List Value} {ns no nf nl xs xo xl : Int} (h : WrS w base g ob P) (hbase : base ≤ w.heap.size) (hn : P.length ≤ 4000000) (hr1 : RngOk ⟨ns,no,nf,nl⟩) (hr2 : RngOk ⟨xs,xo,nf,xl⟩)
    (hs : ns < xs) (cA : xs ≠ ns) (cO : offB (xo - 0) = 0) (cL : lineB (xl - nl) = 0) :
    Calls Tryz.prog 102 #[.pointer (some ⟨g,0,none⟩),.agg #[.int .i64 ns,.int .i64 no,.int .i64 nf,.int .i64 nl],.agg #[.int .i64 xs,.int .i64 xo,.int .i64 nf,.int .i64 xl]] w (WrR base g ob (P ++ byL (entryL ⟨ns,no,nf,nl⟩ ⟨xs,xo,nf,xl⟩)) w):=by
  unfold RngOk at hr1 hr2
  dsimp only at hr1 hr2
  obtain ⟨e,he⟩ : ∃ e : Int,e = xl - nl:=⟨_,rfl⟩
  obtain ⟨m,hm⟩ : ∃ m : Int,m = offB xo:=⟨_,rfl⟩
  obtain ⟨m2,hm2⟩ : ∃ m2 : Int,m2 = lineB e:=⟨_,rfl⟩
  have hdi:=offB_in (d:=xo) (by omega) (by omega)
  have hei:=lineB_in (d:=e) (by omega) (by omega)
  have hof:=fun W=>offB_c (w:=W) (d:=xo) (by omega) (by omega)
  have hli:=fun W=>lineB_c (w:=W) (d:=e) (by omega) (by omega)
  rw [Int.sub_zero,← hm] at cO
  rw [← he,← hm2] at cL
  rw [← hm] at hdi hof
  rw [← hm2] at hei hli
  obtain ⟨q,hq⟩ : ∃ q : Int,q = xo - m:=⟨_,rfl⟩
  obtain ⟨l,hl⟩ : ∃ l : Int,l = e - m2:=⟨_,rfl⟩
  obtain ⟨z,hz⟩ : ∃ z : Int,z = 64 + q / 4 * 16 + l + 4:=⟨_,rfl⟩
  have hfin : entryL ⟨ns,no,nf,nl⟩ ⟨xs,xo,nf,xl⟩ = (4 :: numL (xs - ns).toNat) ++ ([z]):=by
    unfold entryL secP fileP offP lineP lastP offD
    dsimp only
    rw [if_neg cA,if_neg cA]
    rw [if_pos rfl]
    rw [Int.sub_zero,← he,← hm,← hm2,← hq,← hl,← hz]
    rw [if_pos cO]
    rw [if_pos cL]
    all_goals rfl
  have hfin:=Lib.hid hfin
  have wA : wrap64 (xs - ns) = xs - ns:=by unfold wrap64;omega
  have cA' : (xs != ns) = true:=bne_iff_ne.2 cA
  have lA:=numL_le9 (n:=(xs - ns).toNat) (by omega)
  have w2 : wrap64 (xl - nl) = e:=by unfold wrap64;omega
  have w2c : xl - nl = e:=he.symm
  obtain rfl : xo = q:=by omega
  subst cO
  obtain rfl : l = e:=by omega
  subst cL
  obtain ⟨r,hr⟩ : ∃ r : Int,r = xo / 4:=⟨_,rfl⟩
  have w5 : xo.tdiv 4 = r:=by rw [Int.tdiv_eq_ediv_of_nonneg (by omega)];exact hr.symm
  have w5b : wrap64 r = r:=by unfold wrap64;omega
  obtain ⟨s,hsv⟩ : ∃ s : Int,s = r * 16:=⟨_,rfl⟩
  have w6 : wrap64 (r * 16) = s:=by unfold wrap64;omega
  have w6c : r * 16 = s:=hsv.symm
  obtain ⟨t,ht⟩ : ∃ t : Int,t = 64 + s:=⟨_,rfl⟩
  have w7 : wrap64 (64 + s) = t:=by unfold wrap64;omega
  have w7c : 64 + s = t:=ht.symm
  obtain ⟨u,hu⟩ : ∃ u : Int,u = t + l:=⟨_,rfl⟩
  have w8 : wrap64 (t + l) = u:=by unfold wrap64;omega
  have w8c : t + l = u:=hu.symm
  have w9 : wrap64 (u - -4) = z:=by unfold wrap64;omega
  have w9b : wrap64 (u + 4) = z:=by unfold wrap64;omega
  have w9c : u + 4 = z:=by omega
  have w9d : u - -4 = z:=by omega
  have hz0 : 0 ≤ z:=by omega
  have hz1 : z < 256:=by omega
  have w10 : z % 256 = z:=by omega
  clear he hm hm2 hq hl hz hr hsv ht hu
  have hlt:=h.lt
  have hE : EnvE ((w.alloc (.cells #[.int .i64 ns,.int .i64 no,.int .i64 nf,.int .i64 nl] 48)).alloc (.cells #[.int .i64 xs,.int .i64 xo,.int .i64 nf,.int .i64 xl] 48)) g ob w.heap.size ⟨ns,no,nf,nl⟩ ⟨xs,xo,nf,xl⟩:=by
    refine ⟨(lineB_new w ⟨ns,no,nf,nl⟩).alloc _,?_,fun e=>by have:=(hlt.2 _ e).2;omega,fun e=>by have:=(hlt.2 _ e).2;omega,by omega,by omega⟩
    have:=lineB_new (w.alloc (.cells #[.int .i64 ns,.int .i64 no,.int .i64 nf,.int .i64 nl] 48)) ⟨xs,xo,nf,xl⟩
    rwa [World.size_alloc] at this
  have hS : Wst w ((w.alloc (.cells #[.int .i64 ns,.int .i64 no,.int .i64 nf,.int .i64 nl] 48)).alloc (.cells #[.int .i64 xs,.int .i64 xo,.int .i64 nf,.int .i64 xl] 48)) g ob ob:=((Wst.refl w g ob).alloc _).alloc _
  have hW:=Lib.hid ((h.alloc (.cells #[.int .i64 ns,.int .i64 no,.int .i64 nf,.int .i64 nl] 48)).alloc (.cells #[.int .i64 xs,.int .i64 xo,.int .i64 nf,.int .i64 xl] 48))
  obtain ⟨a0,a1,a2,a3⟩:=hE.now.cells
  obtain ⟨n0,n1,n2,n3⟩:=hE.next.cells
  dsimp only at a0 a1 a2 a3 n0 n1 n2 n3
  have hcall:=fun u hu=>bytes1_c (hW.out.alloc (.cells #[u] 5)) (new_at2 _ _ _ u) hu (Nat.le_trans hbase (Nat.le_trans hS.size (by simp))) (by omega)
  clear h
  go_enter Tryz.func102,Tryz.ntmps102
  go_wp2_with fail
  go_at_call 76;refine (hcall _ rfl).mono ?_;rintro e w1 ⟨rfl,ob1,hW1,hS1⟩;have hE':=(hE.alloc _).step hS1;have hS':=(hS.alloc _).trans hS1;clear hE hS hW;have hE:=hE';have hS:=hS';clear hE' hS';have hW:=Lib.hid hW1;clear hW1 hS1 a0 a1 a2 a3 n0 n1 n2 n3;obtain ⟨a0,a1,a2,a3⟩:=hE.now.cells;obtain ⟨n0,n1,n2,n3⟩:=hE.next.cells;dsimp only at a0 a1 a2 a3 n0 n1 n2 n3;clear hcall;have hcall:=fun u hu=>bytes1_c (hW.out.alloc (.cells #[u] 5)) (new_cell w1 #[u] 5 0 u rfl) hu (Nat.le_trans hbase (Nat.le_trans hS.size (by simp))) (by first | omega | (simp [byL];omega))
  go_wp2_with fail
  go_at_call 170;refine (number_i hW.out (Nat.le_trans hbase hS.size) (by simp [byL];omega) (by omega) (by omega)).mono ?_;rintro e w1 ⟨rfl,ob1,hW1,hS1⟩;have hE':=hE.step hS1;have hS':=hS.trans hS1;clear hE hS hW;have hE:=hE';have hS:=hS';clear hE' hS';have hW:=Lib.hid hW1;clear hW1 hS1 a0 a1 a2 a3 n0 n1 n2 n3;obtain ⟨a0,a1,a2,a3⟩:=hE.now.cells;obtain ⟨n0,n1,n2,n3⟩:=hE.next.cells;dsimp only at a0 a1 a2 a3 n0 n1 n2 n3;clear hcall;have hcall:=fun u hu=>bytes1_c (hW.out.alloc (.cells #[u] 5)) (new_cell w1 #[u] 5 0 u rfl) hu (Nat.le_trans hbase (Nat.le_trans hS.size (by simp))) (by first | omega | (simp [byL];omega))
  have f0:=hE.now.frozen 1
  go_wp2_with fail
  have hW':=Lib.hid (hW.out.setCell (p:=⟨w.heap.size,1,none⟩) hE.g1 hE.o1 (.int .i64 0))
  have hS':=hS.setCell (p:=⟨w.heap.size,1,none⟩) (Nat.le_refl _) (.int .i64 0)
  have hE':=hE.zero
  clear hW hS hE f0 a0 a1 a2 a3 n0 n1 n2 n3
  have hW:=hW'
  have hS:=hS'
  have hE:=hE'
  clear hW' hS' hE' hcall
  have hcall:=fun u hu=>bytes1_c (hW.out.alloc (.cells #[u] 5)) (new_set _ _ _ u) hu (Nat.le_trans hbase (Nat.le_trans hS.size (by simp))) (by first | omega | (simp [byL];omega))
  obtain ⟨a0,a1,a2,a3⟩:=hE.now.cells
  obtain ⟨n0,n1,n2,n3⟩:=hE.next.cells
  dsimp only at a0 a1 a2 a3 n0 n1 n2 n3
  go_wp2_with (first
      | (go_at_call 76;refine (hcall _ rfl).mono ?_;rintro e w1 ⟨rfl,ob1,hW1,hS1⟩;have hE':=(hE.alloc _).step hS1;have hS':=(hS.alloc _).trans hS1;clear hE hS hW;have hE:=hE';have hS:=hS';clear hE' hS';have hW:=Lib.hid hW1;clear hW1 hS1 a0 a1 a2 a3 n0 n1 n2 n3;obtain ⟨a0,a1,a2,a3⟩:=hE.now.cells;obtain ⟨n0,n1,n2,n3⟩:=hE.next.cells;dsimp only at a0 a1 a2 a3 n0 n1 n2 n3;clear hcall;have hcall:=fun u hu=>bytes1_c (hW.out.alloc (.cells #[u] 5)) (new_cell w1 #[u] 5 0 u rfl) hu (Nat.le_trans hbase (Nat.le_trans hS.size (by simp))) (by first | omega | (simp [byL];omega)))
      | (go_at_call 170;refine (number_i hW.out (Nat.le_trans hbase hS.size) (by simp [byL];omega) (by omega) (by omega)).mono ?_;rintro e w1 ⟨rfl,ob1,hW1,hS1⟩;have hE':=hE.step hS1;have hS':=hS.trans hS1;clear hE hS hW;have hE:=hE';have hS:=hS';clear hE' hS';have hW:=Lib.hid hW1;clear hW1 hS1 a0 a1 a2 a3 n0 n1 n2 n3;obtain ⟨a0,a1,a2,a3⟩:=hE.now.cells;obtain ⟨n0,n1,n2,n3⟩:=hE.next.cells;dsimp only at a0 a1 a2 a3 n0 n1 n2 n3;clear hcall;have hcall:=fun u hu=>bytes1_c (hW.out.alloc (.cells #[u] 5)) (new_cell w1 #[u] 5 0 u rfl) hu (Nat.le_trans hbase (Nat.le_trans hS.size (by simp))) (by first | omega | (simp [byL];omega)))
      | (go_at_call 171;refine (signed_c hW.out (Nat.le_trans hbase hS.size) (by simp [byL];omega) (by omega) (by omega)).mono ?_;rintro e w1 ⟨rfl,ob1,hW1,hS1⟩;have hE':=hE.step hS1;have hS':=hS.trans hS1;clear hE hS hW;have hE:=hE';have hS:=hS';clear hE' hS';have hW:=Lib.hid hW1;clear hW1 hS1 a0 a1 a2 a3 n0 n1 n2 n3;obtain ⟨a0,a1,a2,a3⟩:=hE.now.cells;obtain ⟨n0,n1,n2,n3⟩:=hE.next.cells;dsimp only at a0 a1 a2 a3 n0 n1 n2 n3;clear hcall;have hcall:=fun u hu=>bytes1_c (hW.out.alloc (.cells #[u] 5)) (new_cell w1 #[u] 5 0 u rfl) hu (Nat.le_trans hbase (Nat.le_trans hS.size (by simp))) (by first | omega | (simp [byL];omega)))
      | (go_at_call 189;refine (hof _).mono ?_;rintro e w1 ⟨rfl,rfl⟩)
      | (go_at_call 190;refine (hli _).mono ?_;rintro e w1 ⟨rfl,rfl⟩))
  refine bodyPost_ret (results_none rfl _ _ _) rfl ?_
  refine ⟨rfl,_,?_,hS⟩
  rw [hfin.out]
  simpa [byL] using hW.out
set_option maxRecDepth 100000 in
set_option maxHeartbeats 2000000 in
theorem entry_ynny {w : World} {base g : Nat} {ob : Option Nat} {P : List Value} {ns no nf nl xs xo xl : Int} (h : WrS w base g ob P) (hbase : base ≤ w.heap.size) (hn : P.length ≤ 4000000) (hr1 : RngOk ⟨ns,no,nf,nl⟩) (hr2 : RngOk ⟨xs,xo,nf,xl⟩)
    (hs : ns < xs) (cA : xs ≠ ns) (cO : offB (xo - 0) = 0) (cL : lineB (xl - nl) ≠ 0) :
    Calls Tryz.prog 102 #[.pointer (some ⟨g,0,none⟩),.agg #[.int .i64 ns,.int .i64 no,.int .i64 nf,.int .i64 nl],.agg #[.int .i64 xs,.int .i64 xo,.int .i64 nf,.int .i64 xl]] w (WrR base g ob (P ++ byL (entryL ⟨ns,no,nf,nl⟩ ⟨xs,xo,nf,xl⟩)) w):=by
  unfold RngOk at hr1 hr2
  dsimp only at hr1 hr2
  obtain ⟨e,he⟩ : ∃ e : Int,e = xl - nl:=⟨_,rfl⟩
  obtain ⟨m,hm⟩ : ∃ m : Int,m = offB xo:=⟨_,rfl⟩
  obtain ⟨m2,hm2⟩ : ∃ m2 : Int,m2 = lineB e:=⟨_,rfl⟩
  have hdi:=offB_in (d:=xo) (by omega) (by omega)
  have hei:=lineB_in (d:=e) (by omega) (by omega)
  have hof:=fun W=>offB_c (w:=W) (d:=xo) (by omega) (by omega)
  have hli:=fun W=>lineB_c (w:=W) (d:=e) (by omega) (by omega)
  rw [Int.sub_zero,← hm] at cO
  rw [← he,← hm2] at cL
  rw [← hm] at hdi hof
  rw [← hm2] at hei hli
  obtain ⟨q,hq⟩ : ∃ q : Int,q = xo - m:=⟨_,rfl⟩
  obtain ⟨l,hl⟩ : ∃ l : Int,l = e - m2:=⟨_,rfl⟩
  obtain ⟨z,hz⟩ : ∃ z : Int,z = 64 + q / 4 * 16 + l + 4:=⟨_,rfl⟩
  have hfin : entryL ⟨ns,no,nf,nl⟩ ⟨xs,xo,nf,xl⟩ = (4 :: numL (xs - ns).toNat) ++ ((2 :: numL (zig m2)) ++ ([z])):=by
    unfold entryL secP fileP offP lineP lastP offD
    dsimp only
    rw [if_neg cA,if_neg cA]
    rw [if_pos rfl]
    rw [Int.sub_zero,← he,← hm,← hm2,← hq,← hl,← hz]
    rw [if_pos cO]
    rw [if_neg cL]
    all_goals rfl
  have hfin:=Lib.hid hfin
  have wA : wrap64 (xs - ns) = xs - ns:=by unfold wrap64;omega
  have cA' : (xs != ns) = true:=bne_iff_ne.2 cA
  have lA:=numL_le9 (n:=(xs - ns).toNat) (by omega)
  have w2 : wrap64 (xl - nl) = e:=by unfold wrap64;omega
  have w2c : xl - nl = e:=he.symm
  have cL' : (m2 != 0) = true:=bne_iff_ne.2 cL
  have w4 : wrap64 (e - m2) = l:=by unfold wrap64;omega
  have w4c : e - m2 = l:=hl.symm
  have lL:=numL_le9 (n:=zig m2) (zig_in (by omega) (by omega))
  obtain rfl : xo = q:=by omega
  subst cO
  obtain ⟨r,hr⟩ : ∃ r : Int,r = xo / 4:=⟨_,rfl⟩
  have w5 : xo.tdiv 4 = r:=by rw [Int.tdiv_eq_ediv_of_nonneg (by omega)];exact hr.symm
  have w5b : wrap64 r = r:=by unfold wrap64;omega
  obtain ⟨s,hsv⟩ : ∃ s : Int,s = r * 16:=⟨_,rfl⟩
  have w6 : wrap64 (r * 16) = s:=by unfold wrap64;omega
  have w6c : r * 16 = s:=hsv.symm
  obtain ⟨t,ht⟩ : ∃ t : Int,t = 64 + s:=⟨_,rfl⟩
  have w7 : wrap64 (64 + s) = t:=by unfold wrap64;omega
  have w7c : 64 + s = t:=ht.symm
  obtain ⟨u,hu⟩ : ∃ u : Int,u = t + l:=⟨_,rfl⟩
  have w8 : wrap64 (t + l) = u:=by unfold wrap64;omega
  have w8c : t + l = u:=hu.symm
  have w9 : wrap64 (u - -4) = z:=by unfold wrap64;omega
  have w9b : wrap64 (u + 4) = z:=by unfold wrap64;omega
  have w9c : u + 4 = z:=by omega
  have w9d : u - -4 = z:=by omega
  have hz0 : 0 ≤ z:=by omega
  have hz1 : z < 256:=by omega
  have w10 : z % 256 = z:=by omega
  clear he hm hm2 hq hl hz hr hsv ht hu
  have hlt:=h.lt
  have hE : EnvE ((w.alloc (.cells #[.int .i64 ns,.int .i64 no,.int .i64 nf,.int .i64 nl] 48)).alloc (.cells #[.int .i64 xs,.int .i64 xo,.int .i64 nf,.int .i64 xl] 48)) g ob w.heap.size ⟨ns,no,nf,nl⟩ ⟨xs,xo,nf,xl⟩:=by
    refine ⟨(lineB_new w ⟨ns,no,nf,nl⟩).alloc _,?_,fun e=>by have:=(hlt.2 _ e).2;omega,fun e=>by have:=(hlt.2 _ e).2;omega,by omega,by omega⟩
    have:=lineB_new (w.alloc (.cells #[.int .i64 ns,.int .i64 no,.int .i64 nf,.int .i64 nl] 48)) ⟨xs,xo,nf,xl⟩
    rwa [World.size_alloc] at this
  have hS : Wst w ((w.alloc (.cells #[.int .i64 ns,.int .i64 no,.int .i64 nf,.int .i64 nl] 48)).alloc (.cells #[.int .i64 xs,.int .i64 xo,.int .i64 nf,.int .i64 xl] 48)) g ob ob:=((Wst.refl w g ob).alloc _).alloc _
  have hW:=Lib.hid ((h.alloc (.cells #[.int .i64 ns,.int .i64 no,.int .i64 nf,.int .i64 nl] 48)).alloc (.cells #[.int .i64 xs,.int .i64 xo,.int .i64 nf,.int .i64 xl] 48))
  obtain ⟨a0,a1,a2,a3⟩:=hE.now.cells
  obtain ⟨n0,n1,n2,n3⟩:=hE.next.cells
  dsimp only at a0 a1 a2 a3 n0 n1 n2 n3
  have hcall:=fun u hu=>bytes1_c (hW.out.alloc (.cells #[u] 5)) (new_at2 _ _ _ u) hu (Nat.le_trans hbase (Nat.le_trans hS.size (by simp))) (by omega)
  clear h
  go_enter Tryz.func102,Tryz.ntmps102
  go_wp2_with fail
  go_at_call 76;refine (hcall _ rfl).mono ?_;rintro e w1 ⟨rfl,ob1,hW1,hS1⟩;have hE':=(hE.alloc _).step hS1;have hS':=(hS.alloc _).trans hS1;clear hE hS hW;have hE:=hE';have hS:=hS';clear hE' hS';have hW:=Lib.hid hW1;clear hW1 hS1 a0 a1 a2 a3 n0 n1 n2 n3;obtain ⟨a0,a1,a2,a3⟩:=hE.now.cells;obtain ⟨n0,n1,n2,n3⟩:=hE.next.cells;dsimp only at a0 a1 a2 a3 n0 n1 n2 n3;clear hcall;have hcall:=fun u hu=>bytes1_c (hW.out.alloc (.cells #[u] 5)) (new_cell w1 #[u] 5 0 u rfl) hu (Nat.le_trans hbase (Nat.le_trans hS.size (by simp))) (by first | omega | (simp [byL];omega))
  go_wp2_with fail
  go_at_call 170;refine (number_i hW.out (Nat.le_trans hbase hS.size) (by simp [byL];omega) (by omega) (by omega)).mono ?_;rintro e w1 ⟨rfl,ob1,hW1,hS1⟩;have hE':=hE.step hS1;have hS':=hS.trans hS1;clear hE hS hW;have hE:=hE';have hS:=hS';clear hE' hS';have hW:=Lib.hid hW1;clear hW1 hS1 a0 a1 a2 a3 n0 n1 n2 n3;obtain ⟨a0,a1,a2,a3⟩:=hE.now.cells;obtain ⟨n0,n1,n2,n3⟩:=hE.next.cells;dsimp only at a0 a1 a2 a3 n0 n1 n2 n3;clear hcall;have hcall:=fun u hu=>bytes1_c (hW.out.alloc (.cells #[u] 5)) (new_cell w1 #[u] 5 0 u rfl) hu (Nat.le_trans hbase (Nat.le_trans hS.size (by simp))) (by first | omega | (simp [byL];omega))
  have f0:=hE.now.frozen 1
  go_wp2_with fail
  have hW':=Lib.hid (hW.out.setCell (p:=⟨w.heap.size,1,none⟩) hE.g1 hE.o1 (.int .i64 0))
  have hS':=hS.setCell (p:=⟨w.heap.size,1,none⟩) (Nat.le_refl _) (.int .i64 0)
  have hE':=hE.zero
  clear hW hS hE f0 a0 a1 a2 a3 n0 n1 n2 n3
  have hW:=hW'
  have hS:=hS'
  have hE:=hE'
  clear hW' hS' hE' hcall
  have hcall:=fun u hu=>bytes1_c (hW.out.alloc (.cells #[u] 5)) (new_set _ _ _ u) hu (Nat.le_trans hbase (Nat.le_trans hS.size (by simp))) (by first | omega | (simp [byL];omega))
  obtain ⟨a0,a1,a2,a3⟩:=hE.now.cells
  obtain ⟨n0,n1,n2,n3⟩:=hE.next.cells
  dsimp only at a0 a1 a2 a3 n0 n1 n2 n3
  go_wp2_with (first
      | (go_at_call 76;refine (hcall _ rfl).mono ?_;rintro e w1 ⟨rfl,ob1,hW1,hS1⟩;have hE':=(hE.alloc _).step hS1;have hS':=(hS.alloc _).trans hS1;clear hE hS hW;have hE:=hE';have hS:=hS';clear hE' hS';have hW:=Lib.hid hW1;clear hW1 hS1 a0 a1 a2 a3 n0 n1 n2 n3;obtain ⟨a0,a1,a2,a3⟩:=hE.now.cells;obtain ⟨n0,n1,n2,n3⟩:=hE.next.cells;dsimp only at a0 a1 a2 a3 n0 n1 n2 n3;clear hcall;have hcall:=fun u hu=>bytes1_c (hW.out.alloc (.cells #[u] 5)) (new_cell w1 #[u] 5 0 u rfl) hu (Nat.le_trans hbase (Nat.le_trans hS.size (by simp))) (by first | omega | (simp [byL];omega)))
      | (go_at_call 170;refine (number_i hW.out (Nat.le_trans hbase hS.size) (by simp [byL];omega) (by omega) (by omega)).mono ?_;rintro e w1 ⟨rfl,ob1,hW1,hS1⟩;have hE':=hE.step hS1;have hS':=hS.trans hS1;clear hE hS hW;have hE:=hE';have hS:=hS';clear hE' hS';have hW:=Lib.hid hW1;clear hW1 hS1 a0 a1 a2 a3 n0 n1 n2 n3;obtain ⟨a0,a1,a2,a3⟩:=hE.now.cells;obtain ⟨n0,n1,n2,n3⟩:=hE.next.cells;dsimp only at a0 a1 a2 a3 n0 n1 n2 n3;clear hcall;have hcall:=fun u hu=>bytes1_c (hW.out.alloc (.cells #[u] 5)) (new_cell w1 #[u] 5 0 u rfl) hu (Nat.le_trans hbase (Nat.le_trans hS.size (by simp))) (by first | omega | (simp [byL];omega)))
      | (go_at_call 171;refine (signed_c hW.out (Nat.le_trans hbase hS.size) (by simp [byL];omega) (by omega) (by omega)).mono ?_;rintro e w1 ⟨rfl,ob1,hW1,hS1⟩;have hE':=hE.step hS1;have hS':=hS.trans hS1;clear hE hS hW;have hE:=hE';have hS:=hS';clear hE' hS';have hW:=Lib.hid hW1;clear hW1 hS1 a0 a1 a2 a3 n0 n1 n2 n3;obtain ⟨a0,a1,a2,a3⟩:=hE.now.cells;obtain ⟨n0,n1,n2,n3⟩:=hE.next.cells;dsimp only at a0 a1 a2 a3 n0 n1 n2 n3;clear hcall;have hcall:=fun u hu=>bytes1_c (hW.out.alloc (.cells #[u] 5)) (new_cell w1 #[u] 5 0 u rfl) hu (Nat.le_trans hbase (Nat.le_trans hS.size (by simp))) (by first | omega | (simp [byL];omega)))
      | (go_at_call 189;refine (hof _).mono ?_;rintro e w1 ⟨rfl,rfl⟩)
      | (go_at_call 190;refine (hli _).mono ?_;rintro e w1 ⟨rfl,rfl⟩))
  refine bodyPost_ret (results_none rfl _ _ _) rfl ?_
  refine ⟨rfl,_,?_,hS⟩
  rw [hfin.out]
  simpa [byL] using hW.out
set_option maxRecDepth 100000 in
set_option maxHeartbeats 2000000 in
theorem entry_ynyn {w : World} {base g : Nat} {ob : Option Nat} {P : List Value} {ns no nf nl xs xo xl : Int} (h : WrS w base g ob P) (hbase : base ≤ w.heap.size) (hn : P.length ≤ 4000000) (hr1 : RngOk ⟨ns,no,nf,nl⟩) (hr2 : RngOk ⟨xs,xo,nf,xl⟩)
    (hs : ns < xs) (cA : xs ≠ ns) (cO : offB (xo - 0) ≠ 0) (cL : lineB (xl - nl) = 0) :
    Calls Tryz.prog 102 #[.pointer (some ⟨g,0,none⟩),.agg #[.int .i64 ns,.int .i64 no,.int .i64 nf,.int .i64 nl],.agg #[.int .i64 xs,.int .i64 xo,.int .i64 nf,.int .i64 xl]] w (WrR base g ob (P ++ byL (entryL ⟨ns,no,nf,nl⟩ ⟨xs,xo,nf,xl⟩)) w):=by
  unfold RngOk at hr1 hr2
  dsimp only at hr1 hr2
  obtain ⟨e,he⟩ : ∃ e : Int,e = xl - nl:=⟨_,rfl⟩
  obtain ⟨m,hm⟩ : ∃ m : Int,m = offB xo:=⟨_,rfl⟩
  obtain ⟨m2,hm2⟩ : ∃ m2 : Int,m2 = lineB e:=⟨_,rfl⟩
  have hdi:=offB_in (d:=xo) (by omega) (by omega)
  have hei:=lineB_in (d:=e) (by omega) (by omega)
  have hof:=fun W=>offB_c (w:=W) (d:=xo) (by omega) (by omega)
  have hli:=fun W=>lineB_c (w:=W) (d:=e) (by omega) (by omega)
  rw [Int.sub_zero,← hm] at cO
  rw [← he,← hm2] at cL
  rw [← hm] at hdi hof
  rw [← hm2] at hei hli
  obtain ⟨q,hq⟩ : ∃ q : Int,q = xo - m:=⟨_,rfl⟩
  obtain ⟨l,hl⟩ : ∃ l : Int,l = e - m2:=⟨_,rfl⟩
  obtain ⟨z,hz⟩ : ∃ z : Int,z = 64 + q / 4 * 16 + l + 4:=⟨_,rfl⟩
  have hfin : entryL ⟨ns,no,nf,nl⟩ ⟨xs,xo,nf,xl⟩ = (4 :: numL (xs - ns).toNat) ++ ((1 :: numL m.toNat) ++ ([z])):=by
    unfold entryL secP fileP offP lineP lastP offD
    dsimp only
    rw [if_neg cA,if_neg cA]
    rw [if_pos rfl]
    rw [Int.sub_zero,← he,← hm,← hm2,← hq,← hl,← hz]
    rw [if_neg cO]
    rw [if_pos cL]
    all_goals rfl
  have hfin:=Lib.hid hfin
  have wA : wrap64 (xs - ns) = xs - ns:=by unfold wrap64;omega
  have cA' : (xs != ns) = true:=bne_iff_ne.2 cA
  have lA:=numL_le9 (n:=(xs - ns).toNat) (by omega)
  have w2 : wrap64 (xl - nl) = e:=by unfold wrap64;omega
  have w2c : xl - nl = e:=he.symm
  have cO' : (m != 0) = true:=bne_iff_ne.2 cO
  have w3 : wrap64 (xo - m) = q:=by unfold wrap64;omega
  have w3c : xo - m = q:=hq.symm
  have lO:=numL_le9 (n:=m.toNat) (by omega)
  obtain rfl : l = e:=by omega
  subst cL
  obtain ⟨r,hr⟩ : ∃ r : Int,r = q / 4:=⟨_,rfl⟩
  have w5 : q.tdiv 4 = r:=by rw [Int.tdiv_eq_ediv_of_nonneg (by omega)];exact hr.symm
  have w5b : wrap64 r = r:=by unfold wrap64;omega
  obtain ⟨s,hsv⟩ : ∃ s : Int,s = r * 16:=⟨_,rfl⟩
  have w6 : wrap64 (r * 16) = s:=by unfold wrap64;omega
  have w6c : r * 16 = s:=hsv.symm
  obtain ⟨t,ht⟩ : ∃ t : Int,t = 64 + s:=⟨_,rfl⟩
  have w7 : wrap64 (64 + s) = t:=by unfold wrap64;omega
  have w7c : 64 + s = t:=ht.symm
  obtain ⟨u,hu⟩ : ∃ u : Int,u = t + l:=⟨_,rfl⟩
  have w8 : wrap64 (t + l) = u:=by unfold wrap64;omega
  have w8c : t + l = u:=hu.symm
  have w9 : wrap64 (u - -4) = z:=by unfold wrap64;omega
  have w9b : wrap64 (u + 4) = z:=by unfold wrap64;omega
  have w9c : u + 4 = z:=by omega
  have w9d : u - -4 = z:=by omega
  have hz0 : 0 ≤ z:=by omega
  have hz1 : z < 256:=by omega
  have w10 : z % 256 = z:=by omega
  clear he hm hm2 hq hl hz hr hsv ht hu
  have hlt:=h.lt
  have hE : EnvE ((w.alloc (.cells #[.int .i64 ns,.int .i64 no,.int .i64 nf,.int .i64 nl] 48)).alloc (.cells #[.int .i64 xs,.int .i64 xo,.int .i64 nf,.int .i64 xl] 48)) g ob w.heap.size ⟨ns,no,nf,nl⟩ ⟨xs,xo,nf,xl⟩:=by
    refine ⟨(lineB_new w ⟨ns,no,nf,nl⟩).alloc _,?_,fun e=>by have:=(hlt.2 _ e).2;omega,fun e=>by have:=(hlt.2 _ e).2;omega,by omega,by omega⟩
    have:=lineB_new (w.alloc (.cells #[.int .i64 ns,.int .i64 no,.int .i64 nf,.int .i64 nl] 48)) ⟨xs,xo,nf,xl⟩
    rwa [World.size_alloc] at this
  have hS : Wst w ((w.alloc (.cells #[.int .i64 ns,.int .i64 no,.int .i64 nf,.int .i64 nl] 48)).alloc (.cells #[.int .i64 xs,.int .i64 xo,.int .i64 nf,.int .i64 xl] 48)) g ob ob:=((Wst.refl w g ob).alloc _).alloc _
  have hW:=Lib.hid ((h.alloc (.cells #[.int .i64 ns,.int .i64 no,.int .i64 nf,.int .i64 nl] 48)).alloc (.cells #[.int .i64 xs,.int .i64 xo,.int .i64 nf,.int .i64 xl] 48))
  obtain ⟨a0,a1,a2,a3⟩:=hE.now.cells
  obtain ⟨n0,n1,n2,n3⟩:=hE.next.cells
  dsimp only at a0 a1 a2 a3 n0 n1 n2 n3
  have hcall:=fun u hu=>bytes1_c (hW.out.alloc (.cells #[u] 5)) (new_at2 _ _ _ u) hu (Nat.le_trans hbase (Nat.le_trans hS.size (by simp))) (by omega)
  clear h
  go_enter Tryz.func102,Tryz.ntmps102
  go_wp2_with fail
  go_at_call 76;refine (hcall _ rfl).mono ?_;rintro e w1 ⟨rfl,ob1,hW1,hS1⟩;have hE':=(hE.alloc _).step hS1;have hS':=(hS.alloc _).trans hS1;clear hE hS hW;have hE:=hE';have hS:=hS';clear hE' hS';have hW:=Lib.hid hW1;clear hW1 hS1 a0 a1 a2 a3 n0 n1 n2 n3;obtain ⟨a0,a1,a2,a3⟩:=hE.now.cells;obtain ⟨n0,n1,n2,n3⟩:=hE.next.cells;dsimp only at a0 a1 a2 a3 n0 n1 n2 n3;clear hcall;have hcall:=fun u hu=>bytes1_c (hW.out.alloc (.cells #[u] 5)) (new_cell w1 #[u] 5 0 u rfl) hu (Nat.le_trans hbase (Nat.le_trans hS.size (by simp))) (by first | omega | (simp [byL];omega))
  go_wp2_with fail
  go_at_call 170;refine (number_i hW.out (Nat.le_trans hbase hS.size) (by simp [byL];omega) (by omega) (by omega)).mono ?_;rintro e w1 ⟨rfl,ob1,hW1,hS1⟩;have hE':=hE.step hS1;have hS':=hS.trans hS1;clear hE hS hW;have hE:=hE';have hS:=hS';clear hE' hS';have hW:=Lib.hid hW1;clear hW1 hS1 a0 a1 a2 a3 n0 n1 n2 n3;obtain ⟨a0,a1,a2,a3⟩:=hE.now.cells;obtain ⟨n0,n1,n2,n3⟩:=hE.next.cells;dsimp only at a0 a1 a2 a3 n0 n1 n2 n3;clear hcall;have hcall:=fun u hu=>bytes1_c (hW.out.alloc (.cells #[u] 5)) (new_cell w1 #[u] 5 0 u rfl) hu (Nat.le_trans hbase (Nat.le_trans hS.size (by simp))) (by first | omega | (simp [byL];omega))
  have f0:=hE.now.frozen 1
  go_wp2_with fail
  have hW':=Lib.hid (hW.out.setCell (p:=⟨w.heap.size,1,none⟩) hE.g1 hE.o1 (.int .i64 0))
  have hS':=hS.setCell (p:=⟨w.heap.size,1,none⟩) (Nat.le_refl _) (.int .i64 0)
  have hE':=hE.zero
  clear hW hS hE f0 a0 a1 a2 a3 n0 n1 n2 n3
  have hW:=hW'
  have hS:=hS'
  have hE:=hE'
  clear hW' hS' hE' hcall
  have hcall:=fun u hu=>bytes1_c (hW.out.alloc (.cells #[u] 5)) (new_set _ _ _ u) hu (Nat.le_trans hbase (Nat.le_trans hS.size (by simp))) (by first | omega | (simp [byL];omega))
  obtain ⟨a0,a1,a2,a3⟩:=hE.now.cells
  obtain ⟨n0,n1,n2,n3⟩:=hE.next.cells
  dsimp only at a0 a1 a2 a3 n0 n1 n2 n3
  go_wp2_with (first
      | (go_at_call 76;refine (hcall _ rfl).mono ?_;rintro e w1 ⟨rfl,ob1,hW1,hS1⟩;have hE':=(hE.alloc _).step hS1;have hS':=(hS.alloc _).trans hS1;clear hE hS hW;have hE:=hE';have hS:=hS';clear hE' hS';have hW:=Lib.hid hW1;clear hW1 hS1 a0 a1 a2 a3 n0 n1 n2 n3;obtain ⟨a0,a1,a2,a3⟩:=hE.now.cells;obtain ⟨n0,n1,n2,n3⟩:=hE.next.cells;dsimp only at a0 a1 a2 a3 n0 n1 n2 n3;clear hcall;have hcall:=fun u hu=>bytes1_c (hW.out.alloc (.cells #[u] 5)) (new_cell w1 #[u] 5 0 u rfl) hu (Nat.le_trans hbase (Nat.le_trans hS.size (by simp))) (by first | omega | (simp [byL];omega)))
      | (go_at_call 170;refine (number_i hW.out (Nat.le_trans hbase hS.size) (by simp [byL];omega) (by omega) (by omega)).mono ?_;rintro e w1 ⟨rfl,ob1,hW1,hS1⟩;have hE':=hE.step hS1;have hS':=hS.trans hS1;clear hE hS hW;have hE:=hE';have hS:=hS';clear hE' hS';have hW:=Lib.hid hW1;clear hW1 hS1 a0 a1 a2 a3 n0 n1 n2 n3;obtain ⟨a0,a1,a2,a3⟩:=hE.now.cells;obtain ⟨n0,n1,n2,n3⟩:=hE.next.cells;dsimp only at a0 a1 a2 a3 n0 n1 n2 n3;clear hcall;have hcall:=fun u hu=>bytes1_c (hW.out.alloc (.cells #[u] 5)) (new_cell w1 #[u] 5 0 u rfl) hu (Nat.le_trans hbase (Nat.le_trans hS.size (by simp))) (by first | omega | (simp [byL];omega)))
      | (go_at_call 171;refine (signed_c hW.out (Nat.le_trans hbase hS.size) (by simp [byL];omega) (by omega) (by omega)).mono ?_;rintro e w1 ⟨rfl,ob1,hW1,hS1⟩;have hE':=hE.step hS1;have hS':=hS.trans hS1;clear hE hS hW;have hE:=hE';have hS:=hS';clear hE' hS';have hW:=Lib.hid hW1;clear hW1 hS1 a0 a1 a2 a3 n0 n1 n2 n3;obtain ⟨a0,a1,a2,a3⟩:=hE.now.cells;obtain ⟨n0,n1,n2,n3⟩:=hE.next.cells;dsimp only at a0 a1 a2 a3 n0 n1 n2 n3;clear hcall;have hcall:=fun u hu=>bytes1_c (hW.out.alloc (.cells #[u] 5)) (new_cell w1 #[u] 5 0 u rfl) hu (Nat.le_trans hbase (Nat.le_trans hS.size (by simp))) (by first | omega | (simp [byL];omega)))
      | (go_at_call 189;refine (hof _).mono ?_;rintro e w1 ⟨rfl,rfl⟩)
      | (go_at_call 190;refine (hli _).mono ?_;rintro e w1 ⟨rfl,rfl⟩))
  refine bodyPost_ret (results_none rfl _ _ _) rfl ?_
  refine ⟨rfl,_,?_,hS⟩
  rw [hfin.out]
  simpa [byL] using hW.out
set_option maxRecDepth 100000 in
set_option maxHeartbeats 2000000 in
theorem entry_ynyy {w : World} {base g : Nat} {ob : Option Nat} {P : List Value} {ns no nf nl xs xo xl : Int} (h : WrS w base g ob P) (hbase : base ≤ w.heap.size) (hn : P.length ≤ 4000000) (hr1 : RngOk ⟨ns,no,nf,nl⟩) (hr2 : RngOk ⟨xs,xo,nf,xl⟩)
    (hs : ns < xs) (cA : xs ≠ ns) (cO : offB (xo - 0) ≠ 0) (cL : lineB (xl - nl) ≠ 0) :
    Calls Tryz.prog 102 #[.pointer (some ⟨g,0,none⟩),.agg #[.int .i64 ns,.int .i64 no,.int .i64 nf,.int .i64 nl],.agg #[.int .i64 xs,.int .i64 xo,.int .i64 nf,.int .i64 xl]] w (WrR base g ob (P ++ byL (entryL ⟨ns,no,nf,nl⟩ ⟨xs,xo,nf,xl⟩)) w):=by
  unfold RngOk at hr1 hr2
  dsimp only at hr1 hr2
  obtain ⟨e,he⟩ : ∃ e : Int,e = xl - nl:=⟨_,rfl⟩
  obtain ⟨m,hm⟩ : ∃ m : Int,m = offB xo:=⟨_,rfl⟩
  obtain ⟨m2,hm2⟩ : ∃ m2 : Int,m2 = lineB e:=⟨_,rfl⟩
  have hdi:=offB_in (d:=xo) (by omega) (by omega)
  have hei:=lineB_in (d:=e) (by omega) (by omega)
  have hof:=fun W=>offB_c (w:=W) (d:=xo) (by omega) (by omega)
  have hli:=fun W=>lineB_c (w:=W) (d:=e) (by omega) (by omega)
  rw [Int.sub_zero,← hm] at cO
  rw [← he,← hm2] at cL
  rw [← hm] at hdi hof
  rw [← hm2] at hei hli
  obtain ⟨q,hq⟩ : ∃ q : Int,q = xo - m:=⟨_,rfl⟩
  obtain ⟨l,hl⟩ : ∃ l : Int,l = e - m2:=⟨_,rfl⟩
  obtain ⟨z,hz⟩ : ∃ z : Int,z = 64 + q / 4 * 16 + l + 4:=⟨_,rfl⟩
  have hfin : entryL ⟨ns,no,nf,nl⟩ ⟨xs,xo,nf,xl⟩ = (4 :: numL (xs - ns).toNat) ++ ((1 :: numL m.toNat) ++ ((2 :: numL (zig m2)) ++ ([z]))):=by
    unfold entryL secP fileP offP lineP lastP offD
    dsimp only
    rw [if_neg cA,if_neg cA]
    rw [if_pos rfl]
    rw [Int.sub_zero,← he,← hm,← hm2,← hq,← hl,← hz]
    rw [if_neg cO]
    rw [if_neg cL]
    all_goals rfl
  have hfin:=Lib.hid hfin
  have wA : wrap64 (xs - ns) = xs - ns:=by unfold wrap64;omega
  have cA' : (xs != ns) = true:=bne_iff_ne.2 cA
  have lA:=numL_le9 (n:=(xs - ns).toNat) (by omega)
  have w2 : wrap64 (xl - nl) = e:=by unfold wrap64;omega
  have w2c : xl - nl = e:=he.symm
  have cO' : (m != 0) = true:=bne_iff_ne.2 cO
  have w3 : wrap64 (xo - m) = q:=by unfold wrap64;omega
  have w3c : xo - m = q:=hq.symm
  have lO:=numL_le9 (n:=m.toNat) (by omega)
  have cL' : (m2 != 0) = true:=bne_iff_ne.2 cL
  have w4 : wrap64 (e - m2) = l:=by unfold wrap64;omega
  have w4c : e - m2 = l:=hl.symm
  have lL:=numL_le9 (n:=zig m2) (zig_in (by omega) (by omega))
  obtain ⟨r,hr⟩ : ∃ r : Int,r = q / 4:=⟨_,rfl⟩
  have w5 : q.tdiv 4 = r:=by rw [Int.tdiv_eq_ediv_of_nonneg (by omega)];exact hr.symm
  have w5b : wrap64 r = r:=by unfold wrap64;omega
  obtain ⟨s,hsv⟩ : ∃ s : Int,s = r * 16:=⟨_,rfl⟩
  have w6 : wrap64 (r * 16) = s:=by unfold wrap64;omega
  have w6c : r * 16 = s:=hsv.symm
  obtain ⟨t,ht⟩ : ∃ t : Int,t = 64 + s:=⟨_,rfl⟩
  have w7 : wrap64 (64 + s) = t:=by unfold wrap64;omega
  have w7c : 64 + s = t:=ht.symm
  obtain ⟨u,hu⟩ : ∃ u : Int,u = t + l:=⟨_,rfl⟩
  have w8 : wrap64 (t + l) = u:=by unfold wrap64;omega
  have w8c : t + l = u:=hu.symm
  have w9 : wrap64 (u - -4) = z:=by unfold wrap64;omega
  have w9b : wrap64 (u + 4) = z:=by unfold wrap64;omega
  have w9c : u + 4 = z:=by omega
  have w9d : u - -4 = z:=by omega
  have hz0 : 0 ≤ z:=by omega
  have hz1 : z < 256:=by omega
  have w10 : z % 256 = z:=by omega
  clear he hm hm2 hq hl hz hr hsv ht hu
  have hlt:=h.lt
  have hE : EnvE ((w.alloc (.cells #[.int .i64 ns,.int .i64 no,.int .i64 nf,.int .i64 nl] 48)).alloc (.cells #[.int .i64 xs,.int .i64 xo,.int .i64 nf,.int .i64 xl] 48)) g ob w.heap.size ⟨ns,no,nf,nl⟩ ⟨xs,xo,nf,xl⟩:=by
    refine ⟨(lineB_new w ⟨ns,no,nf,nl⟩).alloc _,?_,fun e=>by have:=(hlt.2 _ e).2;omega,fun e=>by have:=(hlt.2 _ e).2;omega,by omega,by omega⟩
    have:=lineB_new (w.alloc (.cells #[.int .i64 ns,.int .i64 no,.int .i64 nf,.int .i64 nl] 48)) ⟨xs,xo,nf,xl⟩
    rwa [World.size_alloc] at this
  have hS : Wst w ((w.alloc (.cells #[.int .i64 ns,.int .i64 no,.int .i64 nf,.int .i64 nl] 48)).alloc (.cells #[.int .i64 xs,.int .i64 xo,.int .i64 nf,.int .i64 xl] 48)) g ob ob:=((Wst.refl w g ob).alloc _).alloc _
  have hW:=Lib.hid ((h.alloc (.cells #[.int .i64 ns,.int .i64 no,.int .i64 nf,.int .i64 nl] 48)).alloc (.cells #[.int .i64 xs,.int .i64 xo,.int .i64 nf,.int .i64 xl] 48))
  obtain ⟨a0,a1,a2,a3⟩:=hE.now.cells
  obtain ⟨n0,n1,n2,n3⟩:=hE.next.cells
  dsimp only at a0 a1 a2 a3 n0 n1 n2 n3
  have hcall:=fun u hu=>bytes1_c (hW.out.alloc (.cells #[u] 5)) (new_at2 _ _ _ u) hu (Nat.le_trans hbase (Nat.le_trans hS.size (by simp))) (by omega)
  clear h
  go_enter Tryz.func102,Tryz.ntmps102
  go_wp2_with fail
  go_at_call 76;refine (hcall _ rfl).mono ?_;rintro e w1 ⟨rfl,ob1,hW1,hS1⟩;have hE':=(hE.alloc _).step hS1;have hS':=(hS.alloc _).trans hS1;clear hE hS hW;have hE:=hE';have hS:=hS';clear hE' hS';have hW:=Lib.hid hW1;clear hW1 hS1 a0 a1 a2 a3 n0 n1 n2 n3;obtain ⟨a0,a1,a2,a3⟩:=hE.now.cells;obtain ⟨n0,n1,n2,n3⟩:=hE.next.cells;dsimp only at a0 a1 a2 a3 n0 n1 n2 n3;clear hcall;have hcall:=fun u hu=>bytes1_c (hW.out.alloc (.cells #[u] 5)) (new_cell w1 #[u] 5 0 u rfl) hu (Nat.le_trans hbase (Nat.le_trans hS.size (by simp))) (by first | omega | (simp [byL];omega))
  go_wp2_with fail
  go_at_call 170;refine (number_i hW.out (Nat.le_trans hbase hS.size) (by simp [byL];omega) (by omega) (by omega)).mono ?_;rintro e w1 ⟨rfl,ob1,hW1,hS1⟩;have hE':=hE.step hS1;have hS':=hS.trans hS1;clear hE hS hW;have hE:=hE';have hS:=hS';clear hE' hS';have hW:=Lib.hid hW1;clear hW1 hS1 a0 a1 a2 a3 n0 n1 n2 n3;obtain ⟨a0,a1,a2,a3⟩:=hE.now.cells;obtain ⟨n0,n1,n2,n3⟩:=hE.next.cells;dsimp only at a0 a1 a2 a3 n0 n1 n2 n3;clear hcall;have hcall:=fun u hu=>bytes1_c (hW.out.alloc (.cells #[u] 5)) (new_cell w1 #[u] 5 0 u rfl) hu (Nat.le_trans hbase (Nat.le_trans hS.size (by simp))) (by first | omega | (simp [byL];omega))
  have f0:=hE.now.frozen 1
  go_wp2_with fail
  have hW':=Lib.hid (hW.out.setCell (p:=⟨w.heap.size,1,none⟩) hE.g1 hE.o1 (.int .i64 0))
  have hS':=hS.setCell (p:=⟨w.heap.size,1,none⟩) (Nat.le_refl _) (.int .i64 0)
  have hE':=hE.zero
  clear hW hS hE f0 a0 a1 a2 a3 n0 n1 n2 n3
  have hW:=hW'
  have hS:=hS'
  have hE:=hE'
  clear hW' hS' hE' hcall
  have hcall:=fun u hu=>bytes1_c (hW.out.alloc (.cells #[u] 5)) (new_set _ _ _ u) hu (Nat.le_trans hbase (Nat.le_trans hS.size (by simp))) (by first | omega | (simp [byL];omega))
  obtain ⟨a0,a1,a2,a3⟩:=hE.now.cells
  obtain ⟨n0,n1,n2,n3⟩:=hE.next.cells
  dsimp only at a0 a1 a2 a3 n0 n1 n2 n3
  go_wp2_with (first
      | (go_at_call 76;refine (hcall _ rfl).mono ?_;rintro e w1 ⟨rfl,ob1,hW1,hS1⟩;have hE':=(hE.alloc _).step hS1;have hS':=(hS.alloc _).trans hS1;clear hE hS hW;have hE:=hE';have hS:=hS';clear hE' hS';have hW:=Lib.hid hW1;clear hW1 hS1 a0 a1 a2 a3 n0 n1 n2 n3;obtain ⟨a0,a1,a2,a3⟩:=hE.now.cells;obtain ⟨n0,n1,n2,n3⟩:=hE.next.cells;dsimp only at a0 a1 a2 a3 n0 n1 n2 n3;clear hcall;have hcall:=fun u hu=>bytes1_c (hW.out.alloc (.cells #[u] 5)) (new_cell w1 #[u] 5 0 u rfl) hu (Nat.le_trans hbase (Nat.le_trans hS.size (by simp))) (by first | omega | (simp [byL];omega)))
      | (go_at_call 170;refine (number_i hW.out (Nat.le_trans hbase hS.size) (by simp [byL];omega) (by omega) (by omega)).mono ?_;rintro e w1 ⟨rfl,ob1,hW1,hS1⟩;have hE':=hE.step hS1;have hS':=hS.trans hS1;clear hE hS hW;have hE:=hE';have hS:=hS';clear hE' hS';have hW:=Lib.hid hW1;clear hW1 hS1 a0 a1 a2 a3 n0 n1 n2 n3;obtain ⟨a0,a1,a2,a3⟩:=hE.now.cells;obtain ⟨n0,n1,n2,n3⟩:=hE.next.cells;dsimp only at a0 a1 a2 a3 n0 n1 n2 n3;clear hcall;have hcall:=fun u hu=>bytes1_c (hW.out.alloc (.cells #[u] 5)) (new_cell w1 #[u] 5 0 u rfl) hu (Nat.le_trans hbase (Nat.le_trans hS.size (by simp))) (by first | omega | (simp [byL];omega)))
      | (go_at_call 171;refine (signed_c hW.out (Nat.le_trans hbase hS.size) (by simp [byL];omega) (by omega) (by omega)).mono ?_;rintro e w1 ⟨rfl,ob1,hW1,hS1⟩;have hE':=hE.step hS1;have hS':=hS.trans hS1;clear hE hS hW;have hE:=hE';have hS:=hS';clear hE' hS';have hW:=Lib.hid hW1;clear hW1 hS1 a0 a1 a2 a3 n0 n1 n2 n3;obtain ⟨a0,a1,a2,a3⟩:=hE.now.cells;obtain ⟨n0,n1,n2,n3⟩:=hE.next.cells;dsimp only at a0 a1 a2 a3 n0 n1 n2 n3;clear hcall;have hcall:=fun u hu=>bytes1_c (hW.out.alloc (.cells #[u] 5)) (new_cell w1 #[u] 5 0 u rfl) hu (Nat.le_trans hbase (Nat.le_trans hS.size (by simp))) (by first | omega | (simp [byL];omega)))
      | (go_at_call 189;refine (hof _).mono ?_;rintro e w1 ⟨rfl,rfl⟩)
      | (go_at_call 190;refine (hli _).mono ?_;rintro e w1 ⟨rfl,rfl⟩))
  refine bodyPost_ret (results_none rfl _ _ _) rfl ?_
  refine ⟨rfl,_,?_,hS⟩
  rw [hfin.out]
  simpa [byL] using hW.out
set_option maxRecDepth 100000 in
set_option maxHeartbeats 2000000 in
theorem entry_yynn {w : World} {base g : Nat} {ob : Option Nat} {P : List Value} {ns no nf nl xs xo xf xl : Int} (h : WrS w base g ob P) (hbase : base ≤ w.heap.size) (hn : P.length ≤ 4000000) (hr1 : RngOk ⟨ns,no,nf,nl⟩) (hr2 : RngOk ⟨xs,xo,xf,xl⟩)
    (hs : ns < xs) (cA : xs ≠ ns) (cF : xf ≠ nf) (cO : offB (xo - 0) = 0) (cL : lineB (xl - nl) = 0) :
    Calls Tryz.prog 102 #[.pointer (some ⟨g,0,none⟩),.agg #[.int .i64 ns,.int .i64 no,.int .i64 nf,.int .i64 nl],.agg #[.int .i64 xs,.int .i64 xo,.int .i64 xf,.int .i64 xl]] w (WrR base g ob (P ++ byL (entryL ⟨ns,no,nf,nl⟩ ⟨xs,xo,xf,xl⟩)) w):=by
  unfold RngOk at hr1 hr2
  dsimp only at hr1 hr2
  obtain ⟨e,he⟩ : ∃ e : Int,e = xl - nl:=⟨_,rfl⟩
  obtain ⟨m,hm⟩ : ∃ m : Int,m = offB xo:=⟨_,rfl⟩
  obtain ⟨m2,hm2⟩ : ∃ m2 : Int,m2 = lineB e:=⟨_,rfl⟩
  have hdi:=offB_in (d:=xo) (by omega) (by omega)
  have hei:=lineB_in (d:=e) (by omega) (by omega)
  have hof:=fun W=>offB_c (w:=W) (d:=xo) (by omega) (by omega)
  have hli:=fun W=>lineB_c (w:=W) (d:=e) (by omega) (by omega)
  rw [Int.sub_zero,← hm] at cO
  rw [← he,← hm2] at cL
  rw [← hm] at hdi hof
  rw [← hm2] at hei hli
  obtain ⟨q,hq⟩ : ∃ q : Int,q = xo - m:=⟨_,rfl⟩
  obtain ⟨l,hl⟩ : ∃ l : Int,l = e - m2:=⟨_,rfl⟩
  obtain ⟨z,hz⟩ : ∃ z : Int,z = 64 + q / 4 * 16 + l + 4:=⟨_,rfl⟩
  have hfin : entryL ⟨ns,no,nf,nl⟩ ⟨xs,xo,xf,xl⟩ = (4 :: numL (xs - ns).toNat) ++ ((3 :: numL xf.toNat) ++ ([z])):=by
    unfold entryL secP fileP offP lineP lastP offD
    dsimp only
    rw [if_neg cA,if_neg cA]
    rw [if_neg cF]
    rw [Int.sub_zero,← he,← hm,← hm2,← hq,← hl,← hz]
    rw [if_pos cO]
    rw [if_pos cL]
    all_goals rfl
  have hfin:=Lib.hid hfin
  have wA : wrap64 (xs - ns) = xs - ns:=by unfold wrap64;omega
  have cA' : (xs != ns) = true:=bne_iff_ne.2 cA
  have lA:=numL_le9 (n:=(xs - ns).toNat) (by omega)
  have cF' : (xf != nf) = true:=bne_iff_ne.2 cF
  have lF:=numL_le9 (n:=xf.toNat) (by omega)
  have w2 : wrap64 (xl - nl) = e:=by unfold wrap64;omega
  have w2c : xl - nl = e:=he.symm
  obtain rfl : xo = q:=by omega
  subst cO
  obtain rfl : l = e:=by omega
  subst cL
  obtain ⟨r,hr⟩ : ∃ r : Int,r = xo / 4:=⟨_,rfl⟩
  have w5 : xo.tdiv 4 = r:=by rw [Int.tdiv_eq_ediv_of_nonneg (by omega)];exact hr.symm
  have w5b : wrap64 r = r:=by unfold wrap64;omega
  obtain ⟨s,hsv⟩ : ∃ s : Int,s = r * 16:=⟨_,rfl⟩
  have w6 : wrap64 (r * 16) = s:=by unfold wrap64;omega
  have w6c : r * 16 = s:=hsv.symm
  obtain ⟨t,ht⟩ : ∃ t : Int,t = 64 + s:=⟨_,rfl⟩
  have w7 : wrap64 (64 + s) = t:=by unfold wrap64;omega
  have w7c : 64 + s = t:=ht.symm
  obtain ⟨u,hu⟩ : ∃ u : Int,u = t + l:=⟨_,rfl⟩
  have w8 : wrap64 (t + l) = u:=by unfold wrap64;omega
  have w8c : t + l = u:=hu.symm
  have w9 : wrap64 (u - -4) = z:=by unfold wrap64;omega
  have w9b : wrap64 (u + 4) = z:=by unfold wrap64;omega
  have w9c : u + 4 = z:=by omega
  have w9d : u - -4 = z:=by omega
  have hz0 : 0 ≤ z:=by omega
  have hz1 : z < 256:=by omega
  have w10 : z % 256 = z:=by omega
  clear he hm hm2 hq hl hz hr hsv ht hu
  have hlt:=h.lt
  have hE : EnvE ((w.alloc (.cells #[.int .i64 ns,.int .i64 no,.int .i64 nf,.int .i64 nl] 48)).alloc (.cells #[.int .i64 xs,.int .i64 xo,.int .i64 xf,.int .i64 xl] 48)) g ob w.heap.size ⟨ns,no,nf,nl⟩ ⟨xs,xo,xf,xl⟩:=by
    refine ⟨(lineB_new w ⟨ns,no,nf,nl⟩).alloc _,?_,fun e=>by have:=(hlt.2 _ e).2;omega,fun e=>by have:=(hlt.2 _ e).2;omega,by omega,by omega⟩
    have:=lineB_new (w.alloc (.cells #[.int .i64 ns,.int .i64 no,.int .i64 nf,.int .i64 nl] 48)) ⟨xs,xo,xf,xl⟩
    rwa [World.size_alloc] at this
  have hS : Wst w ((w.alloc (.cells #[.int .i64 ns,.int .i64 no,.int .i64 nf,.int .i64 nl] 48)).alloc (.cells #[.int .i64 xs,.int .i64 xo,.int .i64 xf,.int .i64 xl] 48)) g ob ob:=((Wst.refl w g ob).alloc _).alloc _
  have hW:=Lib.hid ((h.alloc (.cells #[.int .i64 ns,.int .i64 no,.int .i64 nf,.int .i64 nl] 48)).alloc (.cells #[.int .i64 xs,.int .i64 xo,.int .i64 xf,.int .i64 xl] 48))
  obtain ⟨a0,a1,a2,a3⟩:=hE.now.cells
  obtain ⟨n0,n1,n2,n3⟩:=hE.next.cells
  dsimp only at a0 a1 a2 a3 n0 n1 n2 n3
  have hcall:=fun u hu=>bytes1_c (hW.out.alloc (.cells #[u] 5)) (new_at2 _ _ _ u) hu (Nat.le_trans hbase (Nat.le_trans hS.size (by simp))) (by omega)
  clear h
  go_enter Tryz.func102,Tryz.ntmps102
  go_wp2_with fail
  go_at_call 76;refine (hcall _ rfl).mono ?_;rintro e w1 ⟨rfl,ob1,hW1,hS1⟩;have hE':=(hE.alloc _).step hS1;have hS':=(hS.alloc _).trans hS1;clear hE hS hW;have hE:=hE';have hS:=hS';clear hE' hS';have hW:=Lib.hid hW1;clear hW1 hS1 a0 a1 a2 a3 n0 n1 n2 n3;obtain ⟨a0,a1,a2,a3⟩:=hE.now.cells;obtain ⟨n0,n1,n2,n3⟩:=hE.next.cells;dsimp only at a0 a1 a2 a3 n0 n1 n2 n3;clear hcall;have hcall:=fun u hu=>bytes1_c (hW.out.alloc (.cells #[u] 5)) (new_cell w1 #[u] 5 0 u rfl) hu (Nat.le_trans hbase (Nat.le_trans hS.size (by simp))) (by first | omega | (simp [byL];omega))
  go_wp2_with fail
  go_at_call 170;refine (number_i hW.out (Nat.le_trans hbase hS.size) (by simp [byL];omega) (by omega) (by omega)).mono ?_;rintro e w1 ⟨rfl,ob1,hW1,hS1⟩;have hE':=hE.step hS1;have hS':=hS.trans hS1;clear hE hS hW;have hE:=hE';have hS:=hS';clear hE' hS';have hW:=Lib.hid hW1;clear hW1 hS1 a0 a1 a2 a3 n0 n1 n2 n3;obtain ⟨a0,a1,a2,a3⟩:=hE.now.cells;obtain ⟨n0,n1,n2,n3⟩:=hE.next.cells;dsimp only at a0 a1 a2 a3 n0 n1 n2 n3;clear hcall;have hcall:=fun u hu=>bytes1_c (hW.out.alloc (.cells #[u] 5)) (new_cell w1 #[u] 5 0 u rfl) hu (Nat.le_trans hbase (Nat.le_trans hS.size (by simp))) (by first | omega | (simp [byL];omega))
  have f0:=hE.now.frozen 1
  go_wp2_with fail
  have hW':=Lib.hid (hW.out.setCell (p:=⟨w.heap.size,1,none⟩) hE.g1 hE.o1 (.int .i64 0))
  have hS':=hS.setCell (p:=⟨w.heap.size,1,none⟩) (Nat.le_refl _) (.int .i64 0)
  have hE':=hE.zero
  clear hW hS hE f0 a0 a1 a2 a3 n0 n1 n2 n3
  have hW:=hW'
  have hS:=hS'
  have hE:=hE'
  clear hW' hS' hE' hcall
  have hcall:=fun u hu=>bytes1_c (hW.out.alloc (.cells #[u] 5)) (new_set _ _ _ u) hu (Nat.le_trans hbase (Nat.le_trans hS.size (by simp))) (by first | omega | (simp [byL];omega))
  obtain ⟨a0,a1,a2,a3⟩:=hE.now.cells
  obtain ⟨n0,n1,n2,n3⟩:=hE.next.cells
  dsimp only at a0 a1 a2 a3 n0 n1 n2 n3
  go_wp2_with (first
      | (go_at_call 76;refine (hcall _ rfl).mono ?_;rintro e w1 ⟨rfl,ob1,hW1,hS1⟩;have hE':=(hE.alloc _).step hS1;have hS':=(hS.alloc _).trans hS1;clear hE hS hW;have hE:=hE';have hS:=hS';clear hE' hS';have hW:=Lib.hid hW1;clear hW1 hS1 a0 a1 a2 a3 n0 n1 n2 n3;obtain ⟨a0,a1,a2,a3⟩:=hE.now.cells;obtain ⟨n0,n1,n2,n3⟩:=hE.next.cells;dsimp only at a0 a1 a2 a3 n0 n1 n2 n3;clear hcall;have hcall:=fun u hu=>bytes1_c (hW.out.alloc (.cells #[u] 5)) (new_cell w1 #[u] 5 0 u rfl) hu (Nat.le_trans hbase (Nat.le_trans hS.size (by simp))) (by first | omega | (simp [byL];omega)))
      | (go_at_call 170;refine (number_i hW.out (Nat.le_trans hbase hS.size) (by simp [byL];omega) (by omega) (by omega)).mono ?_;rintro e w1 ⟨rfl,ob1,hW1,hS1⟩;have hE':=hE.step hS1;have hS':=hS.trans hS1;clear hE hS hW;have hE:=hE';have hS:=hS';clear hE' hS';have hW:=Lib.hid hW1;clear hW1 hS1 a0 a1 a2 a3 n0 n1 n2 n3;obtain ⟨a0,a1,a2,a3⟩:=hE.now.cells;obtain ⟨n0,n1,n2,n3⟩:=hE.next.cells;dsimp only at a0 a1 a2 a3 n0 n1 n2 n3;clear hcall;have hcall:=fun u hu=>bytes1_c (hW.out.alloc (.cells #[u] 5)) (new_cell w1 #[u] 5 0 u rfl) hu (Nat.le_trans hbase (Nat.le_trans hS.size (by simp))) (by first | omega | (simp [byL];omega)))
      | (go_at_call 171;refine (signed_c hW.out (Nat.le_trans hbase hS.size) (by simp [byL];omega) (by omega) (by omega)).mono ?_;rintro e w1 ⟨rfl,ob1,hW1,hS1⟩;have hE':=hE.step hS1;have hS':=hS.trans hS1;clear hE hS hW;have hE:=hE';have hS:=hS';clear hE' hS';have hW:=Lib.hid hW1;clear hW1 hS1 a0 a1 a2 a3 n0 n1 n2 n3;obtain ⟨a0,a1,a2,a3⟩:=hE.now.cells;obtain ⟨n0,n1,n2,n3⟩:=hE.next.cells;dsimp only at a0 a1 a2 a3 n0 n1 n2 n3;clear hcall;have hcall:=fun u hu=>bytes1_c (hW.out.alloc (.cells #[u] 5)) (new_cell w1 #[u] 5 0 u rfl) hu (Nat.le_trans hbase (Nat.le_trans hS.size (by simp))) (by first | omega | (simp [byL];omega)))
      | (go_at_call 189;refine (hof _).mono ?_;rintro e w1 ⟨rfl,rfl⟩)
      | (go_at_call 190;refine (hli _).mono ?_;rintro e w1 ⟨rfl,rfl⟩))
  refine bodyPost_ret (results_none rfl _ _ _) rfl ?_
  refine ⟨rfl,_,?_,hS⟩
  rw [hfin.out]
  simpa [byL] using hW.out
set_option maxRecDepth 100000 in
set_option maxHeartbeats 2000000 in
theorem entry_yyny {w : World} {base g : Nat} {ob : Option Nat} {P : List Value} {ns no nf nl xs xo xf xl : Int} (h : WrS w base g ob P) (hbase : base ≤ w.heap.size) (hn : P.length ≤ 4000000) (hr1 : RngOk ⟨ns,no,nf,nl⟩) (hr2 : RngOk ⟨xs,xo,xf,xl⟩)
    (hs : ns < xs) (cA : xs ≠ ns) (cF : xf ≠ nf) (cO : offB (xo - 0) = 0) (cL : lineB (xl - nl) ≠ 0) :
    Calls Tryz.prog 102 #[.pointer (some ⟨g,0,none⟩),.agg #[.int .i64 ns,.int .i64 no,.int .i64 nf,.int .i64 nl],.agg #[.int .i64 xs,.int .i64 xo,.int .i64 xf,.int .i64 xl]] w (WrR base g ob (P ++ byL (entryL ⟨ns,no,nf,nl⟩ ⟨xs,xo,xf,xl⟩)) w):=by
  unfold RngOk at hr1 hr2
  dsimp only at hr1 hr2
  obtain ⟨e,he⟩ : ∃ e : Int,e = xl - nl:=⟨_,rfl⟩
  obtain ⟨m,hm⟩ : ∃ m : Int,m = offB xo:=⟨_,rfl⟩
  obtain ⟨m2,hm2⟩ : ∃ m2 : Int,m2 = lineB e:=⟨_,rfl⟩
  have hdi:=offB_in (d:=xo) (by omega) (by omega)
  have hei:=lineB_in (d:=e) (by omega) (by omega)
  have hof:=fun W=>offB_c (w:=W) (d:=xo) (by omega) (by omega)
  have hli:=fun W=>lineB_c (w:=W) (d:=e) (by omega) (by omega)
  rw [Int.sub_zero,← hm] at cO
  rw [← he,← hm2] at cL
  rw [← hm] at hdi hof
  rw [← hm2] at hei hli
  obtain ⟨q,hq⟩ : ∃ q : Int,q = xo - m:=⟨_,rfl⟩
  obtain ⟨l,hl⟩ : ∃ l : Int,l = e - m2:=⟨_,rfl⟩
  obtain ⟨z,hz⟩ : ∃ z : Int,z = 64 + q / 4 * 16 + l + 4:=⟨_,rfl⟩
  have hfin : entryL ⟨ns,no,nf,nl⟩ ⟨xs,xo,xf,xl⟩ = (4 :: numL (xs - ns).toNat) ++ ((3 :: numL xf.toNat) ++ ((2 :: numL (zig m2)) ++ ([z]))):=by
    unfold entryL secP fileP offP lineP lastP offD
    dsimp only
    rw [if_neg cA,if_neg cA]
    rw [if_neg cF]
    rw [Int.sub_zero,← he,← hm,← hm2,← hq,← hl,← hz]
    rw [if_pos cO]
    rw [if_neg cL]
    all_goals rfl
  have hfin:=Lib.hid hfin
  have wA : wrap64 (xs - ns) = xs - ns:=by unfold wrap64;omega
  have cA' : (xs != ns) = true:=bne_iff_ne.2 cA
  have lA:=numL_le9 (n:=(xs - ns).toNat) (by omega)
  have cF' : (xf != nf) = true:=bne_iff_ne.2 cF
  have lF:=numL_le9 (n:=xf.toNat) (by omega)
  have w2 : wrap64 (xl - nl) = e:=by unfold wrap64;omega
  have w2c : xl - nl = e:=he.symm
  have cL' : (m2 != 0) = true:=bne_iff_ne.2 cL
  have w4 : wrap64 (e - m2) = l:=by unfold wrap64;omega
  have w4c : e - m2 = l:=hl.symm
  have lL:=numL_le9 (n:=zig m2) (zig_in (by omega) (by omega))
  obtain rfl : xo = q:=by omega
  subst cO
  obtain ⟨r,hr⟩ : ∃ r : Int,r = xo / 4:=⟨_,rfl⟩
  have w5 : xo.tdiv 4 = r:=by rw [Int.tdiv_eq_ediv_of_nonneg (by omega)];exact hr.symm
  have w5b : wrap64 r = r:=by unfold wrap64;omega
  obtain ⟨s,hsv⟩ : ∃ s : Int,s = r * 16:=⟨_,rfl⟩
  have w6 : wrap64 (r * 16) = s:=by unfold wrap64;omega
  have w6c : r * 16 = s:=hsv.symm
  obtain ⟨t,ht⟩ : ∃ t : Int,t = 64 + s:=⟨_,rfl⟩
  have w7 : wrap64 (64 + s) = t:=by unfold wrap64;omega
  have w7c : 64 + s = t:=ht.symm
  obtain ⟨u,hu⟩ : ∃ u : Int,u = t + l:=⟨_,rfl⟩
  have w8 : wrap64 (t + l) = u:=by unfold wrap64;omega
  have w8c : t + l = u:=hu.symm
  have w9 : wrap64 (u - -4) = z:=by unfold wrap64;omega
  have w9b : wrap64 (u + 4) = z:=by unfold wrap64;omega
  have w9c : u + 4 = z:=by omega
  have w9d : u - -4 = z:=by omega
  have hz0 : 0 ≤ z:=by omega
  have hz1 : z < 256:=by omega
  have w10 : z % 256 = z:=by omega
  clear he hm hm2 hq hl hz hr hsv ht hu
  have hlt:=h.lt
  have hE : EnvE ((w.alloc (.cells #[.int .i64 ns,.int .i64 no,.int .i64 nf,.int .i64 nl] 48)).alloc (.cells #[.int .i64 xs,.int .i64 xo,.int .i64 xf,.int .i64 xl] 48)) g ob w.heap.size ⟨ns,no,nf,nl⟩ ⟨xs,xo,xf,xl⟩:=by
    refine ⟨(lineB_new w ⟨ns,no,nf,nl⟩).alloc _,?_,fun e=>by have:=(hlt.2 _ e).2;omega,fun e=>by have:=(hlt.2 _ e).2;omega,by omega,by omega⟩
    have:=lineB_new (w.alloc (.cells #[.int .i64 ns,.int .i64 no,.int .i64 nf,.int .i64 nl] 48)) ⟨xs,xo,xf,xl⟩
    rwa [World.size_alloc] at this
  have hS : Wst w ((w.alloc (.cells #[.int .i64 ns,.int .i64 no,.int .i64 nf,.int .i64 nl] 48)).alloc (.cells #[.int .i64 xs,.int .i64 xo,.int .i64 xf,.int .i64 xl] 48)) g ob ob:=((Wst.refl w g ob).alloc _).alloc _
  have hW:=Lib.hid ((h.alloc (.cells #[.int .i64 ns,.int .i64 no,.int .i64 nf,.int .i64 nl] 48)).alloc (.cells #[.int .i64 xs,.int .i64 xo,.int .i64 xf,.int .i64 xl] 48))
  obtain ⟨a0,a1,a2,a3⟩:=hE.now.cells
  obtain ⟨n0,n1,n2,n3⟩:=hE.next.cells
  dsimp only at a0 a1 a2 a3 n0 n1 n2 n3
  have hcall:=fun u hu=>bytes1_c (hW.out.alloc (.cells #[u] 5)) (new_at2 _ _ _ u) hu (Nat.le_trans hbase (Nat.le_trans hS.size (by simp))) (by omega)
  clear h
  go_enter Tryz.func102,Tryz.ntmps102
  go_wp2_with fail
  go_at_call 76;refine (hcall _ rfl).mono ?_;rintro e w1 ⟨rfl,ob1,hW1,hS1⟩;have hE':=(hE.alloc _).step hS1;have hS':=(hS.alloc _).trans hS1;clear hE hS hW;have hE:=hE';have hS:=hS';clear hE' hS';have hW:=Lib.hid hW1;clear hW1 hS1 a0 a1 a2 a3 n0 n1 n2 n3;obtain ⟨a0,a1,a2,a3⟩:=hE.now.cells;obtain ⟨n0,n1,n2,n3⟩:=hE.next.cells;dsimp only at a0 a1 a2 a3 n0 n1 n2 n3;clear hcall;have hcall:=fun u hu=>bytes1_c (hW.out.alloc (.cells #[u] 5)) (new_cell w1 #[u] 5 0 u rfl) hu (Nat.le_trans hbase (Nat.le_trans hS.size (by simp))) (by first | omega | (simp [byL];omega))
  go_wp2_with fail
  go_at_call 170;refine (number_i hW.out (Nat.le_trans hbase hS.size) (by simp [byL];omega) (by omega) (by omega)).mono ?_;rintro e w1 ⟨rfl,ob1,hW1,hS1⟩;have hE':=hE.step hS1;have hS':=hS.trans hS1;clear hE hS hW;have hE:=hE';have hS:=hS';clear hE' hS';have hW:=Lib.hid hW1;clear hW1 hS1 a0 a1 a2 a3 n0 n1 n2 n3;obtain ⟨a0,a1,a2,a3⟩:=hE.now.cells;obtain ⟨n0,n1,n2,n3⟩:=hE.next.cells;dsimp only at a0 a1 a2 a3 n0 n1 n2 n3;clear hcall;have hcall:=fun u hu=>bytes1_c (hW.out.alloc (.cells #[u] 5)) (new_cell w1 #[u] 5 0 u rfl) hu (Nat.le_trans hbase (Nat.le_trans hS.size (by simp))) (by first | omega | (simp [byL];omega))
  have f0:=hE.now.frozen 1
  go_wp2_with fail
  have hW':=Lib.hid (hW.out.setCell (p:=⟨w.heap.size,1,none⟩) hE.g1 hE.o1 (.int .i64 0))
  have hS':=hS.setCell (p:=⟨w.heap.size,1,none⟩) (Nat.le_refl _) (.int .i64 0)
  have hE':=hE.zero
  clear hW hS hE f0 a0 a1 a2 a3 n0 n1 n2 n3
  have hW:=hW'
  have hS:=hS'
  have hE:=hE'
  clear hW' hS' hE' hcall
  have hcall:=fun u hu=>bytes1_c (hW.out.alloc (.cells #[u] 5)) (new_set _ _ _ u) hu (Nat.le_trans hbase (Nat.le_trans hS.size (by simp))) (by first | omega | (simp [byL];omega))
  obtain ⟨a0,a1,a2,a3⟩:=hE.now.cells
  obtain ⟨n0,n1,n2,n3⟩:=hE.next.cells
  dsimp only at a0 a1 a2 a3 n0 n1 n2 n3
  go_wp2_with (first
      | (go_at_call 76;refine (hcall _ rfl).mono ?_;rintro e w1 ⟨rfl,ob1,hW1,hS1⟩;have hE':=(hE.alloc _).step hS1;have hS':=(hS.alloc _).trans hS1;clear hE hS hW;have hE:=hE';have hS:=hS';clear hE' hS';have hW:=Lib.hid hW1;clear hW1 hS1 a0 a1 a2 a3 n0 n1 n2 n3;obtain ⟨a0,a1,a2,a3⟩:=hE.now.cells;obtain ⟨n0,n1,n2,n3⟩:=hE.next.cells;dsimp only at a0 a1 a2 a3 n0 n1 n2 n3;clear hcall;have hcall:=fun u hu=>bytes1_c (hW.out.alloc (.cells #[u] 5)) (new_cell w1 #[u] 5 0 u rfl) hu (Nat.le_trans hbase (Nat.le_trans hS.size (by simp))) (by first | omega | (simp [byL];omega)))
      | (go_at_call 170;refine (number_i hW.out (Nat.le_trans hbase hS.size) (by simp [byL];omega) (by omega) (by omega)).mono ?_;rintro e w1 ⟨rfl,ob1,hW1,hS1⟩;have hE':=hE.step hS1;have hS':=hS.trans hS1;clear hE hS hW;have hE:=hE';have hS:=hS';clear hE' hS';have hW:=Lib.hid hW1;clear hW1 hS1 a0 a1 a2 a3 n0 n1 n2 n3;obtain ⟨a0,a1,a2,a3⟩:=hE.now.cells;obtain ⟨n0,n1,n2,n3⟩:=hE.next.cells;dsimp only at a0 a1 a2 a3 n0 n1 n2 n3;clear hcall;have hcall:=fun u hu=>bytes1_c (hW.out.alloc (.cells #[u] 5)) (new_cell w1 #[u] 5 0 u rfl) hu (Nat.le_trans hbase (Nat.le_trans hS.size (by simp))) (by first | omega | (simp [byL];omega)))
      | (go_at_call 171;refine (signed_c hW.out (Nat.le_trans hbase hS.size) (by simp [byL];omega) (by omega) (by omega)).mono ?_;rintro e w1 ⟨rfl,ob1,hW1,hS1⟩;have hE':=hE.step hS1;have hS':=hS.trans hS1;clear hE hS hW;have hE:=hE';have hS:=hS';clear hE' hS';have hW:=Lib.hid hW1;clear hW1 hS1 a0 a1 a2 a3 n0 n1 n2 n3;obtain ⟨a0,a1,a2,a3⟩:=hE.now.cells;obtain ⟨n0,n1,n2,n3⟩:=hE.next.cells;dsimp only at a0 a1 a2 a3 n0 n1 n2 n3;clear hcall;have hcall:=fun u hu=>bytes1_c (hW.out.alloc (.cells #[u] 5)) (new_cell w1 #[u] 5 0 u rfl) hu (Nat.le_trans hbase (Nat.le_trans hS.size (by simp))) (by first | omega | (simp [byL];omega)))
      | (go_at_call 189;refine (hof _).mono ?_;rintro e w1 ⟨rfl,rfl⟩)
      | (go_at_call 190;refine (hli _).mono ?_;rintro e w1 ⟨rfl,rfl⟩))
  refine bodyPost_ret (results_none rfl _ _ _) rfl ?_
  refine ⟨rfl,_,?_,hS⟩
  rw [hfin.out]
  simpa [byL] using hW.out
set_option maxRecDepth 100000 in
set_option maxHeartbeats 2000000 in
theorem entry_yyyn {w : World} {base g : Nat} {ob : Option Nat} {P : List Value} {ns no nf nl xs xo xf xl : Int} (h : WrS w base g ob P) (hbase : base ≤ w.heap.size) (hn : P.length ≤ 4000000) (hr1 : RngOk ⟨ns,no,nf,nl⟩) (hr2 : RngOk ⟨xs,xo,xf,xl⟩)
    (hs : ns < xs) (cA : xs ≠ ns) (cF : xf ≠ nf) (cO : offB (xo - 0) ≠ 0) (cL : lineB (xl - nl) = 0) :
    Calls Tryz.prog 102 #[.pointer (some ⟨g,0,none⟩),.agg #[.int .i64 ns,.int .i64 no,.int .i64 nf,.int .i64 nl],.agg #[.int .i64 xs,.int .i64 xo,.int .i64 xf,.int .i64 xl]] w (WrR base g ob (P ++ byL (entryL ⟨ns,no,nf,nl⟩ ⟨xs,xo,xf,xl⟩)) w):=by
  unfold RngOk at hr1 hr2
  dsimp only at hr1 hr2
  obtain ⟨e,he⟩ : ∃ e : Int,e = xl - nl:=⟨_,rfl⟩
  obtain ⟨m,hm⟩ : ∃ m : Int,m = offB xo:=⟨_,rfl⟩
  obtain ⟨m2,hm2⟩ : ∃ m2 : Int,m2 = lineB e:=⟨_,rfl⟩
  have hdi:=offB_in (d:=xo) (by omega) (by omega)
  have hei:=lineB_in (d:=e) (by omega) (by omega)
  have hof:=fun W=>offB_c (w:=W) (d:=xo) (by omega) (by omega)
  have hli:=fun W=>lineB_c (w:=W) (d:=e) (by omega) (by omega)
  rw [Int.sub_zero,← hm] at cO
  rw [← he,← hm2] at cL
  rw [← hm] at hdi hof
  rw [← hm2] at hei hli
  obtain ⟨q,hq⟩ : ∃ q : Int,q = xo - m:=⟨_,rfl⟩
  obtain ⟨l,hl⟩ : ∃ l : Int,l = e - m2:=⟨_,rfl⟩
  obtain ⟨z,hz⟩ : ∃ z : Int,z = 64 + q / 4 * 16 + l + 4:=⟨_,rfl⟩
  have hfin : entryL ⟨ns,no,nf,nl⟩ ⟨xs,xo,xf,xl⟩ = (4 :: numL (xs - ns).toNat) ++ ((3 :: numL xf.toNat) ++ ((1 :: numL m.toNat) ++ ([z]))):=by
    unfold entryL secP fileP offP lineP lastP offD
    dsimp only
    rw [if_neg cA,if_neg cA]
    rw [if_neg cF]
    rw [Int.sub_zero,← he,← hm,← hm2,← hq,← hl,← hz]
    rw [if_neg cO]
    rw [if_pos cL]
    all_goals rfl
  have hfin:=Lib.hid hfin
  have wA : wrap64 (xs - ns) = xs - ns:=by unfold wrap64;omega
  have cA' : (xs != ns) = true:=bne_iff_ne.2 cA
  have lA:=numL_le9 (n:=(xs - ns).toNat) (by omega)
  have cF' : (xf != nf) = true:=bne_iff_ne.2 cF
  have lF:=numL_le9 (n:=xf.toNat) (by omega)
  have w2 : wrap64 (xl - nl) = e:=by unfold wrap64;omega
  have w2c : xl - nl = e:=he.symm
  have cO' : (m != 0) = true:=bne_iff_ne.2 cO
  have w3 : wrap64 (xo - m) = q:=by unfold wrap64;omega
  have w3c : xo - m = q:=hq.symm
  have lO:=numL_le9 (n:=m.toNat) (by omega)
  obtain rfl : l = e:=by omega
  subst cL
  obtain ⟨r,hr⟩ : ∃ r : Int,r = q / 4:=⟨_,rfl⟩
  have w5 : q.tdiv 4 = r:=by rw [Int.tdiv_eq_ediv_of_nonneg (by omega)];exact hr.symm
  have w5b : wrap64 r = r:=by unfold wrap64;omega
  obtain ⟨s,hsv⟩ : ∃ s : Int,s = r * 16:=⟨_,rfl⟩
  have w6 : wrap64 (r * 16) = s:=by unfold wrap64;omega
  have w6c : r * 16 = s:=hsv.symm
  obtain ⟨t,ht⟩ : ∃ t : Int,t = 64 + s:=⟨_,rfl⟩
  have w7 : wrap64 (64 + s) = t:=by unfold wrap64;omega
  have w7c : 64 + s = t:=ht.symm
  obtain ⟨u,hu⟩ : ∃ u : Int,u = t + l:=⟨_,rfl⟩
  have w8 : wrap64 (t + l) = u:=by unfold wrap64;omega
  have w8c : t + l = u:=hu.symm
  have w9 : wrap64 (u - -4) = z:=by unfold wrap64;omega
  have w9b : wrap64 (u + 4) = z:=by unfold wrap64;omega
  have w9c : u + 4 = z:=by omega
  have w9d : u - -4 = z:=by omega
  have hz0 : 0 ≤ z:=by omega
  have hz1 : z < 256:=by omega
  have w10 : z % 256 = z:=by omega
  clear he hm hm2 hq hl hz hr hsv ht hu
  have hlt:=h.lt
  have hE : EnvE ((w.alloc (.cells #[.int .i64 ns,.int .i64 no,.int .i64 nf,.int .i64 nl] 48)).alloc (.cells #[.int .i64 xs,.int .i64 xo,.int .i64 xf,.int .i64 xl] 48)) g ob w.heap.size ⟨ns,no,nf,nl⟩ ⟨xs,xo,xf,xl⟩:=by
    refine ⟨(lineB_new w ⟨ns,no,nf,nl⟩).alloc _,?_,fun e=>by have:=(hlt.2 _ e).2;omega,fun e=>by have:=(hlt.2 _ e).2;omega,by omega,by omega⟩
    have:=lineB_new (w.alloc (.cells #[.int .i64 ns,.int .i64 no,.int .i64 nf,.int .i64 nl] 48)) ⟨xs,xo,xf,xl⟩
    rwa [World.size_alloc] at this
  have hS : Wst w ((w.alloc (.cells #[.int .i64 ns,.int .i64 no,.int .i64 nf,.int .i64 nl] 48)).alloc (.cells #[.int .i64 xs,.int .i64 xo,.int .i64 xf,.int .i64 xl] 48)) g ob ob:=((Wst.refl w g ob).alloc _).alloc _
  have hW:=Lib.hid ((h.alloc (.cells #[.int .i64 ns,.int .i64 no,.int .i64 nf,.int .i64 nl] 48)).alloc (.cells #[.int .i64 xs,.int .i64 xo,.int .i64 xf,.int .i64 xl] 48))
  obtain ⟨a0,a1,a2,a3⟩:=hE.now.cells
  obtain ⟨n0,n1,n2,n3⟩:=hE.next.cells
  dsimp only at a0 a1 a2 a3 n0 n1 n2 n3
  have hcall:=fun u hu=>bytes1_c (hW.out.alloc (.cells #[u] 5)) (new_at2 _ _ _ u) hu (Nat.le_trans hbase (Nat.le_trans hS.size (by simp))) (by omega)
  clear h
  go_enter Tryz.func102,Tryz.ntmps102
  go_wp2_with fail
  go_at_call 76;refine (hcall _ rfl).mono ?_;rintro e w1 ⟨rfl,ob1,hW1,hS1⟩;have hE':=(hE.alloc _).step hS1;have hS':=(hS.alloc _).trans hS1;clear hE hS hW;have hE:=hE';have hS:=hS';clear hE' hS';have hW:=Lib.hid hW1;clear hW1 hS1 a0 a1 a2 a3 n0 n1 n2 n3;obtain ⟨a0,a1,a2,a3⟩:=hE.now.cells;obtain ⟨n0,n1,n2,n3⟩:=hE.next.cells;dsimp only at a0 a1 a2 a3 n0 n1 n2 n3;clear hcall;have hcall:=fun u hu=>bytes1_c (hW.out.alloc (.cells #[u] 5)) (new_cell w1 #[u] 5 0 u rfl) hu (Nat.le_trans hbase (Nat.le_trans hS.size (by simp))) (by first | omega | (simp [byL];omega))
  go_wp2_with fail
  go_at_call 170;refine (number_i hW.out (Nat.le_trans hbase hS.size) (by simp [byL];omega) (by omega) (by omega)).mono ?_;rintro e w1 ⟨rfl,ob1,hW1,hS1⟩;have hE':=hE.step hS1;have hS':=hS.trans hS1;clear hE hS hW;have hE:=hE';have hS:=hS';clear hE' hS';have hW:=Lib.hid hW1;clear hW1 hS1 a0 a1 a2 a3 n0 n1 n2 n3;obtain ⟨a0,a1,a2,a3⟩:=hE.now.cells;obtain ⟨n0,n1,n2,n3⟩:=hE.next.cells;dsimp only at a0 a1 a2 a3 n0 n1 n2 n3;clear hcall;have hcall:=fun u hu=>bytes1_c (hW.out.alloc (.cells #[u] 5)) (new_cell w1 #[u] 5 0 u rfl) hu (Nat.le_trans hbase (Nat.le_trans hS.size (by simp))) (by first | omega | (simp [byL];omega))
  have f0:=hE.now.frozen 1
  go_wp2_with fail
  have hW':=Lib.hid (hW.out.setCell (p:=⟨w.heap.size,1,none⟩) hE.g1 hE.o1 (.int .i64 0))
  have hS':=hS.setCell (p:=⟨w.heap.size,1,none⟩) (Nat.le_refl _) (.int .i64 0)
  have hE':=hE.zero
  clear hW hS hE f0 a0 a1 a2 a3 n0 n1 n2 n3
  have hW:=hW'
  have hS:=hS'
  have hE:=hE'
  clear hW' hS' hE' hcall
  have hcall:=fun u hu=>bytes1_c (hW.out.alloc (.cells #[u] 5)) (new_set _ _ _ u) hu (Nat.le_trans hbase (Nat.le_trans hS.size (by simp))) (by first | omega | (simp [byL];omega))
  obtain ⟨a0,a1,a2,a3⟩:=hE.now.cells
  obtain ⟨n0,n1,n2,n3⟩:=hE.next.cells
  dsimp only at a0 a1 a2 a3 n0 n1 n2 n3
  go_wp2_with (first
      | (go_at_call 76;refine (hcall _ rfl).mono ?_;rintro e w1 ⟨rfl,ob1,hW1,hS1⟩;have hE':=(hE.alloc _).step hS1;have hS':=(hS.alloc _).trans hS1;clear hE hS hW;have hE:=hE';have hS:=hS';clear hE' hS';have hW:=Lib.hid hW1;clear hW1 hS1 a0 a1 a2 a3 n0 n1 n2 n3;obtain ⟨a0,a1,a2,a3⟩:=hE.now.cells;obtain ⟨n0,n1,n2,n3⟩:=hE.next.cells;dsimp only at a0 a1 a2 a3 n0 n1 n2 n3;clear hcall;have hcall:=fun u hu=>bytes1_c (hW.out.alloc (.cells #[u] 5)) (new_cell w1 #[u] 5 0 u rfl) hu (Nat.le_trans hbase (Nat.le_trans hS.size (by simp))) (by first | omega | (simp [byL];omega)))
      | (go_at_call 170;refine (number_i hW.out (Nat.le_trans hbase hS.size) (by simp [byL];omega) (by omega) (by omega)).mono ?_;rintro e w1 ⟨rfl,ob1,hW1,hS1⟩;have hE':=hE.step hS1;have hS':=hS.trans hS1;clear hE hS hW;have hE:=hE';have hS:=hS';clear hE' hS';have hW:=Lib.hid hW1;clear hW1 hS1 a0 a1 a2 a3 n0 n1 n2 n3;obtain ⟨a0,a1,a2,a3⟩:=hE.now.cells;obtain ⟨n0,n1,n2,n3⟩:=hE.next.cells;dsimp only at a0 a1 a2 a3 n0 n1 n2 n3;clear hcall;have hcall:=fun u hu=>bytes1_c (hW.out.alloc (.cells #[u] 5)) (new_cell w1 #[u] 5 0 u rfl) hu (Nat.le_trans hbase (Nat.le_trans hS.size (by simp))) (by first | omega | (simp [byL];omega)))
      | (go_at_call 171;refine (signed_c hW.out (Nat.le_trans hbase hS.size) (by simp [byL];omega) (by omega) (by omega)).mono ?_;rintro e w1 ⟨rfl,ob1,hW1,hS1⟩;have hE':=hE.step hS1;have hS':=hS.trans hS1;clear hE hS hW;have hE:=hE';have hS:=hS';clear hE' hS';have hW:=Lib.hid hW1;clear hW1 hS1 a0 a1 a2 a3 n0 n1 n2 n3;obtain ⟨a0,a1,a2,a3⟩:=hE.now.cells;obtain ⟨n0,n1,n2,n3⟩:=hE.next.cells;dsimp only at a0 a1 a2 a3 n0 n1 n2 n3;clear hcall;have hcall:=fun u hu=>bytes1_c (hW.out.alloc (.cells #[u] 5)) (new_cell w1 #[u] 5 0 u rfl) hu (Nat.le_trans hbase (Nat.le_trans hS.size (by simp))) (by first | omega | (simp [byL];omega)))
      | (go_at_call 189;refine (hof _).mono ?_;rintro e w1 ⟨rfl,rfl⟩)
      | (go_at_call 190;refine (hli _).mono ?_;rintro e w1 ⟨rfl,rfl⟩))
  refine bodyPost_ret (results_none rfl _ _ _) rfl ?_
  refine ⟨rfl,_,?_,hS⟩
  rw [hfin.out]
  simpa [byL] using hW.out
set_option maxRecDepth 100000 in
set_option maxHeartbeats 2000000 in
theorem entry_yyyy {w : World} {base g : Nat} {ob : Option Nat} {P : List Value} {ns no nf nl xs xo xf xl : Int} (h : WrS w base g ob P) (hbase : base ≤ w.heap.size) (hn : P.length ≤ 4000000) (hr1 : RngOk ⟨ns,no,nf,nl⟩) (hr2 : RngOk ⟨xs,xo,xf,xl⟩)
    (hs : ns < xs) (cA : xs ≠ ns) (cF : xf ≠ nf) (cO : offB (xo - 0) ≠ 0) (cL : lineB (xl - nl) ≠ 0) :
    Calls Tryz.prog 102 #[.pointer (some ⟨g,0,none⟩),.agg #[.int .i64 ns,.int .i64 no,.int .i64 nf,.int .i64 nl],.agg #[.int .i64 xs,.int .i64 xo,.int .i64 xf,.int .i64 xl]] w (WrR base g ob (P ++ byL (entryL ⟨ns,no,nf,nl⟩ ⟨xs,xo,xf,xl⟩)) w):=by
  unfold RngOk at hr1 hr2
  dsimp only at hr1 hr2
  obtain ⟨e,he⟩ : ∃ e : Int,e = xl - nl:=⟨_,rfl⟩
  obtain ⟨m,hm⟩ : ∃ m : Int,m = offB xo:=⟨_,rfl⟩
  obtain ⟨m2,hm2⟩ : ∃ m2 : Int,m2 = lineB e:=⟨_,rfl⟩
  have hdi:=offB_in (d:=xo) (by omega) (by omega)
  have hei:=lineB_in (d:=e) (by omega) (by omega)
  have hof:=fun W=>offB_c (w:=W) (d:=xo) (by omega) (by omega)
  have hli:=fun W=>lineB_c (w:=W) (d:=e) (by omega) (by omega)
  rw [Int.sub_zero,← hm] at cO
  rw [← he,← hm2] at cL
  rw [← hm] at hdi hof
  rw [← hm2] at hei hli
  obtain ⟨q,hq⟩ : ∃ q : Int,q = xo - m:=⟨_,rfl⟩
  obtain ⟨l,hl⟩ : ∃ l : Int,l = e - m2:=⟨_,rfl⟩
  obtain ⟨z,hz⟩ : ∃ z : Int,z = 64 + q / 4 * 16 + l + 4:=⟨_,rfl⟩
  have hfin : entryL ⟨ns,no,nf,nl⟩ ⟨xs,xo,xf,xl⟩ = (4 :: numL (xs - ns).toNat) ++ ((3 :: numL xf.toNat) ++ ((1 :: numL m.toNat) ++ ((2 :: numL (zig m2)) ++ ([z])))):=by
    unfold entryL secP fileP offP lineP lastP offD
    dsimp only
    rw [if_neg cA,if_neg cA]
    rw [if_neg cF]
    rw [Int.sub_zero,← he,← hm,← hm2,← hq,← hl,← hz]
    rw [if_neg cO]
    rw [if_neg cL]
    all_goals rfl
  have hfin:=Lib.hid hfin
  have wA : wrap64 (xs - ns) = xs - ns:=by unfold wrap64;omega
  have cA' : (xs != ns) = true:=bne_iff_ne.2 cA
  have lA:=numL_le9 (n:=(xs - ns).toNat) (by omega)
  have cF' : (xf != nf) = true:=bne_iff_ne.2 cF
  have lF:=numL_le9 (n:=xf.toNat) (by omega)
  have w2 : wrap64 (xl - nl) = e:=by unfold wrap64;omega
  have w2c : xl - nl = e:=he.symm
  have cO' : (m != 0) = true:=bne_iff_ne.2 cO
  have w3 : wrap64 (xo - m) = q:=by unfold wrap64;omega
  have w3c : xo - m = q:=hq.symm
  have lO:=numL_le9 (n:=m.toNat) (by omega)
  have cL' : (m2 != 0) = true:=bne_iff_ne.2 cL
  have w4 : wrap64 (e - m2) = l:=by unfold wrap64;omega
  have w4c : e - m2 = l:=hl.symm
  have lL:=numL_le9 (n:=zig m2) (zig_in (by omega) (by omega))
  obtain ⟨r,hr⟩ : ∃ r : Int,r = q / 4:=⟨_,rfl⟩
  have w5 : q.tdiv 4 = r:=by rw [Int.tdiv_eq_ediv_of_nonneg (by omega)];exact hr.symm
  have w5b : wrap64 r = r:=by unfold wrap64;omega
  obtain ⟨s,hsv⟩ : ∃ s : Int,s = r * 16:=⟨_,rfl⟩
  have w6 : wrap64 (r * 16) = s:=by unfold wrap64;omega
  have w6c : r * 16 = s:=hsv.symm
  obtain ⟨t,ht⟩ : ∃ t : Int,t = 64 + s:=⟨_,rfl⟩
  have w7 : wrap64 (64 + s) = t:=by unfold wrap64;omega
  have w7c : 64 + s = t:=ht.symm
  obtain ⟨u,hu⟩ : ∃ u : Int,u = t + l:=⟨_,rfl⟩
  have w8 : wrap64 (t + l) = u:=by unfold wrap64;omega
  have w8c : t + l = u:=hu.symm
  have w9 : wrap64 (u - -4) = z:=by unfold wrap64;omega
  have w9b : wrap64 (u + 4) = z:=by unfold wrap64;omega
  have w9c : u + 4 = z:=by omega
  have w9d : u - -4 = z:=by omega
  have hz0 : 0 ≤ z:=by omega
  have hz1 : z < 256:=by omega
  have w10 : z % 256 = z:=by omega
  clear he hm hm2 hq hl hz hr hsv ht hu
  have hlt:=h.lt
  have hE : EnvE ((w.alloc (.cells #[.int .i64 ns,.int .i64 no,.int .i64 nf,.int .i64 nl] 48)).alloc (.cells #[.int .i64 xs,.int .i64 xo,.int .i64 xf,.int .i64 xl] 48)) g ob w.heap.size ⟨ns,no,nf,nl⟩ ⟨xs,xo,xf,xl⟩:=by
    refine ⟨(lineB_new w ⟨ns,no,nf,nl⟩).alloc _,?_,fun e=>by have:=(hlt.2 _ e).2;omega,fun e=>by have:=(hlt.2 _ e).2;omega,by omega,by omega⟩
    have:=lineB_new (w.alloc (.cells #[.int .i64 ns,.int .i64 no,.int .i64 nf,.int .i64 nl] 48)) ⟨xs,xo,xf,xl⟩
    rwa [World.size_alloc] at this
  have hS : Wst w ((w.alloc (.cells #[.int .i64 ns,.int .i64 no,.int .i64 nf,.int .i64 nl] 48)).alloc (.cells #[.int .i64 xs,.int .i64 xo,.int .i64 xf,.int .i64 xl] 48)) g ob ob:=((Wst.refl w g ob).alloc _).alloc _
  have hW:=Lib.hid ((h.alloc (.cells #[.int .i64 ns,.int .i64 no,.int .i64 nf,.int .i64 nl] 48)).alloc (.cells #[.int .i64 xs,.int .i64 xo,.int .i64 xf,.int .i64 xl] 48))
  obtain ⟨a0,a1,a2,a3⟩:=hE.now.cells
  obtain ⟨n0,n1,n2,n3⟩:=hE.next.cells
  dsimp only at a0 a1 a2 a3 n0 n1 n2 n3
  have hcall:=fun u hu=>bytes1_c (hW.out.alloc (.cells #[u] 5)) (new_at2 _ _ _ u) hu (Nat.le_trans hbase (Nat.le_trans hS.size (by simp))) (by omega)
  clear h
  go_enter Tryz.func102,Tryz.ntmps102
  go_wp2_with fail
  go_at_call 76;refine (hcall _ rfl).mono ?_;rintro e w1 ⟨rfl,ob1,hW1,hS1⟩;have hE':=(hE.alloc _).step hS1;have hS':=(hS.alloc _).trans hS1;clear hE hS hW;have hE:=hE';have hS:=hS';clear hE' hS';have hW:=Lib.hid hW1;clear hW1 hS1 a0 a1 a2 a3 n0 n1 n2 n3;obtain ⟨a0,a1,a2,a3⟩:=hE.now.cells;obtain ⟨n0,n1,n2,n3⟩:=hE.next.cells;dsimp only at a0 a1 a2 a3 n0 n1 n2 n3;clear hcall;have hcall:=fun u hu=>bytes1_c (hW.out.alloc (.cells #[u] 5)) (new_cell w1 #[u] 5 0 u rfl) hu (Nat.le_trans hbase (Nat.le_trans hS.size (by simp))) (by first | omega | (simp [byL];omega))
  go_wp2_with fail
  go_at_call 170;refine (number_i hW.out (Nat.le_trans hbase hS.size) (by simp [byL];omega) (by omega) (by omega)).mono ?_;rintro e w1 ⟨rfl,ob1,hW1,hS1⟩;have hE':=hE.step hS1;have hS':=hS.trans hS1;clear hE hS hW;have hE:=hE';have hS:=hS';clear hE' hS';have hW:=Lib.hid hW1;clear hW1 hS1 a0 a1 a2 a3 n0 n1 n2 n3;obtain ⟨a0,a1,a2,a3⟩:=hE.now.cells;obtain ⟨n0,n1,n2,n3⟩:=hE.next.cells;dsimp only at a0 a1 a2 a3 n0 n1 n2 n3;clear hcall;have hcall:=fun u hu=>bytes1_c (hW.out.alloc (.cells #[u] 5)) (new_cell w1 #[u] 5 0 u rfl) hu (Nat.le_trans hbase (Nat.le_trans hS.size (by simp))) (by first | omega | (simp [byL];omega))
  have f0:=hE.now.frozen 1
  go_wp2_with fail
  have hW':=Lib.hid (hW.out.setCell (p:=⟨w.heap.size,1,none⟩) hE.g1 hE.o1 (.int .i64 0))
  have hS':=hS.setCell (p:=⟨w.heap.size,1,none⟩) (Nat.le_refl _) (.int .i64 0)
  have hE':=hE.zero
  clear hW hS hE f0 a0 a1 a2 a3 n0 n1 n2 n3
  have hW:=hW'
  have hS:=hS'
  have hE:=hE'
  clear hW' hS' hE' hcall
  have hcall:=fun u hu=>bytes1_c (hW.out.alloc (.cells #[u] 5)) (new_set _ _ _ u) hu (Nat.le_trans hbase (Nat.le_trans hS.size (by simp))) (by first | omega | (simp [byL];omega))
  obtain ⟨a0,a1,a2,a3⟩:=hE.now.cells
  obtain ⟨n0,n1,n2,n3⟩:=hE.next.cells
  dsimp only at a0 a1 a2 a3 n0 n1 n2 n3
  go_wp2_with (first
      | (go_at_call 76;refine (hcall _ rfl).mono ?_;rintro e w1 ⟨rfl,ob1,hW1,hS1⟩;have hE':=(hE.alloc _).step hS1;have hS':=(hS.alloc _).trans hS1;clear hE hS hW;have hE:=hE';have hS:=hS';clear hE' hS';have hW:=Lib.hid hW1;clear hW1 hS1 a0 a1 a2 a3 n0 n1 n2 n3;obtain ⟨a0,a1,a2,a3⟩:=hE.now.cells;obtain ⟨n0,n1,n2,n3⟩:=hE.next.cells;dsimp only at a0 a1 a2 a3 n0 n1 n2 n3;clear hcall;have hcall:=fun u hu=>bytes1_c (hW.out.alloc (.cells #[u] 5)) (new_cell w1 #[u] 5 0 u rfl) hu (Nat.le_trans hbase (Nat.le_trans hS.size (by simp))) (by first | omega | (simp [byL];omega)))
      | (go_at_call 170;refine (number_i hW.out (Nat.le_trans hbase hS.size) (by simp [byL];omega) (by omega) (by omega)).mono ?_;rintro e w1 ⟨rfl,ob1,hW1,hS1⟩;have hE':=hE.step hS1;have hS':=hS.trans hS1;clear hE hS hW;have hE:=hE';have hS:=hS';clear hE' hS';have hW:=Lib.hid hW1;clear hW1 hS1 a0 a1 a2 a3 n0 n1 n2 n3;obtain ⟨a0,a1,a2,a3⟩:=hE.now.cells;obtain ⟨n0,n1,n2,n3⟩:=hE.next.cells;dsimp only at a0 a1 a2 a3 n0 n1 n2 n3;clear hcall;have hcall:=fun u hu=>bytes1_c (hW.out.alloc (.cells #[u] 5)) (new_cell w1 #[u] 5 0 u rfl) hu (Nat.le_trans hbase (Nat.le_trans hS.size (by simp))) (by first | omega | (simp [byL];omega)))
      | (go_at_call 171;refine (signed_c hW.out (Nat.le_trans hbase hS.size) (by simp [byL];omega) (by omega) (by omega)).mono ?_;rintro e w1 ⟨rfl,ob1,hW1,hS1⟩;have hE':=hE.step hS1;have hS':=hS.trans hS1;clear hE hS hW;have hE:=hE';have hS:=hS';clear hE' hS';have hW:=Lib.hid hW1;clear hW1 hS1 a0 a1 a2 a3 n0 n1 n2 n3;obtain ⟨a0,a1,a2,a3⟩:=hE.now.cells;obtain ⟨n0,n1,n2,n3⟩:=hE.next.cells;dsimp only at a0 a1 a2 a3 n0 n1 n2 n3;clear hcall;have hcall:=fun u hu=>bytes1_c (hW.out.alloc (.cells #[u] 5)) (new_cell w1 #[u] 5 0 u rfl) hu (Nat.le_trans hbase (Nat.le_trans hS.size (by simp))) (by first | omega | (simp [byL];omega)))
      | (go_at_call 189;refine (hof _).mono ?_;rintro e w1 ⟨rfl,rfl⟩)
      | (go_at_call 190;refine (hli _).mono ?_;rintro e w1 ⟨rfl,rfl⟩))
  refine bodyPost_ret (results_none rfl _ _ _) rfl ?_
  refine ⟨rfl,_,?_,hS⟩
  rw [hfin.out]
  simpa [byL] using hW.out
end Go.Ev

