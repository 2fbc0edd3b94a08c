import Derived.Test.YtepopmplcjhfbaaGreatObG14
import Derived.Deep.CutRange
import Derived.Laws.Rows
set_option linter.unusedSectionVars false
set_option linter.unusedVariables false
set_option linter.unusedSimpArgs false
set_option linter.unnecessarySimpa false
namespace Go.Ev
open Go.RowKit Go.Proofs Go.Rw
def RelV (x : RelT) (_ : World) (v : Value) : Prop:=v = .agg #[.int .i64 x.sec,.int .i64 x.off,.int .i64 x.kind,.int .i64 x.sym,.int .i64 x.add]
set_option maxRecDepth 100000 in
set_option maxHeartbeats 8000000 in
theorem reloc2_c {w : World} {R b o n c p : Nat} {all : List Nat} (h : RS w R b o n c all p) : Calls Tryz.prog 180 #[.pointer (some ⟨R,0,none⟩)] w (RdR R b o n c all RelV (relF all p) w):=by
  have hlow : w.heap.size ≠ R:=by have:=h.rlow;omega
  have hbl:=h.low
  have ut : ∀ (W : World) (p : Nat),RS W R b o n c all p → Calls Tryz.prog 183 #[.pointer (some ⟨R,0,none⟩),.int .i64 40] W (RdR R b o n c all StrV (txtF all p 40) W):=fun W p hW=>text2_c (most:=40) hW (by omega)
  have un:=fun (W : World) (p : Nat) (hW : RS W R b o n c all p)=>number2_c hW
  have us:=fun (W : World) (p : Nat) (hW : RS W R b o n c all p)=>psgn_c hW
  obtain ⟨M,hM⟩ : ∃ M,M = relF all p:=⟨_,rfl⟩
  rw [← hM]
  replace hM:=Lib.hid hM
  have hr0:=(h.alloc (.cells #[.int .i64 0,.int .i64 0,.int .i64 0,.int .i64 0,.int .i64 0] 94)).drewN 1
  have hS0:=((Stp.refl R w).alloc (.cells #[.int .i64 0,.int .i64 0,.int .i64 0,.int .i64 0,.int .i64 0] 94)).drewN 1
  have hT0 : ((w.alloc (.cells #[.int .i64 0,.int .i64 0,.int .i64 0,.int .i64 0,.int .i64 0] 94)).drewN 1).heap[w.heap.size]? = some (.cells #[.int .i64 0,.int .i64 0,.int .i64 0,.int .i64 0,.int .i64 0] 94 (0,0)):=heap_alloc_new w _
  go_enter Tryz.func180,Tryz.ntmps180
  go_wp2_with fail
  refine wp_region_any (by kernel_rfl) ?_
  try (change wpAny _ _ _ _ _ _ _ (World.drew _))
  refine wpAny_take (i:=0) (v:=?_) rfl (by kernel_rfl) (by kernel_rfl) (by kernel_rfl) (fun _ _ _ h=>h) (Or.inl ⟨by rfl,?_⟩) ?_
  case refine_2=>(intro w;go_simp;(try with_reducible rfl))
  refine wpAny_take (i:=1) (v:=?_) rfl (by kernel_rfl) (by kernel_rfl) (by kernel_rfl) (fun _ _ _ h=>h) (Or.inl ⟨by rfl,?_⟩) ?_
  case refine_2=>(intro w;go_simp;(try with_reducible rfl))
  refine wpAny_take (i:=2) (v:=?_) rfl (by kernel_rfl) (by kernel_rfl) (by kernel_rfl) (fun _ _ _ h=>h) (Or.inl ⟨by rfl,?_⟩) ?_
  case refine_2=>(intro w;go_simp;(try with_reducible rfl))
  refine wpAny_take (i:=4) (v:=?_) rfl (by kernel_rfl) (by kernel_rfl) (by kernel_rfl) (fun _ _ _ h=>h) (Or.inl ⟨by rfl,?_⟩) ?_
  case refine_2=>(intro w;go_simp;(try with_reducible rfl))
  refine wpAny_take (i:=5) (v:=?_) rfl (by kernel_rfl) (by kernel_rfl) (by kernel_rfl) (fun _ _ _ h=>h) (Or.inl ⟨by rfl,?_⟩) ?_
  case refine_2=>(intro w;go_simp;(try with_reducible rfl))
  refine wpAny_take (i:=6) (v:=?_) rfl (by kernel_rfl) (by kernel_rfl) (by kernel_rfl) (fun _ _ _ h=>h) (Or.inl ⟨by rfl,?_⟩) ?_
  case refine_2=>(intro w;go_simp;(try with_reducible rfl))
  refine wpAny_take (i:=8) (v:=?_) rfl (by kernel_rfl) (by kernel_rfl) (by kernel_rfl) (fun _ _ _ h=>h) (Or.inl ⟨by rfl,?_⟩) ?_
  case refine_2=>(intro w;go_simp;(try with_reducible rfl))
  refine wpAny_take (i:=9) (v:=?_) rfl (by kernel_rfl) (by kernel_rfl) (by kernel_rfl) (fun _ _ _ h=>h) (Or.inl ⟨by rfl,?_⟩) ?_
  case refine_2=>(intro w;go_simp;(try with_reducible rfl))
  refine wpAny_take (i:=10) (v:=?_) rfl (by kernel_rfl) (by kernel_rfl) (by kernel_rfl) (fun _ _ _ h=>h) (Or.inl ⟨by rfl,?_⟩) ?_
  case refine_2=>(intro w;go_simp;(try with_reducible rfl))
  refine wpAny_take (i:=12) (v:=?_) rfl (by kernel_rfl) (by kernel_rfl) (by kernel_rfl) (fun _ _ _ h=>h) (Or.inl ⟨by rfl,?_⟩) ?_
  case refine_2=>(intro w;go_simp;(try with_reducible rfl))
  refine wpAny_take (i:=13) (v:=?_) rfl (by kernel_rfl) (by kernel_rfl) (by kernel_rfl) (fun _ _ _ h=>h) (Or.inl ⟨by rfl,?_⟩) ?_
  case refine_2=>(intro w;go_simp;(try with_reducible rfl))
  refine wpAny_take (i:=14) (v:=?_) rfl (by kernel_rfl) (by kernel_rfl) (by kernel_rfl) (fun _ _ _ h=>h) (Or.inl ⟨by rfl,?_⟩) ?_
  case refine_2=>(intro w;go_simp;(try with_reducible rfl))
  refine wpAny_take (i:=16) (v:=?_) rfl (by kernel_rfl) (by kernel_rfl) (by kernel_rfl) (fun _ _ _ h=>h) (Or.inl ⟨by rfl,?_⟩) ?_
  case refine_2=>(intro w;go_simp;(try with_reducible rfl))
  refine wpAny_take (i:=17) (v:=?_) rfl (by kernel_rfl) (by kernel_rfl) (by kernel_rfl) (fun _ _ _ h=>h) (Or.inl ⟨by rfl,?_⟩) ?_
  case refine_2=>(intro w;go_simp;(try with_reducible rfl))
  refine wpAny_take (i:=18) (v:=?_) rfl (by kernel_rfl) (by kernel_rfl) (by kernel_rfl) (fun _ _ _ h=>h) (Or.inl ⟨by rfl,?_⟩) ?_
  case refine_2=>(intro w;go_simp;(try with_reducible rfl))
  refine wpAny_ready (rs:=[3]) (by kernel_rfl) (by simp) ?_
  refine AllReady.cons rfl (fun K hK=>?_) AllReady.nil
  go_simp
  refine (un _ _ hr0).mono ?_
  rintro e w1 ⟨hs1,hv1⟩
  cases hm1 : nbF all p with
  | error x =>
    have hfin : M = .error x:=by rw [hM.out];simp only [relF,Except.bind,hm1]
    rw [hm1] at hv1
    subst hv1
    exact ⟨rfl,hS0.trans hs1,by rw [hfin]⟩
  | ok y1 =>
  rw [hm1] at hv1
  obtain ⟨v1,rfl,rfl,hr1⟩:=hv1
  have hS1:=hS0.trans hs1
  have hT1:=hs1.blk hlow hT0
  clear hr0 hS0 hT0 hs1
  refine hK _ _ ?_
  clear hK K
  refine wpAny_ready (rs:=[7]) (by kernel_rfl) (by simp) ?_
  refine AllReady.cons rfl (fun K hK=>?_) AllReady.nil
  go_simp
  refine (un _ _ hr1).mono ?_
  rintro e w2 ⟨hs2,hv2⟩
  cases hm2 : nbF all y1.2 with
  | error x =>
    have hfin : M = .error x:=by rw [hM.out];simp only [relF,Except.bind,hm1,hm2]
    rw [hm2] at hv2
    subst hv2
    exact ⟨rfl,hS1.trans hs2,by rw [hfin]⟩
  | ok y2 =>
  rw [hm2] at hv2
  obtain ⟨v2,rfl,rfl,hr2⟩:=hv2
  have hS2:=hS1.trans hs2
  have hT2:=hs2.blk hlow hT1
  clear hr1 hS1 hT1 hs2
  refine hK _ _ ?_
  clear hK K
  refine wpAny_ready (rs:=[11]) (by kernel_rfl) (by simp) ?_
  refine AllReady.cons rfl (fun K hK=>?_) AllReady.nil
  go_simp
  refine (un _ _ hr2).mono ?_
  rintro e w3 ⟨hs3,hv3⟩
  cases hm3 : nbF all y2.2 with
  | error x =>
    have hfin : M = .error x:=by rw [hM.out];simp only [relF,Except.bind,hm1,hm2,hm3]
    rw [hm3] at hv3
    subst hv3
    exact ⟨rfl,hS2.trans hs3,by rw [hfin]⟩
  | ok y3 =>
  rw [hm3] at hv3
  obtain ⟨v3,rfl,rfl,hr3⟩:=hv3
  have hS3:=hS2.trans hs3
  have hT3:=hs3.blk hlow hT2
  clear hr2 hS2 hT2 hs3
  refine hK _ _ ?_
  clear hK K
  refine wpAny_ready (rs:=[15]) (by kernel_rfl) (by simp) ?_
  refine AllReady.cons rfl (fun K hK=>?_) AllReady.nil
  go_simp
  refine (un _ _ hr3).mono ?_
  rintro e w4 ⟨hs4,hv4⟩
  cases hm4 : nbF all y3.2 with
  | error x =>
    have hfin : M = .error x:=by rw [hM.out];simp only [relF,Except.bind,hm1,hm2,hm3,hm4]
    rw [hm4] at hv4
    subst hv4
    exact ⟨rfl,hS3.trans hs4,by rw [hfin]⟩
  | ok y4 =>
  rw [hm4] at hv4
  obtain ⟨v4,rfl,rfl,hr4⟩:=hv4
  have hS4:=hS3.trans hs4
  have hT4:=hs4.blk hlow hT3
  clear hr3 hS3 hT3 hs4
  refine hK _ _ ?_
  clear hK K
  refine wpAny_ready (rs:=[19]) (by kernel_rfl) (by simp) ?_
  refine AllReady.cons rfl (fun K hK=>?_) AllReady.nil
  go_simp
  refine (us _ _ hr4).mono ?_
  rintro e w5 ⟨hs5,hv5⟩
  cases hm5 : sgnF all y4.2 with
  | error x =>
    have hfin : M = .error x:=by rw [hM.out];simp only [relF,Except.bind,hm1,hm2,hm3,hm4,hm5]
    rw [hm5] at hv5
    subst hv5
    exact ⟨rfl,hS4.trans hs5,by rw [hfin]⟩
  | ok y5 =>
  rw [hm5] at hv5
  obtain ⟨v5,rfl,rfl,hr5⟩:=hv5
  have hS5:=hS4.trans hs5
  have hT5:=hs5.blk hlow hT4
  clear hr4 hS4 hT4 hs5
  refine hK _ _ ?_
  clear hK K
  refine wpAny_take (i:=20) (v:=?_) rfl (by kernel_rfl) (by kernel_rfl) (by kernel_rfl) (fun _ _ _ h=>h) (Or.inl ⟨by rfl,?_⟩) ?_
  case refine_2=>(intro w;go_simp;(try with_reducible rfl))
  refine wpAny_ready (rs:=[21]) (by kernel_rfl) (by simp) ?_
  refine AllReady.cons rfl (fun K hK=>?_) AllReady.nil
  have c0 : w5.cell? ⟨w.heap.size,0,none⟩ = some (.int .i64 0):=by simp [World.cell?,hT5]
  have c1 : w5.cell? ⟨w.heap.size,1,none⟩ = some (.int .i64 0):=by simp [World.cell?,hT5]
  have c2 : w5.cell? ⟨w.heap.size,2,none⟩ = some (.int .i64 0):=by simp [World.cell?,hT5]
  have c3 : w5.cell? ⟨w.heap.size,3,none⟩ = some (.int .i64 0):=by simp [World.cell?,hT5]
  have c4 : w5.cell? ⟨w.heap.size,4,none⟩ = some (.int .i64 0):=by simp [World.cell?,hT5]
  have f0 : ∀ i,w5.frozen? ⟨w.heap.size,i,none⟩ = false:=fun i=>by simp [World.frozen?,hT5]
  clear ut un us
  go_simp
  have hb6:=set5 (v0:=.int .i64 (y1.1 : Int)) (v1:=.int .i64 (y2.1 : Int)) (v2:=.int .i64 (y3.1 : Int)) (v3:=.int .i64 (y4.1 : Int)) (v4:=.int .i64 y5.1) hT5
  have hs6:=Lib.hid (((((hS5.far 0 (.int .i64 (y1.1 : Int))).far 1 (.int .i64 (y2.1 : Int))).far 2 (.int .i64 (y3.1 : Int))).far 3 (.int .i64 (y4.1 : Int))).far 4 (.int .i64 y5.1))
  have hr6:=Lib.hid (((((hr5.far hlow hbl 0 (.int .i64 (y1.1 : Int))).far hlow hbl 1 (.int .i64 (y2.1 : Int))).far hlow hbl 2 (.int .i64 (y3.1 : Int))).far hlow hbl 3 (.int .i64 (y4.1 : Int))).far hlow hbl 4 (.int .i64 y5.1))
  generalize (((((w5.setCell ⟨w.heap.size,0,none⟩ (.int .i64 (y1.1 : Int))).setCell ⟨w.heap.size,1,none⟩ (.int .i64 (y2.1 : Int))).setCell ⟨w.heap.size,2,none⟩ (.int .i64 (y3.1 : Int))).setCell ⟨w.heap.size,3,none⟩ (.int .i64 (y4.1 : Int))).setCell ⟨w.heap.size,4,none⟩ (.int .i64 y5.1)) = w6 at hb6 hs6 hr6 ⊢
  clear c0 c1 c2 c3 c4 f0 hT5 hS5 hr5
  have c0 : w6.cell? ⟨w.heap.size,0,none⟩ = some (.int .i64 (y1.1 : Int)):=by simp [World.cell?,hb6]
  have c1 : w6.cell? ⟨w.heap.size,1,none⟩ = some (.int .i64 (y2.1 : Int)):=by simp [World.cell?,hb6]
  have c2 : w6.cell? ⟨w.heap.size,2,none⟩ = some (.int .i64 (y3.1 : Int)):=by simp [World.cell?,hb6]
  have c3 : w6.cell? ⟨w.heap.size,3,none⟩ = some (.int .i64 (y4.1 : Int)):=by simp [World.cell?,hb6]
  have c4 : w6.cell? ⟨w.heap.size,4,none⟩ = some (.int .i64 y5.1):=by simp [World.cell?,hb6]
  have hfin:=Lib.hid (show M = .ok (⟨(y1.1 : Int),(y2.1 : Int),(y3.1 : Int),(y4.1 : Int),y5.1⟩,y5.2) by rw [hM.out];simp only [relF,Except.bind,hm1,hm2,hm3,hm4,hm5])
  refine hK _ _ ?_
  clear hK K hb6
  refine wpAny_done (by kernel_rfl) ?_ _
  go_wp2
  rw [hfin.out]
  refine ⟨rfl,_,?_,hs6.out,_,rfl,rfl,hr6.out⟩
  simp [results,Tryz.results180,Tryz.f180,go_sem,c0,c1,c2,c3,c4]
end Go.Ev

namespace Go.Ev
open Go.RowKit Go.Proofs Go.Rw
def SymV (x : SymT) (_ : World) (v : Value) : Prop:=v = .agg #[.string x.name,.int .i64 x.sec,.int .u32 x.val,.int .i64 x.size,.int .i64 x.bind,.int .i64 x.kind]
theorem set6 {w : World} {g : Nat} {a0 a1 a2 a3 a4 a5 v0 v1 v2 v3 v4 v5 : Value} {t : TypeId} (h : w.heap[g]? = some (.cells #[a0,a1,a2,a3,a4,a5] t (0,0))) :
    ((((((w.setCell ⟨g,0,none⟩ v0).setCell ⟨g,1,none⟩ v1).setCell ⟨g,2,none⟩ v2).setCell ⟨g,3,none⟩ v3).setCell ⟨g,4,none⟩ v4).setCell ⟨g,5,none⟩ v5).heap[g]? = some (.cells #[v0,v1,v2,v3,v4,v5] t (0,0)) :=
  heap_setCell_same _ _ 5 _ _ _ (heap_setCell_same _ _ 4 _ _ _ (heap_setCell_same _ _ 3 _ _ _ (heap_setCell_same _ _ 2 _ _ _ (heap_setCell_same _ _ 1 _ _ _ (heap_setCell_same _ _ 0 _ _ _ h)))))
theorem Stp.far2 {R k : Nat} {w w' : World} (h : Stp R w w') (hk : w.heap.size ≤ k) (i : Nat) (v : Value) : Stp R w (w'.setCell ⟨k,i,none⟩ v):=Wst.setCell h hk v
set_option maxRecDepth 100000 in
set_option maxHeartbeats 8000000 in
theorem symbol2_c {w : World} {R b o n c p : Nat} {all : List Nat} (h : RS w R b o n c all p) : Calls Tryz.prog 178 #[.pointer (some ⟨R,0,none⟩)] w (RdR R b o n c all SymV (symF all p) w):=by
  have hlow : w.heap.size ≠ R:=by have:=h.rlow;omega
  have hbl:=h.low
  have ut : ∀ (W : World) (p : Nat),RS W R b o n c all p → Calls Tryz.prog 183 #[.pointer (some ⟨R,0,none⟩),.int .i64 40] W (RdR R b o n c all StrV (txtF all p 40) W):=fun W p hW=>text2_c (most:=40) hW (by omega)
  have un:=fun (W : World) (p : Nat) (hW : RS W R b o n c all p)=>number2_c hW
  have us:=fun (W : World) (p : Nat) (hW : RS W R b o n c all p)=>psgn_c hW
  obtain ⟨M,hM⟩ : ∃ M,M = symF all p:=⟨_,rfl⟩
  rw [← hM]
  replace hM:=Lib.hid hM
  have hr0:=(h.alloc (.cells #[.string ⟨#[]⟩,.int .i64 0,.int .u32 0,.int .i64 0,.int .i64 0,.int .i64 0] 68)).drewN 1
  have hS0:=((Stp.refl R w).alloc (.cells #[.string ⟨#[]⟩,.int .i64 0,.int .u32 0,.int .i64 0,.int .i64 0,.int .i64 0] 68)).drewN 1
  have hT0 : ((w.alloc (.cells #[.string ⟨#[]⟩,.int .i64 0,.int .u32 0,.int .i64 0,.int .i64 0,.int .i64 0] 68)).drewN 1).heap[w.heap.size]? = some (.cells #[.string ⟨#[]⟩,.int .i64 0,.int .u32 0,.int .i64 0,.int .i64 0,.int .i64 0] 68 (0,0)):=heap_alloc_new w _
  go_enter Tryz.func178,Tryz.ntmps178
  go_wp2_with fail
  go_cut [3] from 5 to 31 (fun xv wx=>∃ (X : Nat) (y1 : ByteArray × Nat) (y2 : Int × Nat) (y3 y4 : Nat × Nat),xv = .pointer (some ⟨X,0,none⟩) ∧ txtF all p 40 = .ok y1 ∧ sgnF all y1.2 = .ok y2 ∧ nbF all y2.2 = .ok y3 ∧ nbF all y3.2 = .ok y4 ∧ RS wx R b o n c all y4.2 ∧ Stp R w wx ∧ wx.heap[X]? = some (.cells #[.string y1.1,.int .i64 y2.1,.int .u32 (y3.1 : Int),.int .i64 (y4.1 : Int),.int .i64 0,.int .i64 0] 68 (0,0)) ∧ wx.heap[w.heap.size]? = some (.cells #[.string ⟨#[]⟩,.int .i64 0,.int .u32 0,.int .i64 0,.int .i64 0,.int .i64 0] 68 (0,0)) ∧ X ≠ R ∧ b < X ∧ w.heap.size < X)
  case first =>
    refine wp_region_any (by kernel_rfl) ?_
    try (change wpAny _ _ _ _ _ _ _ (World.drew _))
    obtain ⟨w0,hw0⟩ : ∃ W,W = (w.alloc (.cells #[.string ⟨#[]⟩,.int .i64 0,.int .u32 0,.int .i64 0,.int .i64 0,.int .i64 0] 68)).drewN 1:=⟨_,rfl⟩
    rw [← hw0] at hr0 hS0 hT0
    change wpAny _ _ _ _ _ _ _ ((w.alloc (.cells #[.string ⟨#[]⟩,.int .i64 0,.int .u32 0,.int .i64 0,.int .i64 0,.int .i64 0] 68)).drewN 1)
    rw [← hw0]
    clear hw0
    refine wpAny_take (i:=0) (v:=?_) rfl (by kernel_rfl) (by kernel_rfl) (by kernel_rfl) (fun _ _ _ h=>h) (Or.inl ⟨by rfl,?_⟩) ?_
    case refine_2=>(intro w;go_simp;(try with_reducible rfl))
    refine wpAny_take (i:=2) (v:=?_) rfl (by kernel_rfl) (by kernel_rfl) (by kernel_rfl) (fun _ _ _ h=>h) (Or.inl ⟨by rfl,?_⟩) ?_
    case refine_2=>(intro w;go_simp;(try with_reducible rfl))
    refine wpAny_take (i:=3) (v:=?_) rfl (by kernel_rfl) (by kernel_rfl) (by kernel_rfl) (fun _ _ _ h=>h) (Or.inl ⟨by rfl,?_⟩) ?_
    case refine_2=>(intro w;go_simp;(try with_reducible rfl))
    refine wpAny_take (i:=4) (v:=?_) rfl (by kernel_rfl) (by kernel_rfl) (by kernel_rfl) (fun _ _ _ h=>h) (Or.inl ⟨by rfl,?_⟩) ?_
    case refine_2=>(intro w;go_simp;(try with_reducible rfl))
    refine wpAny_take (i:=6) (v:=?_) rfl (by kernel_rfl) (by kernel_rfl) (by kernel_rfl) (fun _ _ _ h=>h) (Or.inl ⟨by rfl,?_⟩) ?_
    case refine_2=>(intro w;go_simp;(try with_reducible rfl))
    refine wpAny_take (i:=7) (v:=?_) rfl (by kernel_rfl) (by kernel_rfl) (by kernel_rfl) (fun _ _ _ h=>h) (Or.inl ⟨by rfl,?_⟩) ?_
    case refine_2=>(intro w;go_simp;(try with_reducible rfl))
    refine wpAny_take (i:=8) (v:=?_) rfl (by kernel_rfl) (by kernel_rfl) (by kernel_rfl) (fun _ _ _ h=>h) (Or.inl ⟨by rfl,?_⟩) ?_
    case refine_2=>(intro w;go_simp;(try with_reducible rfl))
    refine wpAny_take (i:=11) (v:=?_) rfl (by kernel_rfl) (by kernel_rfl) (by kernel_rfl) (fun _ _ _ h=>h) (Or.inl ⟨by rfl,?_⟩) ?_
    case refine_2=>(intro w;go_simp;(try with_reducible rfl))
    refine wpAny_take (i:=12) (v:=?_) rfl (by kernel_rfl) (by kernel_rfl) (by kernel_rfl) (fun _ _ _ h=>h) (Or.inl ⟨by rfl,?_⟩) ?_
    case refine_2=>(intro w;go_simp;(try with_reducible rfl))
    refine wpAny_take (i:=13) (v:=?_) rfl (by kernel_rfl) (by kernel_rfl) (by kernel_rfl) (fun _ _ _ h=>h) (Or.inl ⟨by rfl,?_⟩) ?_
    case refine_2=>(intro w;go_simp;(try with_reducible rfl))
    refine wpAny_ready (rs:=[1,16]) (by kernel_rfl) (by simp) ?_
    refine AllReady.cons rfl (fun K hK=>?_) (AllReady.cons rfl (fun K hK=>?_) AllReady.nil)
    · go_simp
      refine (ut _ _ hr0).mono ?_
      rintro e w1 ⟨hs1,hv1⟩
      cases hm1 : txtF all p 40 with
      | error x =>
        have hfin : M = .error x:=by rw [hM.out];simp only [symF,Except.bind,hm1]
        rw [hm1] at hv1
        subst hv1
        exact ⟨rfl,hS0.trans hs1,by rw [hfin]⟩
      | ok y1 =>
      rw [hm1] at hv1
      obtain ⟨v1,rfl,rfl,hr1⟩:=hv1
      have hS1:=hS0.trans hs1
      have hT1:=hs1.blk hlow hT0
      clear hr0 hS0 hT0 hs1
      refine hK _ _ ?_
      clear hK K
      refine wpAny_ready (rs:=[5,16]) (by kernel_rfl) (by simp) ?_
      refine AllReady.cons rfl (fun K hK=>?_) (AllReady.cons rfl (fun K hK=>?_) AllReady.nil)
      · go_simp
        refine (us _ _ hr1).mono ?_
        rintro e w2 ⟨hs2,hv2⟩
        cases hm2 : sgnF all y1.2 with
        | error x =>
          have hfin : M = .error x:=by rw [hM.out];simp only [symF,Except.bind,hm1,hm2]
          rw [hm2] at hv2
          subst hv2
          exact ⟨rfl,hS1.trans hs2,by rw [hfin]⟩
        | ok y2 =>
        rw [hm2] at hv2
        obtain ⟨v2,rfl,rfl,hr2⟩:=hv2
        have hS2:=hS1.trans hs2
        have hT2:=hs2.blk hlow hT1
        clear hr1 hS1 hT1 hs2
        refine hK _ _ ?_
        clear hK K
        refine wpAny_ready (rs:=[9,16]) (by kernel_rfl) (by simp) ?_
        refine AllReady.cons rfl (fun K hK=>?_) (AllReady.cons rfl (fun K hK=>?_) AllReady.nil)
        · go_simp
          refine (un _ _ hr2).mono ?_
          rintro e w3 ⟨hs3,hv3⟩
          cases hm3 : nbF all y2.2 with
          | error x =>
            have hfin : M = .error x:=by rw [hM.out];simp only [symF,Except.bind,hm1,hm2,hm3]
            rw [hm3] at hv3
            subst hv3
            exact ⟨rfl,hS2.trans hs3,by rw [hfin]⟩
          | ok y3 =>
          rw [hm3] at hv3
          obtain ⟨v3,rfl,rfl,hr3⟩:=hv3
          have hS3:=hS2.trans hs3
          have hT3:=hs3.blk hlow hT2
          clear hr2 hS2 hT2 hs3
          refine hK _ _ ?_
          clear hK K
          have e10 : IntKind.u32.wrap (y3.1 : Int) = (y3.1 : Int):=by have h10:=(upF_le (show upF all y2.2 4294967295 = .ok y3 from hm3)).2.1;rw [IntKind.wrap_u32];omega
          refine wpAny_take (i:=10) (v:=?_) rfl (by kernel_rfl) (by kernel_rfl) (by kernel_rfl) (fun _ _ _ h=>h) (Or.inl ⟨by rfl,?_⟩) ?_
          case refine_2=>(intro w;go_simp;(try with_reducible rfl))
          refine wpAny_ready (rs:=[14,16]) (by kernel_rfl) (by simp) ?_
          refine AllReady.cons rfl (fun K hK=>?_) (AllReady.cons rfl (fun K hK=>?_) AllReady.nil)
          · go_simp
            refine (un _ _ hr3).mono ?_
            rintro e w4 ⟨hs4,hv4⟩
            cases hm4 : nbF all y3.2 with
            | error x =>
              have hfin : M = .error x:=by rw [hM.out];simp only [symF,Except.bind,hm1,hm2,hm3,hm4]
              rw [hm4] at hv4
              subst hv4
              exact ⟨rfl,hS3.trans hs4,by rw [hfin]⟩
            | ok y4 =>
            rw [hm4] at hv4
            obtain ⟨v4,rfl,rfl,hr4⟩:=hv4
            have hS4:=hS3.trans hs4
            have hT4:=hs4.blk hlow hT3
            clear hr3 hS3 hT3 hs4
            refine hK _ _ ?_
            clear hK K
            refine wpAny_take (i:=15) (v:=?_) rfl (by kernel_rfl) (by kernel_rfl) (by kernel_rfl) (fun _ _ _ h=>h) (Or.inl ⟨by rfl,?_⟩) ?_
            case refine_2=>(intro w;go_simp;(try with_reducible rfl))
            refine wpAny_ready (rs:=[16]) (by kernel_rfl) (by simp) ?_
            refine AllReady.cons rfl (fun K hK=>?_) AllReady.nil
            go_simp
            have hXR : w4.heap.size ≠ R:=by have:=hr4.rlow;omega
            have hXb : b < w4.heap.size:=hr4.low
            have hXw2 : w.heap.size < w4.heap.size:=(Array.getElem?_eq_some_iff.1 hT4).1
            have hXw : w.heap.size ≤ w4.heap.size:=Nat.le_of_lt hXw2
            have hXT : w.heap.size ≠ w4.heap.size:=Nat.ne_of_lt hXw2
            have hr4a:=hr4.alloc (.cells #[.string ⟨#[]⟩,.int .i64 0,.int .u32 0,.int .i64 0,.int .i64 0,.int .i64 0] 68)
            have hS4a:=hS4.alloc (.cells #[.string ⟨#[]⟩,.int .i64 0,.int .u32 0,.int .i64 0,.int .i64 0,.int .i64 0] 68)
            have hT4a : (w4.alloc (.cells #[.string ⟨#[]⟩,.int .i64 0,.int .u32 0,.int .i64 0,.int .i64 0,.int .i64 0] 68)).heap[w.heap.size]? = some (.cells #[.string ⟨#[]⟩,.int .i64 0,.int .u32 0,.int .i64 0,.int .i64 0,.int .i64 0] 68 (0,0)):=(heap_alloc_old _ _ hXw2).trans hT4
            have hX4a : (w4.alloc (.cells #[.string ⟨#[]⟩,.int .i64 0,.int .u32 0,.int .i64 0,.int .i64 0,.int .i64 0] 68)).heap[w4.heap.size]? = some (.cells #[.string ⟨#[]⟩,.int .i64 0,.int .u32 0,.int .i64 0,.int .i64 0,.int .i64 0] 68 (0,0)):=heap_alloc_new _ _
            clear hr4 hS4 hT4
            refine hK _ _ ?_
            clear hK K
            obtain ⟨w4a,hw4a⟩ : ∃ W,W = w4.alloc (.cells #[.string ⟨#[]⟩,.int .i64 0,.int .u32 0,.int .i64 0,.int .i64 0,.int .i64 0] 68):=⟨_,rfl⟩
            rw [← hw4a] at hr4a hS4a hT4a hX4a ⊢
            clear hw4a
            refine wpAny_ready (rs:=[17]) (by kernel_rfl) (by simp) ?_
            refine AllReady.cons rfl (fun K hK=>?_) AllReady.nil
            have c0 : w4a.cell? ⟨w4.heap.size,0,none⟩ = some (.string ⟨#[]⟩):=by simp [World.cell?,hX4a]
            have c1 : w4a.cell? ⟨w4.heap.size,1,none⟩ = some (.int .i64 0):=by simp [World.cell?,hX4a]
            have c2 : w4a.cell? ⟨w4.heap.size,2,none⟩ = some (.int .u32 0):=by simp [World.cell?,hX4a]
            have c3 : w4a.cell? ⟨w4.heap.size,3,none⟩ = some (.int .i64 0):=by simp [World.cell?,hX4a]
            have c4 : w4a.cell? ⟨w4.heap.size,4,none⟩ = some (.int .i64 0):=by simp [World.cell?,hX4a]
            have c5 : w4a.cell? ⟨w4.heap.size,5,none⟩ = some (.int .i64 0):=by simp [World.cell?,hX4a]
            have f0 : ∀ i,w4a.frozen? ⟨w4.heap.size,i,none⟩ = false:=fun i=>by simp [World.frozen?,hX4a]
            go_simp
            have hb6:=set6 (v0:=.string y1.1) (v1:=.int .i64 y2.1) (v2:=.int .u32 (y3.1 : Int)) (v3:=.int .i64 (y4.1 : Int)) (v4:=.int .i64 0) (v5:=.int .i64 0) hX4a
            have hs6:=Lib.hid ((((((hS4a.far2 hXw 0 (.string y1.1)).far2 hXw 1 (.int .i64 y2.1)).far2 hXw 2 (.int .u32 (y3.1 : Int))).far2 hXw 3 (.int .i64 (y4.1 : Int))).far2 hXw 4 (.int .i64 0)).far2 hXw 5 (.int .i64 0))
            have hr6:=Lib.hid ((((((hr4a.far hXR hXb 0 (.string y1.1)).far hXR hXb 1 (.int .i64 y2.1)).far hXR hXb 2 (.int .u32 (y3.1 : Int))).far hXR hXb 3 (.int .i64 (y4.1 : Int))).far hXR hXb 4 (.int .i64 0)).far hXR hXb 5 (.int .i64 0))
            have ht6:=Lib.hid ((heap_setCell_other _ ⟨w4.heap.size,5,none⟩ w.heap.size (.int .i64 0) hXT).trans ((heap_setCell_other _ ⟨w4.heap.size,4,none⟩ w.heap.size (.int .i64 0) hXT).trans ((heap_setCell_other _ ⟨w4.heap.size,3,none⟩ w.heap.size (.int .i64 (y4.1 : Int)) hXT).trans ((heap_setCell_other _ ⟨w4.heap.size,2,none⟩ w.heap.size (.int .u32 (y3.1 : Int)) hXT).trans ((heap_setCell_other _ ⟨w4.heap.size,1,none⟩ w.heap.size (.int .i64 y2.1) hXT).trans ((heap_setCell_other _ ⟨w4.heap.size,0,none⟩ w.heap.size (.string y1.1) hXT).trans hT4a))))))
            generalize ((((((w4a.setCell ⟨w4.heap.size,0,none⟩ (.string y1.1)).setCell ⟨w4.heap.size,1,none⟩ (.int .i64 y2.1)).setCell ⟨w4.heap.size,2,none⟩ (.int .u32 (y3.1 : Int))).setCell ⟨w4.heap.size,3,none⟩ (.int .i64 (y4.1 : Int))).setCell ⟨w4.heap.size,4,none⟩ (.int .i64 0)).setCell ⟨w4.heap.size,5,none⟩ (.int .i64 0)) = w6 at hb6 hs6 hr6 ht6 ⊢
            clear c0 c1 c2 c3 c4 c5 f0 hX4a hT4a hS4a hr4a
            refine hK _ _ ?_
            clear hK K
            refine wpAny_done (by kernel_rfl) ?_ _
            go_wp2
            go_meet
            exact ⟨w4.heap.size,y1,y2,y3,y4,rfl,hm1,hm2,hm3,hm4,hr6.out,hs6.out,hb6,ht6.out,hXR,hXb,hXw2⟩
          · go_simp
            have hXR : w3.heap.size ≠ R:=by have:=hr3.rlow;omega
            have hXb : b < w3.heap.size:=hr3.low
            have hXw2 : w.heap.size < w3.heap.size:=(Array.getElem?_eq_some_iff.1 hT3).1
            have hXw : w.heap.size ≤ w3.heap.size:=Nat.le_of_lt hXw2
            have hXT : w.heap.size ≠ w3.heap.size:=Nat.ne_of_lt hXw2
            have hr3a:=hr3.alloc (.cells #[.string ⟨#[]⟩,.int .i64 0,.int .u32 0,.int .i64 0,.int .i64 0,.int .i64 0] 68)
            have hS3a:=hS3.alloc (.cells #[.string ⟨#[]⟩,.int .i64 0,.int .u32 0,.int .i64 0,.int .i64 0,.int .i64 0] 68)
            have hT3a : (w3.alloc (.cells #[.string ⟨#[]⟩,.int .i64 0,.int .u32 0,.int .i64 0,.int .i64 0,.int .i64 0] 68)).heap[w.heap.size]? = some (.cells #[.string ⟨#[]⟩,.int .i64 0,.int .u32 0,.int .i64 0,.int .i64 0,.int .i64 0] 68 (0,0)):=(heap_alloc_old _ _ hXw2).trans hT3
            have hX3a : (w3.alloc (.cells #[.string ⟨#[]⟩,.int .i64 0,.int .u32 0,.int .i64 0,.int .i64 0,.int .i64 0] 68)).heap[w3.heap.size]? = some (.cells #[.string ⟨#[]⟩,.int .i64 0,.int .u32 0,.int .i64 0,.int .i64 0,.int .i64 0] 68 (0,0)):=heap_alloc_new _ _
            clear hr3 hS3 hT3
            refine hK _ _ ?_
            clear hK K
            obtain ⟨w3a,hw3a⟩ : ∃ W,W = w3.alloc (.cells #[.string ⟨#[]⟩,.int .i64 0,.int .u32 0,.int .i64 0,.int .i64 0,.int .i64 0] 68):=⟨_,rfl⟩
            rw [← hw3a] at hr3a hS3a hT3a hX3a ⊢
            clear hw3a
            refine wpAny_ready (rs:=[14]) (by kernel_rfl) (by simp) ?_
            refine AllReady.cons rfl (fun K hK=>?_) AllReady.nil
            go_simp
            refine (un _ _ hr3a).mono ?_
            rintro e w4 ⟨hs4,hv4⟩
            cases hm4 : nbF all y3.2 with
            | error x =>
              have hfin : M = .error x:=by rw [hM.out];simp only [symF,Except.bind,hm1,hm2,hm3,hm4]
              rw [hm4] at hv4
              subst hv4
              exact ⟨rfl,hS3a.trans hs4,by rw [hfin]⟩
            | ok y4 =>
            rw [hm4] at hv4
            obtain ⟨v4,rfl,rfl,hr4⟩:=hv4
            have hS4:=hS3a.trans hs4
            have hT4:=hs4.blk hlow hT3a
            have hX4:=hs4.blk hXR hX3a
            clear hX3a
            clear hr3a hS3a hT3a hs4
            refine hK _ _ ?_
            clear hK K
            refine wpAny_take (i:=15) (v:=?_) rfl (by kernel_rfl) (by kernel_rfl) (by kernel_rfl) (fun _ _ _ h=>h) (Or.inl ⟨by rfl,?_⟩) ?_
            case refine_2=>(intro w;go_simp;(try with_reducible rfl))
            refine wpAny_ready (rs:=[17]) (by kernel_rfl) (by simp) ?_
            refine AllReady.cons rfl (fun K hK=>?_) AllReady.nil
            have c0 : w4.cell? ⟨w3.heap.size,0,none⟩ = some (.string ⟨#[]⟩):=by simp [World.cell?,hX4]
            have c1 : w4.cell? ⟨w3.heap.size,1,none⟩ = some (.int .i64 0):=by simp [World.cell?,hX4]
            have c2 : w4.cell? ⟨w3.heap.size,2,none⟩ = some (.int .u32 0):=by simp [World.cell?,hX4]
            have c3 : w4.cell? ⟨w3.heap.size,3,none⟩ = some (.int .i64 0):=by simp [World.cell?,hX4]
            have c4 : w4.cell? ⟨w3.heap.size,4,none⟩ = some (.int .i64 0):=by simp [World.cell?,hX4]
            have c5 : w4.cell? ⟨w3.heap.size,5,none⟩ = some (.int .i64 0):=by simp [World.cell?,hX4]
            have f0 : ∀ i,w4.frozen? ⟨w3.heap.size,i,none⟩ = false:=fun i=>by simp [World.frozen?,hX4]
            go_simp
            have hb6:=set6 (v0:=.string y1.1) (v1:=.int .i64 y2.1) (v2:=.int .u32 (y3.1 : Int)) (v3:=.int .i64 (y4.1 : Int)) (v4:=.int .i64 0) (v5:=.int .i64 0) hX4
            have hs6:=Lib.hid ((((((hS4.far2 hXw 0 (.string y1.1)).far2 hXw 1 (.int .i64 y2.1)).far2 hXw 2 (.int .u32 (y3.1 : Int))).far2 hXw 3 (.int .i64 (y4.1 : Int))).far2 hXw 4 (.int .i64 0)).far2 hXw 5 (.int .i64 0))
            have hr6:=Lib.hid ((((((hr4.far hXR hXb 0 (.string y1.1)).far hXR hXb 1 (.int .i64 y2.1)).far hXR hXb 2 (.int .u32 (y3.1 : Int))).far hXR hXb 3 (.int .i64 (y4.1 : Int))).far hXR hXb 4 (.int .i64 0)).far hXR hXb 5 (.int .i64 0))
            have ht6:=Lib.hid ((heap_setCell_other _ ⟨w3.heap.size,5,none⟩ w.heap.size (.int .i64 0) hXT).trans ((heap_setCell_other _ ⟨w3.heap.size,4,none⟩ w.heap.size (.int .i64 0) hXT).trans ((heap_setCell_other _ ⟨w3.heap.size,3,none⟩ w.heap.size (.int .i64 (y4.1 : Int)) hXT).trans ((heap_setCell_other _ ⟨w3.heap.size,2,none⟩ w.heap.size (.int .u32 (y3.1 : Int)) hXT).trans ((heap_setCell_other _ ⟨w3.heap.size,1,none⟩ w.heap.size (.int .i64 y2.1) hXT).trans ((heap_setCell_other _ ⟨w3.heap.size,0,none⟩ w.heap.size (.string y1.1) hXT).trans hT4))))))
            generalize ((((((w4.setCell ⟨w3.heap.size,0,none⟩ (.string y1.1)).setCell ⟨w3.heap.size,1,none⟩ (.int .i64 y2.1)).setCell ⟨w3.heap.size,2,none⟩ (.int .u32 (y3.1 : Int))).setCell ⟨w3.heap.size,3,none⟩ (.int .i64 (y4.1 : Int))).setCell ⟨w3.heap.size,4,none⟩ (.int .i64 0)).setCell ⟨w3.heap.size,5,none⟩ (.int .i64 0)) = w6 at hb6 hs6 hr6 ht6 ⊢
            clear c0 c1 c2 c3 c4 c5 f0 hX4 hT4 hS4 hr4
            refine hK _ _ ?_
            clear hK K
            refine wpAny_done (by kernel_rfl) ?_ _
            go_wp2
            go_meet
            exact ⟨w3.heap.size,y1,y2,y3,y4,rfl,hm1,hm2,hm3,hm4,hr6.out,hs6.out,hb6,ht6.out,hXR,hXb,hXw2⟩
        · go_simp
          have hXR : w2.heap.size ≠ R:=by have:=hr2.rlow;omega
          have hXb : b < w2.heap.size:=hr2.low
          have hXw2 : w.heap.size < w2.heap.size:=(Array.getElem?_eq_some_iff.1 hT2).1
          have hXw : w.heap.size ≤ w2.heap.size:=Nat.le_of_lt hXw2
          have hXT : w.heap.size ≠ w2.heap.size:=Nat.ne_of_lt hXw2
          have hr2a:=hr2.alloc (.cells #[.string ⟨#[]⟩,.int .i64 0,.int .u32 0,.int .i64 0,.int .i64 0,.int .i64 0] 68)
          have hS2a:=hS2.alloc (.cells #[.string ⟨#[]⟩,.int .i64 0,.int .u32 0,.int .i64 0,.int .i64 0,.int .i64 0] 68)
          have hT2a : (w2.alloc (.cells #[.string ⟨#[]⟩,.int .i64 0,.int .u32 0,.int .i64 0,.int .i64 0,.int .i64 0] 68)).heap[w.heap.size]? = some (.cells #[.string ⟨#[]⟩,.int .i64 0,.int .u32 0,.int .i64 0,.int .i64 0,.int .i64 0] 68 (0,0)):=(heap_alloc_old _ _ hXw2).trans hT2
          have hX2a : (w2.alloc (.cells #[.string ⟨#[]⟩,.int .i64 0,.int .u32 0,.int .i64 0,.int .i64 0,.int .i64 0] 68)).heap[w2.heap.size]? = some (.cells #[.string ⟨#[]⟩,.int .i64 0,.int .u32 0,.int .i64 0,.int .i64 0,.int .i64 0] 68 (0,0)):=heap_alloc_new _ _
          clear hr2 hS2 hT2
          refine hK _ _ ?_
          clear hK K
          obtain ⟨w2a,hw2a⟩ : ∃ W,W = w2.alloc (.cells #[.string ⟨#[]⟩,.int .i64 0,.int .u32 0,.int .i64 0,.int .i64 0,.int .i64 0] 68):=⟨_,rfl⟩
          rw [← hw2a] at hr2a hS2a hT2a hX2a ⊢
          clear hw2a
          refine wpAny_ready (rs:=[9]) (by kernel_rfl) (by simp) ?_
          refine AllReady.cons rfl (fun K hK=>?_) AllReady.nil
          go_simp
          refine (un _ _ hr2a).mono ?_
          rintro e w3 ⟨hs3,hv3⟩
          cases hm3 : nbF all y2.2 with
          | error x =>
            have hfin : M = .error x:=by rw [hM.out];simp only [symF,Except.bind,hm1,hm2,hm3]
            rw [hm3] at hv3
            subst hv3
            exact ⟨rfl,hS2a.trans hs3,by rw [hfin]⟩
          | ok y3 =>
          rw [hm3] at hv3
          obtain ⟨v3,rfl,rfl,hr3⟩:=hv3
          have hS3:=hS2a.trans hs3
          have hT3:=hs3.blk hlow hT2a
          have hX3:=hs3.blk hXR hX2a
          clear hX2a
          clear hr2a hS2a hT2a hs3
          refine hK _ _ ?_
          clear hK K
          have e10 : IntKind.u32.wrap (y3.1 : Int) = (y3.1 : Int):=by have h10:=(upF_le (show upF all y2.2 4294967295 = .ok y3 from hm3)).2.1;rw [IntKind.wrap_u32];omega
          refine wpAny_take (i:=10) (v:=?_) rfl (by kernel_rfl) (by kernel_rfl) (by kernel_rfl) (fun _ _ _ h=>h) (Or.inl ⟨by rfl,?_⟩) ?_
          case refine_2=>(intro w;go_simp;(try with_reducible rfl))
          refine wpAny_ready (rs:=[14]) (by kernel_rfl) (by simp) ?_
          refine AllReady.cons rfl (fun K hK=>?_) AllReady.nil
          go_simp
          refine (un _ _ hr3).mono ?_
          rintro e w4 ⟨hs4,hv4⟩
          cases hm4 : nbF all y3.2 with
          | error x =>
            have hfin : M = .error x:=by rw [hM.out];simp only [symF,Except.bind,hm1,hm2,hm3,hm4]
            rw [hm4] at hv4
            subst hv4
            exact ⟨rfl,hS3.trans hs4,by rw [hfin]⟩
          | ok y4 =>
          rw [hm4] at hv4
          obtain ⟨v4,rfl,rfl,hr4⟩:=hv4
          have hS4:=hS3.trans hs4
          have hT4:=hs4.blk hlow hT3
          have hX4:=hs4.blk hXR hX3
          clear hX3
          clear hr3 hS3 hT3 hs4
          refine hK _ _ ?_
          clear hK K
          refine wpAny_take (i:=15) (v:=?_) rfl (by kernel_rfl) (by kernel_rfl) (by kernel_rfl) (fun _ _ _ h=>h) (Or.inl ⟨by rfl,?_⟩) ?_
          case refine_2=>(intro w;go_simp;(try with_reducible rfl))
          refine wpAny_ready (rs:=[17]) (by kernel_rfl) (by simp) ?_
          refine AllReady.cons rfl (fun K hK=>?_) AllReady.nil
          have c0 : w4.cell? ⟨w2.heap.size,0,none⟩ = some (.string ⟨#[]⟩):=by simp [World.cell?,hX4]
          have c1 : w4.cell? ⟨w2.heap.size,1,none⟩ = some (.int .i64 0):=by simp [World.cell?,hX4]
          have c2 : w4.cell? ⟨w2.heap.size,2,none⟩ = some (.int .u32 0):=by simp [World.cell?,hX4]
          have c3 : w4.cell? ⟨w2.heap.size,3,none⟩ = some (.int .i64 0):=by simp [World.cell?,hX4]
          have c4 : w4.cell? ⟨w2.heap.size,4,none⟩ = some (.int .i64 0):=by simp [World.cell?,hX4]
          have c5 : w4.cell? ⟨w2.heap.size,5,none⟩ = some (.int .i64 0):=by simp [World.cell?,hX4]
          have f0 : ∀ i,w4.frozen? ⟨w2.heap.size,i,none⟩ = false:=fun i=>by simp [World.frozen?,hX4]
          go_simp
          have hb6:=set6 (v0:=.string y1.1) (v1:=.int .i64 y2.1) (v2:=.int .u32 (y3.1 : Int)) (v3:=.int .i64 (y4.1 : Int)) (v4:=.int .i64 0) (v5:=.int .i64 0) hX4
          have hs6:=Lib.hid ((((((hS4.far2 hXw 0 (.string y1.1)).far2 hXw 1 (.int .i64 y2.1)).far2 hXw 2 (.int .u32 (y3.1 : Int))).far2 hXw 3 (.int .i64 (y4.1 : Int))).far2 hXw 4 (.int .i64 0)).far2 hXw 5 (.int .i64 0))
          have hr6:=Lib.hid ((((((hr4.far hXR hXb 0 (.string y1.1)).far hXR hXb 1 (.int .i64 y2.1)).far hXR hXb 2 (.int .u32 (y3.1 : Int))).far hXR hXb 3 (.int .i64 (y4.1 : Int))).far hXR hXb 4 (.int .i64 0)).far hXR hXb 5 (.int .i64 0))
          have ht6:=Lib.hid ((heap_setCell_other _ ⟨w2.heap.size,5,none⟩ w.heap.size (.int .i64 0) hXT).trans ((heap_setCell_other _ ⟨w2.heap.size,4,none⟩ w.heap.size (.int .i64 0) hXT).trans ((heap_setCell_other _ ⟨w2.heap.size,3,none⟩ w.heap.size (.int .i64 (y4.1 : Int)) hXT).trans ((heap_setCell_other _ ⟨w2.heap.size,2,none⟩ w.heap.size (.int .u32 (y3.1 : Int)) hXT).trans ((heap_setCell_other _ ⟨w2.heap.size,1,none⟩ w.heap.size (.int .i64 y2.1) hXT).trans ((heap_setCell_other _ ⟨w2.heap.size,0,none⟩ w.heap.size (.string y1.1) hXT).trans hT4))))))
          generalize ((((((w4.setCell ⟨w2.heap.size,0,none⟩ (.string y1.1)).setCell ⟨w2.heap.size,1,none⟩ (.int .i64 y2.1)).setCell ⟨w2.heap.size,2,none⟩ (.int .u32 (y3.1 : Int))).setCell ⟨w2.heap.size,3,none⟩ (.int .i64 (y4.1 : Int))).setCell ⟨w2.heap.size,4,none⟩ (.int .i64 0)).setCell ⟨w2.heap.size,5,none⟩ (.int .i64 0)) = w6 at hb6 hs6 hr6 ht6 ⊢
          clear c0 c1 c2 c3 c4 c5 f0 hX4 hT4 hS4 hr4
          refine hK _ _ ?_
          clear hK K
          refine wpAny_done (by kernel_rfl) ?_ _
          go_wp2
          go_meet
          exact ⟨w2.heap.size,y1,y2,y3,y4,rfl,hm1,hm2,hm3,hm4,hr6.out,hs6.out,hb6,ht6.out,hXR,hXb,hXw2⟩
      · go_simp
        have hXR : w1.heap.size ≠ R:=by have:=hr1.rlow;omega
        have hXb : b < w1.heap.size:=hr1.low
        have hXw2 : w.heap.size < w1.heap.size:=(Array.getElem?_eq_some_iff.1 hT1).1
        have hXw : w.heap.size ≤ w1.heap.size:=Nat.le_of_lt hXw2
        have hXT : w.heap.size ≠ w1.heap.size:=Nat.ne_of_lt hXw2
        have hr1a:=hr1.alloc (.cells #[.string ⟨#[]⟩,.int .i64 0,.int .u32 0,.int .i64 0,.int .i64 0,.int .i64 0] 68)
        have hS1a:=hS1.alloc (.cells #[.string ⟨#[]⟩,.int .i64 0,.int .u32 0,.int .i64 0,.int .i64 0,.int .i64 0] 68)
        have hT1a : (w1.alloc (.cells #[.string ⟨#[]⟩,.int .i64 0,.int .u32 0,.int .i64 0,.int .i64 0,.int .i64 0] 68)).heap[w.heap.size]? = some (.cells #[.string ⟨#[]⟩,.int .i64 0,.int .u32 0,.int .i64 0,.int .i64 0,.int .i64 0] 68 (0,0)):=(heap_alloc_old _ _ hXw2).trans hT1
        have hX1a : (w1.alloc (.cells #[.string ⟨#[]⟩,.int .i64 0,.int .u32 0,.int .i64 0,.int .i64 0,.int .i64 0] 68)).heap[w1.heap.size]? = some (.cells #[.string ⟨#[]⟩,.int .i64 0,.int .u32 0,.int .i64 0,.int .i64 0,.int .i64 0] 68 (0,0)):=heap_alloc_new _ _
        clear hr1 hS1 hT1
        refine hK _ _ ?_
        clear hK K
        obtain ⟨w1a,hw1a⟩ : ∃ W,W = w1.alloc (.cells #[.string ⟨#[]⟩,.int .i64 0,.int .u32 0,.int .i64 0,.int .i64 0,.int .i64 0] 68):=⟨_,rfl⟩
        rw [← hw1a] at hr1a hS1a hT1a hX1a ⊢
        clear hw1a
        refine wpAny_ready (rs:=[5]) (by kernel_rfl) (by simp) ?_
        refine AllReady.cons rfl (fun K hK=>?_) AllReady.nil
        go_simp
        refine (us _ _ hr1a).mono ?_
        rintro e w2 ⟨hs2,hv2⟩
        cases hm2 : sgnF all y1.2 with
        | error x =>
          have hfin : M = .error x:=by rw [hM.out];simp only [symF,Except.bind,hm1,hm2]
          rw [hm2] at hv2
          subst hv2
          exact ⟨rfl,hS1a.trans hs2,by rw [hfin]⟩
        | ok y2 =>
        rw [hm2] at hv2
        obtain ⟨v2,rfl,rfl,hr2⟩:=hv2
        have hS2:=hS1a.trans hs2
        have hT2:=hs2.blk hlow hT1a
        have hX2:=hs2.blk hXR hX1a
        clear hX1a
        clear hr1a hS1a hT1a hs2
        refine hK _ _ ?_
        clear hK K
        refine wpAny_ready (rs:=[9]) (by kernel_rfl) (by simp) ?_
        refine AllReady.cons rfl (fun K hK=>?_) AllReady.nil
        go_simp
        refine (un _ _ hr2).mono ?_
        rintro e w3 ⟨hs3,hv3⟩
        cases hm3 : nbF all y2.2 with
        | error x =>
          have hfin : M = .error x:=by rw [hM.out];simp only [symF,Except.bind,hm1,hm2,hm3]
          rw [hm3] at hv3
          subst hv3
          exact ⟨rfl,hS2.trans hs3,by rw [hfin]⟩
        | ok y3 =>
        rw [hm3] at hv3
        obtain ⟨v3,rfl,rfl,hr3⟩:=hv3
        have hS3:=hS2.trans hs3
        have hT3:=hs3.blk hlow hT2
        have hX3:=hs3.blk hXR hX2
        clear hX2
        clear hr2 hS2 hT2 hs3
        refine hK _ _ ?_
        clear hK K
        have e10 : IntKind.u32.wrap (y3.1 : Int) = (y3.1 : Int):=by have h10:=(upF_le (show upF all y2.2 4294967295 = .ok y3 from hm3)).2.1;rw [IntKind.wrap_u32];omega
        refine wpAny_take (i:=10) (v:=?_) rfl (by kernel_rfl) (by kernel_rfl) (by kernel_rfl) (fun _ _ _ h=>h) (Or.inl ⟨by rfl,?_⟩) ?_
        case refine_2=>(intro w;go_simp;(try with_reducible rfl))
        refine wpAny_ready (rs:=[14]) (by kernel_rfl) (by simp) ?_
        refine AllReady.cons rfl (fun K hK=>?_) AllReady.nil
        go_simp
        refine (un _ _ hr3).mono ?_
        rintro e w4 ⟨hs4,hv4⟩
        cases hm4 : nbF all y3.2 with
        | error x =>
          have hfin : M = .error x:=by rw [hM.out];simp only [symF,Except.bind,hm1,hm2,hm3,hm4]
          rw [hm4] at hv4
          subst hv4
          exact ⟨rfl,hS3.trans hs4,by rw [hfin]⟩
        | ok y4 =>
        rw [hm4] at hv4
        obtain ⟨v4,rfl,rfl,hr4⟩:=hv4
        have hS4:=hS3.trans hs4
        have hT4:=hs4.blk hlow hT3
        have hX4:=hs4.blk hXR hX3
        clear hX3
        clear hr3 hS3 hT3 hs4
        refine hK _ _ ?_
        clear hK K
        refine wpAny_take (i:=15) (v:=?_) rfl (by kernel_rfl) (by kernel_rfl) (by kernel_rfl) (fun _ _ _ h=>h) (Or.inl ⟨by rfl,?_⟩) ?_
        case refine_2=>(intro w;go_simp;(try with_reducible rfl))
        refine wpAny_ready (rs:=[17]) (by kernel_rfl) (by simp) ?_
        refine AllReady.cons rfl (fun K hK=>?_) AllReady.nil
        have c0 : w4.cell? ⟨w1.heap.size,0,none⟩ = some (.string ⟨#[]⟩):=by simp [World.cell?,hX4]
        have c1 : w4.cell? ⟨w1.heap.size,1,none⟩ = some (.int .i64 0):=by simp [World.cell?,hX4]
        have c2 : w4.cell? ⟨w1.heap.size,2,none⟩ = some (.int .u32 0):=by simp [World.cell?,hX4]
        have c3 : w4.cell? ⟨w1.heap.size,3,none⟩ = some (.int .i64 0):=by simp [World.cell?,hX4]
        have c4 : w4.cell? ⟨w1.heap.size,4,none⟩ = some (.int .i64 0):=by simp [World.cell?,hX4]
        have c5 : w4.cell? ⟨w1.heap.size,5,none⟩ = some (.int .i64 0):=by simp [World.cell?,hX4]
        have f0 : ∀ i,w4.frozen? ⟨w1.heap.size,i,none⟩ = false:=fun i=>by simp [World.frozen?,hX4]
        go_simp
        have hb6:=set6 (v0:=.string y1.1) (v1:=.int .i64 y2.1) (v2:=.int .u32 (y3.1 : Int)) (v3:=.int .i64 (y4.1 : Int)) (v4:=.int .i64 0) (v5:=.int .i64 0) hX4
        have hs6:=Lib.hid ((((((hS4.far2 hXw 0 (.string y1.1)).far2 hXw 1 (.int .i64 y2.1)).far2 hXw 2 (.int .u32 (y3.1 : Int))).far2 hXw 3 (.int .i64 (y4.1 : Int))).far2 hXw 4 (.int .i64 0)).far2 hXw 5 (.int .i64 0))
        have hr6:=Lib.hid ((((((hr4.far hXR hXb 0 (.string y1.1)).far hXR hXb 1 (.int .i64 y2.1)).far hXR hXb 2 (.int .u32 (y3.1 : Int))).far hXR hXb 3 (.int .i64 (y4.1 : Int))).far hXR hXb 4 (.int .i64 0)).far hXR hXb 5 (.int .i64 0))
        have ht6:=Lib.hid ((heap_setCell_other _ ⟨w1.heap.size,5,none⟩ w.heap.size (.int .i64 0) hXT).trans ((heap_setCell_other _ ⟨w1.heap.size,4,none⟩ w.heap.size (.int .i64 0) hXT).trans ((heap_setCell_other _ ⟨w1.heap.size,3,none⟩ w.heap.size (.int .i64 (y4.1 : Int)) hXT).trans ((heap_setCell_other _ ⟨w1.heap.size,2,none⟩ w.heap.size (.int .u32 (y3.1 : Int)) hXT).trans ((heap_setCell_other _ ⟨w1.heap.size,1,none⟩ w.heap.size (.int .i64 y2.1) hXT).trans ((heap_setCell_other _ ⟨w1.heap.size,0,none⟩ w.heap.size (.string y1.1) hXT).trans hT4))))))
        generalize ((((((w4.setCell ⟨w1.heap.size,0,none⟩ (.string y1.1)).setCell ⟨w1.heap.size,1,none⟩ (.int .i64 y2.1)).setCell ⟨w1.heap.size,2,none⟩ (.int .u32 (y3.1 : Int))).setCell ⟨w1.heap.size,3,none⟩ (.int .i64 (y4.1 : Int))).setCell ⟨w1.heap.size,4,none⟩ (.int .i64 0)).setCell ⟨w1.heap.size,5,none⟩ (.int .i64 0)) = w6 at hb6 hs6 hr6 ht6 ⊢
        clear c0 c1 c2 c3 c4 c5 f0 hX4 hT4 hS4 hr4
        refine hK _ _ ?_
        clear hK K
        refine wpAny_done (by kernel_rfl) ?_ _
        go_wp2
        go_meet
        exact ⟨w1.heap.size,y1,y2,y3,y4,rfl,hm1,hm2,hm3,hm4,hr6.out,hs6.out,hb6,ht6.out,hXR,hXb,hXw2⟩
    · go_simp
      have hXR : w0.heap.size ≠ R:=by have:=hr0.rlow;omega
      have hXb : b < w0.heap.size:=hr0.low
      have hXw2 : w.heap.size < w0.heap.size:=(Array.getElem?_eq_some_iff.1 hT0).1
      have hXw : w.heap.size ≤ w0.heap.size:=Nat.le_of_lt hXw2
      have hXT : w.heap.size ≠ w0.heap.size:=Nat.ne_of_lt hXw2
      have hr0a:=hr0.alloc (.cells #[.string ⟨#[]⟩,.int .i64 0,.int .u32 0,.int .i64 0,.int .i64 0,.int .i64 0] 68)
      have hS0a:=hS0.alloc (.cells #[.string ⟨#[]⟩,.int .i64 0,.int .u32 0,.int .i64 0,.int .i64 0,.int .i64 0] 68)
      have hT0a : (w0.alloc (.cells #[.string ⟨#[]⟩,.int .i64 0,.int .u32 0,.int .i64 0,.int .i64 0,.int .i64 0] 68)).heap[w.heap.size]? = some (.cells #[.string ⟨#[]⟩,.int .i64 0,.int .u32 0,.int .i64 0,.int .i64 0,.int .i64 0] 68 (0,0)):=(heap_alloc_old _ _ hXw2).trans hT0
      have hX0a : (w0.alloc (.cells #[.string ⟨#[]⟩,.int .i64 0,.int .u32 0,.int .i64 0,.int .i64 0,.int .i64 0] 68)).heap[w0.heap.size]? = some (.cells #[.string ⟨#[]⟩,.int .i64 0,.int .u32 0,.int .i64 0,.int .i64 0,.int .i64 0] 68 (0,0)):=heap_alloc_new _ _
      clear hr0 hS0 hT0
      refine hK _ _ ?_
      clear hK K
      obtain ⟨w0a,hw0a⟩ : ∃ W,W = w0.alloc (.cells #[.string ⟨#[]⟩,.int .i64 0,.int .u32 0,.int .i64 0,.int .i64 0,.int .i64 0] 68):=⟨_,rfl⟩
      rw [← hw0a] at hr0a hS0a hT0a hX0a ⊢
      clear hw0a
      refine wpAny_ready (rs:=[1]) (by kernel_rfl) (by simp) ?_
      refine AllReady.cons rfl (fun K hK=>?_) AllReady.nil
      go_simp
      refine (ut _ _ hr0a).mono ?_
      rintro e w1 ⟨hs1,hv1⟩
      cases hm1 : txtF all p 40 with
      | error x =>
        have hfin : M = .error x:=by rw [hM.out];simp only [symF,Except.bind,hm1]
        rw [hm1] at hv1
        subst hv1
        exact ⟨rfl,hS0a.trans hs1,by rw [hfin]⟩
      | ok y1 =>
      rw [hm1] at hv1
      obtain ⟨v1,rfl,rfl,hr1⟩:=hv1
      have hS1:=hS0a.trans hs1
      have hT1:=hs1.blk hlow hT0a
      have hX1:=hs1.blk hXR hX0a
      clear hX0a
      clear hr0a hS0a hT0a hs1
      refine hK _ _ ?_
      clear hK K
      refine wpAny_ready (rs:=[5]) (by kernel_rfl) (by simp) ?_
      refine AllReady.cons rfl (fun K hK=>?_) AllReady.nil
      go_simp
      refine (us _ _ hr1).mono ?_
      rintro e w2 ⟨hs2,hv2⟩
      cases hm2 : sgnF all y1.2 with
      | error x =>
        have hfin : M = .error x:=by rw [hM.out];simp only [symF,Except.bind,hm1,hm2]
        rw [hm2] at hv2
        subst hv2
        exact ⟨rfl,hS1.trans hs2,by rw [hfin]⟩
      | ok y2 =>
      rw [hm2] at hv2
      obtain ⟨v2,rfl,rfl,hr2⟩:=hv2
      have hS2:=hS1.trans hs2
      have hT2:=hs2.blk hlow hT1
      have hX2:=hs2.blk hXR hX1
      clear hX1
      clear hr1 hS1 hT1 hs2
      refine hK _ _ ?_
      clear hK K
      refine wpAny_ready (rs:=[9]) (by kernel_rfl) (by simp) ?_
      refine AllReady.cons rfl (fun K hK=>?_) AllReady.nil
      go_simp
      refine (un _ _ hr2).mono ?_
      rintro e w3 ⟨hs3,hv3⟩
      cases hm3 : nbF all y2.2 with
      | error x =>
        have hfin : M = .error x:=by rw [hM.out];simp only [symF,Except.bind,hm1,hm2,hm3]
        rw [hm3] at hv3
        subst hv3
        exact ⟨rfl,hS2.trans hs3,by rw [hfin]⟩
      | ok y3 =>
      rw [hm3] at hv3
      obtain ⟨v3,rfl,rfl,hr3⟩:=hv3
      have hS3:=hS2.trans hs3
      have hT3:=hs3.blk hlow hT2
      have hX3:=hs3.blk hXR hX2
      clear hX2
      clear hr2 hS2 hT2 hs3
      refine hK _ _ ?_
      clear hK K
      have e10 : IntKind.u32.wrap (y3.1 : Int) = (y3.1 : Int):=by have h10:=(upF_le (show upF all y2.2 4294967295 = .ok y3 from hm3)).2.1;rw [IntKind.wrap_u32];omega
      refine wpAny_take (i:=10) (v:=?_) rfl (by kernel_rfl) (by kernel_rfl) (by kernel_rfl) (fun _ _ _ h=>h) (Or.inl ⟨by rfl,?_⟩) ?_
      case refine_2=>(intro w;go_simp;(try with_reducible rfl))
      refine wpAny_ready (rs:=[14]) (by kernel_rfl) (by simp) ?_
      refine AllReady.cons rfl (fun K hK=>?_) AllReady.nil
      go_simp
      refine (un _ _ hr3).mono ?_
      rintro e w4 ⟨hs4,hv4⟩
      cases hm4 : nbF all y3.2 with
      | error x =>
        have hfin : M = .error x:=by rw [hM.out];simp only [symF,Except.bind,hm1,hm2,hm3,hm4]
        rw [hm4] at hv4
        subst hv4
        exact ⟨rfl,hS3.trans hs4,by rw [hfin]⟩
      | ok y4 =>
      rw [hm4] at hv4
      obtain ⟨v4,rfl,rfl,hr4⟩:=hv4
      have hS4:=hS3.trans hs4
      have hT4:=hs4.blk hlow hT3
      have hX4:=hs4.blk hXR hX3
      clear hX3
      clear hr3 hS3 hT3 hs4
      refine hK _ _ ?_
      clear hK K
      refine wpAny_take (i:=15) (v:=?_) rfl (by kernel_rfl) (by kernel_rfl) (by kernel_rfl) (fun _ _ _ h=>h) (Or.inl ⟨by rfl,?_⟩) ?_
      case refine_2=>(intro w;go_simp;(try with_reducible rfl))
      refine wpAny_ready (rs:=[17]) (by kernel_rfl) (by simp) ?_
      refine AllReady.cons rfl (fun K hK=>?_) AllReady.nil
      have c0 : w4.cell? ⟨w0.heap.size,0,none⟩ = some (.string ⟨#[]⟩):=by simp [World.cell?,hX4]
      have c1 : w4.cell? ⟨w0.heap.size,1,none⟩ = some (.int .i64 0):=by simp [World.cell?,hX4]
      have c2 : w4.cell? ⟨w0.heap.size,2,none⟩ = some (.int .u32 0):=by simp [World.cell?,hX4]
      have c3 : w4.cell? ⟨w0.heap.size,3,none⟩ = some (.int .i64 0):=by simp [World.cell?,hX4]
      have c4 : w4.cell? ⟨w0.heap.size,4,none⟩ = some (.int .i64 0):=by simp [World.cell?,hX4]
      have c5 : w4.cell? ⟨w0.heap.size,5,none⟩ = some (.int .i64 0):=by simp [World.cell?,hX4]
      have f0 : ∀ i,w4.frozen? ⟨w0.heap.size,i,none⟩ = false:=fun i=>by simp [World.frozen?,hX4]
      go_simp
      have hb6:=set6 (v0:=.string y1.1) (v1:=.int .i64 y2.1) (v2:=.int .u32 (y3.1 : Int)) (v3:=.int .i64 (y4.1 : Int)) (v4:=.int .i64 0) (v5:=.int .i64 0) hX4
      have hs6:=Lib.hid ((((((hS4.far2 hXw 0 (.string y1.1)).far2 hXw 1 (.int .i64 y2.1)).far2 hXw 2 (.int .u32 (y3.1 : Int))).far2 hXw 3 (.int .i64 (y4.1 : Int))).far2 hXw 4 (.int .i64 0)).far2 hXw 5 (.int .i64 0))
      have hr6:=Lib.hid ((((((hr4.far hXR hXb 0 (.string y1.1)).far hXR hXb 1 (.int .i64 y2.1)).far hXR hXb 2 (.int .u32 (y3.1 : Int))).far hXR hXb 3 (.int .i64 (y4.1 : Int))).far hXR hXb 4 (.int .i64 0)).far hXR hXb 5 (.int .i64 0))
      have ht6:=Lib.hid ((heap_setCell_other _ ⟨w0.heap.size,5,none⟩ w.heap.size (.int .i64 0) hXT).trans ((heap_setCell_other _ ⟨w0.heap.size,4,none⟩ w.heap.size (.int .i64 0) hXT).trans ((heap_setCell_other _ ⟨w0.heap.size,3,none⟩ w.heap.size (.int .i64 (y4.1 : Int)) hXT).trans ((heap_setCell_other _ ⟨w0.heap.size,2,none⟩ w.heap.size (.int .u32 (y3.1 : Int)) hXT).trans ((heap_setCell_other _ ⟨w0.heap.size,1,none⟩ w.heap.size (.int .i64 y2.1) hXT).trans ((heap_setCell_other _ ⟨w0.heap.size,0,none⟩ w.heap.size (.string y1.1) hXT).trans hT4))))))
      generalize ((((((w4.setCell ⟨w0.heap.size,0,none⟩ (.string y1.1)).setCell ⟨w0.heap.size,1,none⟩ (.int .i64 y2.1)).setCell ⟨w0.heap.size,2,none⟩ (.int .u32 (y3.1 : Int))).setCell ⟨w0.heap.size,3,none⟩ (.int .i64 (y4.1 : Int))).setCell ⟨w0.heap.size,4,none⟩ (.int .i64 0)).setCell ⟨w0.heap.size,5,none⟩ (.int .i64 0)) = w6 at hb6 hs6 hr6 ht6 ⊢
      clear c0 c1 c2 c3 c4 c5 f0 hX4 hT4 hS4 hr4
      refine hK _ _ ?_
      clear hK K
      refine wpAny_done (by kernel_rfl) ?_ _
      go_wp2
      go_meet
      exact ⟨w0.heap.size,y1,y2,y3,y4,rfl,hm1,hm2,hm3,hm4,hr6.out,hs6.out,hb6,ht6.out,hXR,hXb,hXw2⟩
  case rest =>
    obtain ⟨X,y1,y2,y3,y4,rfl,hm1,hm2,hm3,hm4,hr4,hS4,hX4,hT4,hXR,hXb,hXw⟩:=hcut
    go_wp2_with fail
    refine (un _ _ hr4).mono ?_
    rintro e w5 ⟨hs5,hv5⟩
    cases hm5 : nbF all y4.2 with
    | error x =>
      have hfin : M = .error x:=by rw [hM.out];simp only [symF,Except.bind,hm1,hm2,hm3,hm4,hm5]
      rw [hm5] at hv5
      subst hv5
      exact ⟨rfl,hS4.trans hs5,by rw [hfin]⟩
    | ok y5 =>
    rw [hm5] at hv5
    obtain ⟨v5,rfl,rfl,hr5⟩:=hv5
    have hS5:=hS4.trans hs5
    have hT5:=hs5.blk hlow hT4
    have hX5:=hs5.blk hXR hX4
    clear hS4 hs5 hT4 hX4 hr4 ut un us
    have g0 : w5.cell? ⟨X,0,none⟩ = some (.string y1.1):=by simp [World.cell?,hX5]
    have g1 : w5.cell? ⟨X,1,none⟩ = some (.int .i64 y2.1):=by simp [World.cell?,hX5]
    have g2 : w5.cell? ⟨X,2,none⟩ = some (.int .u32 (y3.1 : Int)):=by simp [World.cell?,hX5]
    have g3 : w5.cell? ⟨X,3,none⟩ = some (.int .i64 (y4.1 : Int)):=by simp [World.cell?,hX5]
    have g4 : w5.cell? ⟨X,4,none⟩ = some (.int .i64 0):=by simp [World.cell?,hX5]
    have g5 : w5.cell? ⟨X,5,none⟩ = some (.int .i64 0):=by simp [World.cell?,hX5]
    have gf : ∀ i,w5.frozen? ⟨X,i,none⟩ = false:=fun i=>by simp [World.frozen?,hX5]
    have t0 : w5.cell? ⟨w.heap.size,0,none⟩ = some (.string ⟨#[]⟩):=by simp [World.cell?,hT5]
    have t1 : w5.cell? ⟨w.heap.size,1,none⟩ = some (.int .i64 0):=by simp [World.cell?,hT5]
    have t2 : w5.cell? ⟨w.heap.size,2,none⟩ = some (.int .u32 0):=by simp [World.cell?,hT5]
    have t3 : w5.cell? ⟨w.heap.size,3,none⟩ = some (.int .i64 0):=by simp [World.cell?,hT5]
    have t4 : w5.cell? ⟨w.heap.size,4,none⟩ = some (.int .i64 0):=by simp [World.cell?,hT5]
    have t5 : w5.cell? ⟨w.heap.size,5,none⟩ = some (.int .i64 0):=by simp [World.cell?,hT5]
    have tf : ∀ i,w5.frozen? ⟨w.heap.size,i,none⟩ = false:=fun i=>by simp [World.frozen?,hT5]
    have hx5:=(upF_le (show upF all y4.2 4294967295 = .ok y5 from hm5)).2.1
    obtain ⟨z5,hz5⟩ : ∃ z,z = (y5.1 : Int):=⟨_,rfl⟩
    rw [← hz5]
    have hfin:=Lib.hid (show M = .ok (⟨y1.1,y2.1,(y3.1 : Int),(y4.1 : Int),z5 % 4,z5 / 4⟩,y5.2) by rw [hM.out];simp only [symF,Except.bind,hm1,hm2,hm3,hm4,hm5,hz5];rfl)
    have em : z5.tmod 4 = z5 % 4:=Int.tmod_eq_emod_of_nonneg (by omega)
    have ed : z5.tdiv 4 = z5 / 4:=Int.tdiv_eq_ediv_of_nonneg (by omega)
    have ew : wrap64 (z5 / 4) = z5 / 4:=wrap_in (by omega) (by omega)
    have hXT : X ≠ w.heap.size:=Nat.ne_of_gt hXw
    have hTX : w.heap.size ≠ X:=Nat.ne_of_lt hXw
    clear hx5 hm1 hm2 hm3 hm4 hm5
    replace hz5:=Lib.hid hz5
    go_wp2
    have hTb:=set6 (v0:=.string y1.1) (v1:=.int .i64 y2.1) (v2:=.int .u32 (y3.1 : Int)) (v3:=.int .i64 (y4.1 : Int)) (v4:=.int .i64 (z5 % 4)) (v5:=.int .i64 (z5 / 4)) ((heap_setCell_other (w5.setCell ⟨X,4,none⟩ (.int .i64 (z5 % 4))) ⟨X,5,none⟩ w.heap.size (.int .i64 (z5 / 4)) hTX).trans ((heap_setCell_other w5 ⟨X,4,none⟩ w.heap.size (.int .i64 (z5 % 4)) hTX).trans hT5))
    have hsF:=((((((((hS5.far2 (Nat.le_of_lt hXw) 4 (.int .i64 (z5 % 4))).far2 (Nat.le_of_lt hXw) 5 (.int .i64 (z5 / 4))).far 0 (.string y1.1)).far 1 (.int .i64 y2.1)).far 2 (.int .u32 (y3.1 : Int))).far 3 (.int .i64 (y4.1 : Int))).far 4 (.int .i64 (z5 % 4))).far 5 (.int .i64 (z5 / 4)))
    have hrF:=((((((((hr5.far hXR hXb 4 (.int .i64 (z5 % 4))).far hXR hXb 5 (.int .i64 (z5 / 4))).far hlow hbl 0 (.string y1.1)).far hlow hbl 1 (.int .i64 y2.1)).far hlow hbl 2 (.int .u32 (y3.1 : Int))).far hlow hbl 3 (.int .i64 (y4.1 : Int))).far hlow hbl 4 (.int .i64 (z5 % 4))).far hlow hbl 5 (.int .i64 (z5 / 4)))
    rw [hfin.out]
    exact ⟨rfl,_,results_cell_row rfl _ _ w.heap.size 68 _ _ _ rfl hTb Tryz.underlying68 rfl (by kernel_rfl),hsF,_,rfl,rfl,hrF⟩
end Go.Ev

