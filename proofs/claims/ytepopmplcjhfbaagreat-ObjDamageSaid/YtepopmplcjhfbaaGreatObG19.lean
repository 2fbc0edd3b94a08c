import Derived.Test.YtepopmplcjhfbaaGreatObG18
import Derived.Test.YtepopmplcjhfbaaGreatObG12
import Derived.Deep.RegionHeld3
import Derived.Test.YtepopmplcjhfbaaGreatObG09
import Derived.Test.YtepopmplcjhfbaaGreatObG11
import Derived.Test.YtepopmplcjhfbaaGreatObG06
import Derived.Test.YtepopmplcjhfbaaGreatObG00
import Derived.Shelf.Abstract
import Derived.Laws.EntriesVeiled
import Derived.Test.YtepopmplcjhfbaaGreatObG08
import Derived.WalkKit
set_option linter.unusedSectionVars false
set_option linter.unusedVariables false
set_option linter.unusedSimpArgs false
set_option linter.unnecessarySimpa false
namespace Go.Ev
open Go.RowKit Go.Proofs Go.Rw
theorem post_end {P : Program} {fn : Func} {c₀ : Frame} {cs : List Frame} {R : Ending → FrameMode → World → Prop} {a : Act} (u' : FrameMode) {w : World} (hd : a.defers = []) (hr : fn.results = #[]) (h : R (.returned (.tuple #[])) u' w) : bodyPostS P fn c₀ cs R .normal a ({ c₀ with mode:=u' } :: cs) w :=
  ⟨hd,u',rfl,.tuple #[],results_none hr _ _ _,h⟩
set_option maxRecDepth 100000 in
set_option maxHeartbeats 1000000 in
theorem catch2_flt {w : World} {A B C : Nat} (x y : Int) (older : List PanicEntry) (va0 va1 va2 va3 va4 vb vc : Value) (ha : w.heap[A]? = some (.cells #[va0,va1,va2,va3,va4] 28 (0,0))) (hb : w.heap[B]? = some (.cells #[vb] 3 (0,0))) (hc : w.heap[C]? = some (.cells #[vc] 31 (0,0))) (hAB : B ≠ A) (hAC : C ≠ A) (hBC : C ≠ B) :
    CallsD Tryz.prog 92 #[.pointer (some ⟨A,0,none⟩),.pointer (some ⟨B,0,none⟩),.pointer (some ⟨C,0,none⟩)] (.panicking ({ v:=.iface 119 (.agg #[.int .i64 x,.int .i64 y]),recovered:=false } :: older)) w fun e u' w' =>
      e = .returned (.tuple #[]) ∧ u' = .panicking ({ v:=.iface 119 (.agg #[.int .i64 x,.int .i64 y]),recovered:=true } :: older) ∧ w'.heap[A]? = some (.cells #[.slice none 0 0,.slice none 0 0,.slice none 0 0,.slice none 0 0,.slice none 0 0] 28 (0,0)) ∧ w'.heap[B]? = some (.cells #[.int .i64 x] 3 (0,0)) ∧ w'.heap[C]? = some (.cells #[.int .i64 y] 31 (0,0)) ∧
      w'.os = w.os ∧ w'.tape = w.tape ∧ w'.output = w.output ∧ w.heap.size ≤ w'.heap.size ∧ ∀ k,k < w.heap.size → k ≠ A → k ≠ B → k ≠ C → w'.heap[k]? = w.heap[k]?:=by
  have hAl:=(Array.getElem?_eq_some_iff.1 ha).1
  have hBl:=(Array.getElem?_eq_some_iff.1 hb).1
  have hCl:=(Array.getElem?_eq_some_iff.1 hc).1
  refine callsD_of_wpS Tryz.func92 rfl fun c₀ cs hu=>?_
  apply wpS_seq
  apply wpS_region
  simp [wpOpsS,go_sem,recoverD,hu,Tryz.ntmps92,Exit.thenS,ta_flt]
  apply wpS_seq
  apply wpS_region
  simp [wpOpsS,go_sem,Exit.thenS]
  refine wpS_cond (t:=true) (by simp [Act.eval,Array.replicate]) ?_
  simp only [if_true]
  apply wpS_of_wp
  have a':=(heap_alloc_old w (.cells #[.int .i64 x,.int .i64 y] 119) hAl).trans ha
  have b':=(heap_alloc_old w (.cells #[.int .i64 x,.int .i64 y] 119) hBl).trans hb
  have c':=(heap_alloc_old w (.cells #[.int .i64 x,.int .i64 y] 119) hCl).trans hc
  have hn:=heap_alloc_new w (.cells #[.int .i64 x,.int .i64 y] 119)
  have nA : w.heap.size ≠ A:=by omega
  have nB : w.heap.size ≠ B:=by omega
  have nC : w.heap.size ≠ C:=by omega
  have nA' : A ≠ w.heap.size:=by omega
  have nB' : B ≠ w.heap.size:=by omega
  have nC' : C ≠ w.heap.size:=by omega
  have hAB' : A ≠ B:=Ne.symm hAB
  have hAC' : A ≠ C:=Ne.symm hAC
  have hBC' : B ≠ C:=Ne.symm hBC
  have p0 : (w.alloc (.cells #[.int .i64 x,.int .i64 y] 119)).cell? ⟨A,0,none⟩ = some va0:=by simp [World.cell?,a']
  have p1 : (w.alloc (.cells #[.int .i64 x,.int .i64 y] 119)).cell? ⟨A,1,none⟩ = some va1:=by simp [World.cell?,a']
  have p2 : (w.alloc (.cells #[.int .i64 x,.int .i64 y] 119)).cell? ⟨A,2,none⟩ = some va2:=by simp [World.cell?,a']
  have p3 : (w.alloc (.cells #[.int .i64 x,.int .i64 y] 119)).cell? ⟨A,3,none⟩ = some va3:=by simp [World.cell?,a']
  have p4 : (w.alloc (.cells #[.int .i64 x,.int .i64 y] 119)).cell? ⟨A,4,none⟩ = some va4:=by simp [World.cell?,a']
  have pf : ∀ i,(w.alloc (.cells #[.int .i64 x,.int .i64 y] 119)).frozen? ⟨A,i,none⟩ = false:=fun i=>by simp [World.frozen?,a']
  have q0 : (w.alloc (.cells #[.int .i64 x,.int .i64 y] 119)).cell? ⟨B,0,none⟩ = some vb:=by simp [World.cell?,b']
  have qf : (w.alloc (.cells #[.int .i64 x,.int .i64 y] 119)).frozen? ⟨B,0,none⟩ = false:=by simp [World.frozen?,b']
  have r0 : (w.alloc (.cells #[.int .i64 x,.int .i64 y] 119)).cell? ⟨C,0,none⟩ = some vc:=by simp [World.cell?,c']
  have rf : (w.alloc (.cells #[.int .i64 x,.int .i64 y] 119)).frozen? ⟨C,0,none⟩ = false:=by simp [World.frozen?,c']
  have n0 : (w.alloc (.cells #[.int .i64 x,.int .i64 y] 119)).cell? ⟨w.heap.size,0,none⟩ = some (.int .i64 x):=new_cell w _ 119 0 _ rfl
  have n1 : (w.alloc (.cells #[.int .i64 x,.int .i64 y] 119)).cell? ⟨w.heap.size,1,none⟩ = some (.int .i64 y):=new_cell w _ 119 1 _ rfl
  generalize hW1 : (w.alloc (.cells #[.int .i64 x,.int .i64 y] 119)) = W1 at *
  have hbel : Below 0 w W1:=by rw [← hW1];exact (Below.refl 0 w).alloc (Nat.zero_le _) _
  have hb2:=((((((((hbel.setCell (p:=⟨A,0,none⟩) (Nat.zero_le _) (.slice none 0 0)).setCell (p:=⟨A,1,none⟩) (Nat.zero_le _) (.slice none 0 0)).setCell (p:=⟨A,2,none⟩) (Nat.zero_le _) (.slice none 0 0)).setCell (p:=⟨A,3,none⟩) (Nat.zero_le _) (.slice none 0 0)).setCell (p:=⟨A,4,none⟩) (Nat.zero_le _) (.slice none 0 0)).setCell (p:=⟨B,0,none⟩) (Nat.zero_le _) (.int .i64 x)).setCell (p:=⟨C,0,none⟩) (Nat.zero_le _) (.int .i64 y)).drew)
  have hos:=Lib.hid (And.intro hb2.os (And.intro hb2.tape (And.intro hb2.output hb2.size)))
  clear hb2 hbel
  go_region_held3 (fun w'=>w'.cell? ⟨w.heap.size,0,none⟩ = some (.int .i64 x) ∧ w'.cell? ⟨w.heap.size,1,none⟩ = some (.int .i64 y)) (go_keep) (fail)
  refine post_end (.panicking ({ v:=.iface 119 (.agg #[.int .i64 x,.int .i64 y]),recovered:=true } :: older)) rfl rfl ?_
  clear n0 n1 p0 p1 p2 p3 p4 pf q0 qf r0 rf
  have hdr : ∀ W : World,W.drew.heap = W.heap:=fun _=>rfl
  rw [hdr]
  refine ⟨rfl,rfl,?_,?_,?_,?_,?_,?_,?_,?_⟩
  · exact (heap_setCell_other _ ⟨C,0,none⟩ A _ hAC').trans ((heap_setCell_other _ ⟨B,0,none⟩ A _ hAB').trans (set5 a'))
  · exact (heap_setCell_other _ ⟨C,0,none⟩ B _ hBC').trans (heap_setCell_same _ _ 0 _ _ _ ((heap_setCell_other _ ⟨A,4,none⟩ B _ hAB).trans ((heap_setCell_other _ ⟨A,3,none⟩ B _ hAB).trans ((heap_setCell_other _ ⟨A,2,none⟩ B _ hAB).trans ((heap_setCell_other _ ⟨A,1,none⟩ B _ hAB).trans ((heap_setCell_other _ ⟨A,0,none⟩ B _ hAB).trans b'))))))
  · exact heap_setCell_same _ _ 0 _ _ _ ((heap_setCell_other _ ⟨B,0,none⟩ C _ hBC).trans ((heap_setCell_other _ ⟨A,4,none⟩ C _ hAC).trans ((heap_setCell_other _ ⟨A,3,none⟩ C _ hAC).trans ((heap_setCell_other _ ⟨A,2,none⟩ C _ hAC).trans ((heap_setCell_other _ ⟨A,1,none⟩ C _ hAC).trans ((heap_setCell_other _ ⟨A,0,none⟩ C _ hAC).trans c'))))))
  · exact hos.out.1
  · exact hos.out.2.1
  · exact hos.out.2.2.1
  · have h9:=hos.out.2.2.2
    rw [hdr] at h9
    exact h9
  · intro k hk kA kB kC
    rw [heap_setCell_other _ ⟨C,0,none⟩ k _ kC,heap_setCell_other _ ⟨B,0,none⟩ k _ kB,heap_setCell_other _ ⟨A,4,none⟩ k _ kA,heap_setCell_other _ ⟨A,3,none⟩ k _ kA,heap_setCell_other _ ⟨A,2,none⟩ k _ kA,heap_setCell_other _ ⟨A,1,none⟩ k _ kA,heap_setCell_other _ ⟨A,0,none⟩ k _ kA,← hW1]
    exact heap_alloc_old _ _ hk
theorem catch2_idle {w : World} {A B C : Nat} :
    CallsD Tryz.prog 92 #[.pointer (some ⟨A,0,none⟩),.pointer (some ⟨B,0,none⟩),.pointer (some ⟨C,0,none⟩)] .returning w fun e u' w'=>e = .returned (.tuple #[]) ∧ u' = .returning ∧ w' = w.alloc (.cells #[.int .i64 0,.int .i64 0] 119):=by
  refine callsD_of_wpS Tryz.func92 rfl fun c₀ cs hu=>?_
  apply wpS_seq
  apply wpS_region
  simp [wpOpsS,go_sem,recoverD,hu,Tryz.ntmps92,Exit.thenS,ta_nil]
  apply wpS_seq
  apply wpS_region
  simp [wpOpsS,go_sem,Exit.thenS]
  refine wpS_cond (t:=false) (by simp [Act.eval,Array.replicate]) ?_
  simp only [Bool.false_eq_true,if_false]
  refine wpS_of_wp (wp_skip ?_)
  cases c₀
  simp_all [bodyPostS,results,Tryz.results92]
end Go.Ev

namespace Go.Ev
open Go.RowKit Go.Proofs Go.Rw
theorem rows_oth1 {α : Type} {f : α → List Value} {size : Nat} {w w' : World} {X : Nat} {t : TypeId} {k : IntKind} {z : Int} {tv : Value} {tab : List α} (hf : ∀ x,(∃ s,(f x)[0]? = some (.string s)) ∨ (∃ u u',(f x)[0]? = some u ∧ (f x)[1]? = some u')) (h : RowsAt w tv f size tab)
    (hX : w.heap[X]? = some (.cells #[.int k z] t (0,0))) (ho : Oth X w w') : RowsAt w' tv f size tab:=by
  obtain ⟨a,c,rfl,h1⟩:=h
  refine ⟨a,c,rfl,?_⟩
  rcases h1 with h1 | ⟨b,o,rfl,hc⟩
  · exact .inl h1
  · by_cases hn : tab = []
    · exact .inl hn
    · refine .inr ⟨b,o,rfl,fun k x hk j u hj=>?_⟩
      have hpos : 0 < tab.length:=by cases tab with | nil=>exact absurd rfl hn | cons _ _=>simp
      have hb : b ≠ X:=fun e=>by
        subst e
        obtain ⟨y,hy⟩ : ∃ y,tab[0]? = some y:=⟨tab[0]'hpos,by simp [hpos]⟩
        rcases hf y with ⟨s,hs⟩ | ⟨u,u',hu,hu'⟩
        · have:=hc 0 y hy 0 _ hs
          simp only [Nat.zero_mul,Nat.add_zero,World.cell?,hX] at this
          match o,this with
          | 0,h=>simp at h
          | o + 1,h=>simp at h
        · have:=hc 0 y hy 1 _ hu'
          simp only [Nat.zero_mul,Nat.add_zero,World.cell?,hX] at this
          simp at this
      exact (World.cell?_of_block (w:=w) (a:=⟨b,o + k * size + j,none⟩) (ho b hb)).trans (hc k x hk j u hj)
theorem ObjAt.oth1 {w w' : World} {X : Nat} {v : Value} {o : ObjT} {t : TypeId} {k : IntKind} {z : Int} (h : ObjAt w v o) (hX : w.heap[X]? = some (.cells #[.int k z] t (0,0))) (ho : Oth X w w') : ObjAt w' v o:=by
  obtain ⟨s1,s2,s3,s4,s5,rfl,h1,h2,h3,h4,h5⟩:=h
  exact ⟨s1,s2,s3,s4,s5,rfl,rows_oth1 (fun x=>.inl ⟨_,rfl⟩) h1 hX ho,rows_oth1 (fun x=>.inl ⟨_,rfl⟩) h2 hX ho,rows_oth1 (fun x=>.inr ⟨_,_,rfl,rfl⟩) h3 hX ho,rows_oth1 (fun x=>.inl ⟨_,rfl⟩) h4 hX ho,rows_oth1 (fun x=>.inr ⟨_,_,rfl,rfl⟩) h5 hX ho⟩
theorem OwnB.oth1 {w w' : World} {g n cap X : Nat} {q : Nat → Int} {cs : Array Value} {t : TypeId} (h : OwnB w g n cap q) (hX : w.heap[X]? = some (.cells cs t (0,0))) (ht : t ≠ 5) (ho : Oth X w w') : OwnB w' g n cap q:=by
  obtain ⟨cur,h1,r⟩:=h
  refine ⟨cur,(ho g fun hg=>?_).trans h1,r⟩
  subst hg
  rw [hX] at h1
  simp only [Option.some.injEq,Obj.cells.injEq] at h1
  exact ht h1.2.1
set_option maxRecDepth 100000 in
set_option maxHeartbeats 2000000 in
theorem object_short {w : World} {R n c : Nat} {a : Option Addr} (h : w.heap[R]? = some (.cells #[.slice a n c,.int .i64 0] 125 (0,0))) (h4 : n < 4) : Calls Tryz.prog 93 #[.pointer (some ⟨R,0,none⟩)] w fun e w'=>e = .panicked [fltV 0 4] ∧ Below w.heap.size w w':=by
  have hz0 : (w.alloc (.cells #[.slice none 0 0,.slice none 0 0,.slice none 0 0,.slice none 0 0,.slice none 0 0] 28)).heap.size = w.heap.size + 1:=World.size_alloc _ _
  have hconv:=Joins.run_convert_bytes_const_at (P:=Tryz.prog) (w.alloc (.cells #[.slice none 0 0,.slice none 0 0,.slice none 0 0,.slice none 0 0,.slice none 0 0] 28)) 34 5 #[.int .u8 67,.int .u8 78,.int .u8 68,.int .u8 79] 4 4 (w.heap.size + 1) hz0.symm Tryz.underlying34 Tryz.underlying5
  have h0:=(heap_alloc_old w (.cells #[.slice none 0 0,.slice none 0 0,.slice none 0 0,.slice none 0 0,.slice none 0 0] 28) (Array.getElem?_eq_some_iff.1 h).1).trans h
  have c0 : (w.alloc (.cells #[.slice none 0 0,.slice none 0 0,.slice none 0 0,.slice none 0 0,.slice none 0 0] 28)).cell? ⟨R,0,none⟩ = some (.slice a n c):=by simp [World.cell?,h0]
  have hb:=((one_below w (.cells #[.slice none 0 0,.slice none 0 0,.slice none 0 0,.slice none 0 0,.slice none 0 0] 28)).alloc (by rw [hz0];omega) (.cells #[.int .u8 67,.int .u8 78,.int .u8 68,.int .u8 79] 5 (4,5)))
  go_enter Tryz.func93,Tryz.ntmps93
  go_wp2_with fail
  refine (prefix_no h4).mono ?_
  rintro e w2 ⟨rfl,rfl⟩
  go_wp2_with fail
  refine (must_no _ _).mono ?_
  rintro e w3 ⟨rfl,rfl⟩
  (try go_wp2)
  exact ⟨rfl,rfl,hb⟩
def ReadR (m : Except (Nat × Int) (RawM × List LineT)) (w : World) (e : Ending) (w' : World) : Prop :=
  Below w.heap.size w w' ∧ match m with
    | .error x=>e = .returned (.tuple #[.agg #[.slice none 0 0,.slice none 0 0,.slice none 0 0,.slice none 0 0,.slice none 0 0],.int .i64 (x.1 : Int),.int .i64 x.2])
    | .ok y=>∃ v ob,e = .returned (.tuple #[v,.int .i64 0,.int .i64 0]) ∧ ObjAt w' v ob ∧ ob.R ∧ SecsRel w' ob.secs y.1.secs ∧ ob.syms = y.1.syms ∧ ob.rels = y.1.rels ∧ ob.files = y.1.files ∧ ob.lines = y.2
theorem objF_short {all : List Nat} (h : all.length < 4) : objF all = .error (0,4):=by
  unfold objF
  exact if_neg (fun e=>by have:=congrArg List.length e;rw [List.length_take] at this;simp only [magicL,List.length_cons,List.length_nil] at this;omega)
def FileAt (w : World) (a : Option Addr) (n : Nat) (all : List Nat) : Prop:=all.length = n ∧ (∀ x ∈ all,x < 256) ∧ BytesAt w a n (fun j=>((all.getD j 0 : Nat) : Int))
set_option maxRecDepth 100000 in
set_option maxHeartbeats 2000000 in
theorem read_c {w : World} {a : Option Addr} {n c : Nat} {all : List Nat} (h : FileAt w a n all) (hnc : n ≤ c) (hn : n ≤ 140737488351232) : Calls Tryz.prog 26 #[.slice a n c] w (ReadR (objF all) w):=by
  have hmf : ∀ (fn : Fn) (first cap : Array Value) (w : World),(Instr.makeFunc fn first cap).run Tryz.prog w = .ok (.func fn first cap) w:=fun _ _ _ _=>rfl
  obtain ⟨W3,hW3⟩ : ∃ W : World,W = ((w.alloc (.cells #[.slice none 0 0,.slice none 0 0,.slice none 0 0,.slice none 0 0,.slice none 0 0] 28)).alloc (.cells #[.int .i64 0] 3)).alloc (.cells #[.int .i64 0] 31):=⟨_,rfl⟩
  have hs3 : W3.heap.size = w.heap.size + 1 + 1 + 1:=by rw [hW3,World.size_alloc,World.size_alloc,World.size_alloc]
  have hb3 : Below w.heap.size w W3:=by rw [hW3];exact (((Below.refl _ _).alloc (Nat.le_refl _) _).alloc (by rw [World.size_alloc];omega) _).alloc (by rw [World.size_alloc,World.size_alloc];omega) _
  have qA : W3.heap[w.heap.size]? = some (.cells #[.slice none 0 0,.slice none 0 0,.slice none 0 0,.slice none 0 0,.slice none 0 0] 28 (0,0)):=by
    rw [hW3,heap_alloc_old _ _ (by rw [World.size_alloc,World.size_alloc];omega),heap_alloc_old _ _ (by rw [World.size_alloc];omega)]
    exact heap_alloc_new w _
  have qB : W3.heap[w.heap.size + 1]? = some (.cells #[.int .i64 0] 3 (0,0)):=by
    rw [hW3,heap_alloc_old _ _ (by rw [World.size_alloc,World.size_alloc];omega)]
    have:=heap_alloc_new (w.alloc (.cells #[.slice none 0 0,.slice none 0 0,.slice none 0 0,.slice none 0 0,.slice none 0 0] 28)) (.cells #[.int .i64 0] 3)
    rwa [World.size_alloc] at this
  have qC : W3.heap[w.heap.size + 1 + 1]? = some (.cells #[.int .i64 0] 31 (0,0)):=by
    rw [hW3]
    have:=heap_alloc_new ((w.alloc (.cells #[.slice none 0 0,.slice none 0 0,.slice none 0 0,.slice none 0 0,.slice none 0 0] 28)).alloc (.cells #[.int .i64 0] 3)) (.cells #[.int .i64 0] 31)
    rwa [World.size_alloc,World.size_alloc] at this
  obtain ⟨M,hM⟩ : ∃ M,M = objF all:=⟨_,rfl⟩
  rw [← hM]
  obtain ⟨w4,hw4⟩ : ∃ W : World,W = W3.alloc (.cells #[.slice a n c,.int .i64 0] 125):=⟨_,rfl⟩
  have hb4 : Below W3.heap.size W3 w4:=by rw [hw4];exact one_below _ _
  have hobj : Calls Tryz.prog 93 #[.pointer (some ⟨w.heap.size + 1 + 1 + 1,0,none⟩)] w4 (ObjR (w.heap.size + 1 + 1 + 1) M w4):=by
    have hR : w4.heap[w.heap.size + 1 + 1 + 1]? = some (.cells #[.slice a n c,.int .i64 0] 125 (0,0)):=by
      rw [hw4,← hs3]
      exact heap_alloc_new W3 _
    by_cases h4 : n < 4
    · refine (object_short hR h4).mono ?_
      rintro e w' ⟨rfl,hb⟩
      rw [hM,objF_short (by rw [h.1];exact h4)]
      exact ⟨Stp.of_below hb,rfl⟩
    · rcases h.2.2 with ⟨-,h0⟩ | ⟨b,o,rfl,hc⟩
      · omega
      · rw [hM]
        have hlow : b < w.heap.size:=low_of_cell (hc 0 (by omega))
        have hbw : Below w.heap.size w w4:=hb3.trans (hb4.mono (by omega))
        exact object_c ⟨hR,⟨h.1,h.2.1,fun j hj=>(hbw.cell hlow).trans (hc j hj)⟩,by omega,Nat.lt_of_lt_of_le hlow hbw.size,Nat.zero_le _,hnc,hn⟩ (by omega)
  clear h
  replace hM:=Lib.hid hM
  go_enter_defers Tryz.func26,Tryz.ntmps26
  go_wp2_with fail
  rw [← hW3,← hw4]
  refine hobj.mono ?_
  rintro e w5 ⟨hs5,hm5⟩
  have qA5:=hs5.blk (by omega) ((hb4.block _ (by omega)).trans qA)
  have qB5:=hs5.blk (by omega) ((hb4.block _ (by omega)).trans qB)
  have qC5:=hs5.blk (by omega) ((hb4.block _ (by omega)).trans qC)
  have hb5 : Below w.heap.size w w5:=(hb3.trans (hb4.mono (by omega))).trans (hs5.below (by have:=hb4.size;omega) (by omega))
  have hz5 : w.heap.size + 1 + 1 < w5.heap.size:=(Array.getElem?_eq_some_iff.1 qC5).1
  clear hW3 hw4 hb3 hb4 hs5 hobj qA qB qC
  cases M with
  | error x =>
    have hm5 : e = .panicked [fltV x.1 x.2]:=hm5
    subst hm5
    (try go_wp2)
    refine leaves_cons (f:=92) (args:=#[.pointer (some ⟨w.heap.size,0,none⟩),.pointer (some ⟨w.heap.size + 1,0,none⟩),.pointer (some ⟨w.heap.size + 1 + 1,0,none⟩)]) (by simp) (by simp [go_sem]) ?_
    refine (catch2_flt (x.1 : Int) x.2 [] _ _ _ _ _ _ _ qA5 qB5 qC5 (by omega) (by omega) (by omega)).mono ?_
    rintro e u' w6 ⟨rfl,rfl,rA,rB,rC,r1,r2,r3,r4,r5⟩
    have a0 : w6.cell? ⟨w.heap.size,0,none⟩ = some (.slice none 0 0):=by simp [World.cell?,rA]
    have a1 : w6.cell? ⟨w.heap.size,1,none⟩ = some (.slice none 0 0):=by simp [World.cell?,rA]
    have a2 : w6.cell? ⟨w.heap.size,2,none⟩ = some (.slice none 0 0):=by simp [World.cell?,rA]
    have a3 : w6.cell? ⟨w.heap.size,3,none⟩ = some (.slice none 0 0):=by simp [World.cell?,rA]
    have a4 : w6.cell? ⟨w.heap.size,4,none⟩ = some (.slice none 0 0):=by simp [World.cell?,rA]
    have b0 : w6.cell? ⟨w.heap.size + 1,0,none⟩ = some (.int .i64 (x.1 : Int)):=by simp [World.cell?,rB]
    have c0 : w6.cell? ⟨w.heap.size + 1 + 1,0,none⟩ = some (.int .i64 x.2):=by simp [World.cell?,rC]
    have hb6 : Below w.heap.size w w6:=hb5.trans ⟨r1,r2,r3,r4,fun k hk=>r5 k (by omega) (by omega) (by omega) (by omega)⟩
    replace hb6:=Lib.hid hb6
    clear rA rB rC r1 r2 r3 r4 r5 qA5 qB5 qC5 hb5
    simp [Leaves,settle,results,Tryz.f26,go_sem,a0,a1,a2,a3,a4,b0,c0]
    exact ⟨hb6.out,rfl⟩
  | ok y =>
    obtain ⟨v,ob,he,hOb,hRR,hrl,e2,e3,e4,e5⟩:=hm5
    subst he
    obtain ⟨s1,s2,s3,s4,s5,rfl,-⟩:=id hOb
    have a0 : w5.cell? ⟨w.heap.size,0,none⟩ = some (.slice none 0 0):=by simp [World.cell?,qA5]
    have a1 : w5.cell? ⟨w.heap.size,1,none⟩ = some (.slice none 0 0):=by simp [World.cell?,qA5]
    have a2 : w5.cell? ⟨w.heap.size,2,none⟩ = some (.slice none 0 0):=by simp [World.cell?,qA5]
    have a3 : w5.cell? ⟨w.heap.size,3,none⟩ = some (.slice none 0 0):=by simp [World.cell?,qA5]
    have a4 : w5.cell? ⟨w.heap.size,4,none⟩ = some (.slice none 0 0):=by simp [World.cell?,qA5]
    have af : ∀ i,w5.frozen? ⟨w.heap.size,i,none⟩ = false:=fun i=>by simp [World.frozen?,qA5]
    have b0 : w5.cell? ⟨w.heap.size + 1,0,none⟩ = some (.int .i64 0):=by simp [World.cell?,qB5]
    have bf : w5.frozen? ⟨w.heap.size + 1,0,none⟩ = false:=by simp [World.frozen?,qB5]
    have c0 : w5.cell? ⟨w.heap.size + 1 + 1,0,none⟩ = some (.int .i64 0):=by simp [World.cell?,qC5]
    have cf : w5.frozen? ⟨w.heap.size + 1 + 1,0,none⟩ = false:=by simp [World.frozen?,qC5]
    obtain ⟨r1,k1,r2,k2,r3,k3,r4,k4,r5,k5,rfl,rfl,rfl,rfl,rfl⟩ : ∃ r1 k1 r2 k2 r3 k3 r4 k4 r5 k5,s1 = .slice r1 ob.secs.length k1 ∧ s2 = .slice r2 ob.syms.length k2 ∧ s3 = .slice r3 ob.rels.length k3 ∧ s4 = .slice r4 ob.files.length k4 ∧ s5 = .slice r5 ob.lines.length k5:=by
      obtain ⟨t1,t2,t3,t4,t5,he,q1,q2,q3,q4,q5⟩:=hOb
      cases he
      obtain ⟨r1,k1,rfl⟩:=rows_slice q1
      obtain ⟨r2,k2,rfl⟩:=rows_slice q2
      obtain ⟨r3,k3,rfl⟩:=rows_slice q3
      obtain ⟨r4,k4,rfl⟩:=rows_slice q4
      obtain ⟨r5,k5,rfl⟩:=rows_slice q5
      exact ⟨r1,k1,r2,k2,r3,k3,r4,k4,r5,k5,rfl,rfl,rfl,rfl,rfl⟩
    obtain ⟨n1,hn1⟩ : ∃ m,m = ob.secs.length:=⟨_,rfl⟩
    obtain ⟨n2,hn2⟩ : ∃ m,m = ob.syms.length:=⟨_,rfl⟩
    obtain ⟨n3,hn3⟩ : ∃ m,m = ob.rels.length:=⟨_,rfl⟩
    obtain ⟨n4,hn4⟩ : ∃ m,m = ob.files.length:=⟨_,rfl⟩
    obtain ⟨n5,hn5⟩ : ∃ m,m = ob.lines.length:=⟨_,rfl⟩
    rw [← hn1,← hn2,← hn3,← hn4,← hn5] at hOb ⊢
    have oA : Oth w.heap.size w5 (((((w5.setCell ⟨w.heap.size,0,none⟩ (.slice r1 n1 k1)).setCell ⟨w.heap.size,1,none⟩ (.slice r2 n2 k2)).setCell ⟨w.heap.size,2,none⟩ (.slice r3 n3 k3)).setCell ⟨w.heap.size,3,none⟩ (.slice r4 n4 k4)).setCell ⟨w.heap.size,4,none⟩ (.slice r5 n5 k5)):=(((((Oth.refl _ _).set 0 _).set 1 _).set 2 _).set 3 _).set 4 _
    have pA:=set5 (v0:=.slice r1 n1 k1) (v1:=.slice r2 n2 k2) (v2:=.slice r3 n3 k3) (v3:=.slice r4 n4 k4) (v4:=.slice r5 n5 k5) qA5
    have pB:=(oA (w.heap.size + 1) (by omega)).trans qB5
    have pC:=(oA (w.heap.size + 1 + 1) (by omega)).trans qC5
    have oB:=(Oth.refl (w.heap.size + 1) (((((w5.setCell ⟨w.heap.size,0,none⟩ (.slice r1 n1 k1)).setCell ⟨w.heap.size,1,none⟩ (.slice r2 n2 k2)).setCell ⟨w.heap.size,2,none⟩ (.slice r3 n3 k3)).setCell ⟨w.heap.size,3,none⟩ (.slice r4 n4 k4)).setCell ⟨w.heap.size,4,none⟩ (.slice r5 n5 k5))).set 0 (.int .i64 0)
    have pC2:=(oB (w.heap.size + 1 + 1) (by omega)).trans pC
    have pB2:=heap_setCell_same _ _ 0 _ _ (.int .i64 0) pB
    have pA2:=(oB w.heap.size (by omega)).trans pA
    have oC:=(Oth.refl (w.heap.size + 1 + 1) ((((((w5.setCell ⟨w.heap.size,0,none⟩ (.slice r1 n1 k1)).setCell ⟨w.heap.size,1,none⟩ (.slice r2 n2 k2)).setCell ⟨w.heap.size,2,none⟩ (.slice r3 n3 k3)).setCell ⟨w.heap.size,3,none⟩ (.slice r4 n4 k4)).setCell ⟨w.heap.size,4,none⟩ (.slice r5 n5 k5)).setCell ⟨w.heap.size + 1,0,none⟩ (.int .i64 0))).set 0 (.int .i64 0)
    have pC3:=heap_setCell_same _ _ 0 _ _ (.int .i64 0) pC2
    have pB3:=(oC (w.heap.size + 1) (by omega)).trans pB2
    have pA3:=(oC w.heap.size (by omega)).trans pA2
    have hObF:=((hOb.oth qA5 oA).oth1 pB oB).oth1 pC2 oC
    have hrlF:=((hrl.imp (fun g' n' c' q' h'=>h'.oth qA5 oA)).imp (fun g' n' c' q' h'=>h'.oth1 pB (by decide) oB)).imp (fun g' n' c' q' h'=>h'.oth1 pC2 (by decide) oC)
    have hbF:=((((((hb5.setCell (p:=⟨w.heap.size,0,none⟩) (Nat.le_refl _) (.slice r1 n1 k1)).setCell (p:=⟨w.heap.size,1,none⟩) (Nat.le_refl _) (.slice r2 n2 k2)).setCell (p:=⟨w.heap.size,2,none⟩) (Nat.le_refl _) (.slice r3 n3 k3)).setCell (p:=⟨w.heap.size,3,none⟩) (Nat.le_refl _) (.slice r4 n4 k4)).setCell (p:=⟨w.heap.size,4,none⟩) (Nat.le_refl _) (.slice r5 n5 k5)).setCell (p:=⟨w.heap.size + 1,0,none⟩) (Nat.le_succ _) (.int .i64 0)).setCell (p:=⟨w.heap.size + 1 + 1,0,none⟩) (show w.heap.size ≤ w.heap.size + 1 + 1 by omega) (.int .i64 0)
    replace hObF:=Lib.hid hObF
    replace hrlF:=Lib.hid hrlF
    replace hbF:=Lib.hid hbF
    replace pA3:=Lib.hid pA3
    replace pB3:=Lib.hid pB3
    replace pC3:=Lib.hid pC3
    replace hRR:=Lib.hid hRR
    replace e2:=Lib.hid e2
    replace e3:=Lib.hid e3
    replace e4:=Lib.hid e4
    replace e5:=Lib.hid e5
    clear hOb hrl oA oB oC pA pB pC pC2 pB2 pA2 qA5 qB5 qC5 hb5 hn1 hn2 hn3 hn4 hn5
    go_wp2
    refine leaves_cons (f:=92) (args:=#[.pointer (some ⟨w.heap.size,0,none⟩),.pointer (some ⟨w.heap.size + 1,0,none⟩),.pointer (some ⟨w.heap.size + 1 + 1,0,none⟩)]) (by simp) (by simp [go_sem]) ?_
    refine catch2_idle.mono ?_
    rintro e u' w6 ⟨rfl,rfl,rfl⟩
    have hbG:=Lib.hid (hbF.out.alloc hbF.out.size (.cells #[.int .i64 0,.int .i64 0] 119))
    have hObG:=Lib.hid (hObF.out.below (one_below _ (.cells #[.int .i64 0,.int .i64 0] 119)))
    have hrlG:=Lib.hid (hrlF.out.imp (fun g' n' c' q' h'=>h'.below (one_below _ (.cells #[.int .i64 0,.int .i64 0] 119))))
    have rA:=(heap_alloc_old _ (.cells #[.int .i64 0,.int .i64 0] 119) (Array.getElem?_eq_some_iff.1 pA3.out).1).trans pA3.out
    have rB:=(heap_alloc_old _ (.cells #[.int .i64 0,.int .i64 0] 119) (Array.getElem?_eq_some_iff.1 pB3.out).1).trans pB3.out
    have rC:=(heap_alloc_old _ (.cells #[.int .i64 0,.int .i64 0] 119) (Array.getElem?_eq_some_iff.1 pC3.out).1).trans pC3.out
    generalize hWf : (((((((((w5.setCell ⟨w.heap.size,0,none⟩ (.slice r1 n1 k1)).setCell ⟨w.heap.size,1,none⟩ (.slice r2 n2 k2)).setCell ⟨w.heap.size,2,none⟩ (.slice r3 n3 k3)).setCell ⟨w.heap.size,3,none⟩ (.slice r4 n4 k4)).setCell ⟨w.heap.size,4,none⟩ (.slice r5 n5 k5)).setCell ⟨w.heap.size + 1,0,none⟩ (.int .i64 0)).setCell ⟨w.heap.size + 1 + 1,0,none⟩ (.int .i64 0)).alloc (.cells #[.int .i64 0,.int .i64 0] 119))) = Wf at *
    clear hWf hObF hrlF hbF pA3 pB3 pC3 a0 a1 a2 a3 a4 af b0 bf c0 cf
    have a0 : Wf.cell? ⟨w.heap.size,0,none⟩ = some (.slice r1 n1 k1):=by simp [World.cell?,rA]
    have a1 : Wf.cell? ⟨w.heap.size,1,none⟩ = some (.slice r2 n2 k2):=by simp [World.cell?,rA]
    have a2 : Wf.cell? ⟨w.heap.size,2,none⟩ = some (.slice r3 n3 k3):=by simp [World.cell?,rA]
    have a3 : Wf.cell? ⟨w.heap.size,3,none⟩ = some (.slice r4 n4 k4):=by simp [World.cell?,rA]
    have a4 : Wf.cell? ⟨w.heap.size,4,none⟩ = some (.slice r5 n5 k5):=by simp [World.cell?,rA]
    have b0 : Wf.cell? ⟨w.heap.size + 1,0,none⟩ = some (.int .i64 0):=by simp [World.cell?,rB]
    have c0 : Wf.cell? ⟨w.heap.size + 1 + 1,0,none⟩ = some (.int .i64 0):=by simp [World.cell?,rC]
    clear rA rB rC
    simp [Leaves,settle,results,Tryz.f26,go_sem,a0,a1,a2,a3,a4,b0,c0]
    exact ⟨hbG.out,_,ob,rfl,hObG.out,hRR.out,hrlG.out,e2.out,e3.out,e4.out,e5.out⟩
end Go.Ev

namespace Go.Ev
open Go.RowKit Go.Proofs Go.Rw
def Err4 {α : Type} (m : Except (Nat × Int) α) : Prop:=∀ x,m = .error x → x.2 = 4
theorem Err4.bind {α β : Type} {m : Except (Nat × Int) α} {f : α → Except (Nat × Int) β} (h : Err4 m) (hf : ∀ y,Err4 (f y)) : Err4 (m.bind f):=fun x hx=>by
  cases m with
  | error z=>cases hx;exact h _ rfl
  | ok y=>exact hf y x hx
theorem Err4.ok {α : Type} (y : α) : Err4 (.ok y : Except (Nat × Int) α):=fun x h=>by cases h
theorem err_up (all : List Nat) (p most : Nat) : Err4 (upF all p most):=fun x h=>by
  unfold upF at h
  split at h
  · cases h;rfl
  · split at h
    · cases h
    · cases h;rfl
theorem err_tk (all : List Nat) (p k : Nat) : Err4 (tkF all p k):=fun x h=>by
  unfold tkF at h
  split at h
  · cases h
  · cases h;rfl
theorem err_cnt (all : List Nat) (p most : Nat) : Err4 (cntF all p most):=(err_up _ _ _).bind fun _=>err_tk _ _ _
theorem err_txt (all : List Nat) (p most : Nat) : Err4 (txtF all p most):=(err_cnt _ _ _).bind fun _=>Err4.ok _
theorem err_sgn (all : List Nat) (p : Nat) : Err4 (sgnF all p):=(err_up _ _ _).bind fun _=>Err4.ok _
theorem err_wrd (all : List Nat) (p : Nat) : Err4 (wrdF all p):=(err_tk _ _ _).bind fun _=>Err4.ok _
theorem err_sec (all : List Nat) (p : Nat) : Err4 (secF all p):=(err_txt _ _ _).bind fun _=>(err_up _ _ _).bind fun _=>(err_up _ _ _).bind fun _=>(err_cnt _ _ _).bind fun _=>(err_up _ _ _).bind fun _=>Err4.ok _
theorem err_sym (all : List Nat) (p : Nat) : Err4 (symF all p):=(err_txt _ _ _).bind fun _=>(err_sgn _ _).bind fun _=>(err_up _ _ _).bind fun _=>(err_up _ _ _).bind fun _=>(err_up _ _ _).bind fun _=>Err4.ok _
theorem err_rel (all : List Nat) (p : Nat) : Err4 (relF all p):=(err_up _ _ _).bind fun _=>(err_up _ _ _).bind fun _=>(err_up _ _ _).bind fun _=>(err_up _ _ _).bind fun _=>(err_sgn _ _).bind fun _=>Err4.ok _
theorem err_many {α : Type} {f : Nat → Rx α} (hf : ∀ p,Err4 (f p)) : ∀ (k p : Nat),Err4 (manyF f k p)
  | 0,_=>Err4.ok _
  | k + 1,p=>(hf p).bind fun y=>(err_many hf k y.2).bind fun _=>Err4.ok _
theorem err_lst {α : Type} {f : Nat → Rx α} (hf : ∀ p,Err4 (f p)) (all : List Nat) (p most : Nat) : Err4 (lstF f all p most):=(err_up _ _ _).bind fun _=>err_many hf _ _
theorem objF_err {all : List Nat} {x : Nat × Int} (h : objF all = .error x) : x.2 ≠ 0:=by
  have key : ∀ {α β : Type} {m : Except (Nat × Int) α} {f : α → Except (Nat × Int) β} {x : Nat × Int},Err4 m → (∀ y,∀ x,f y = .error x → x.2 ≠ 0) → m.bind f = .error x → x.2 ≠ 0:=fun {α β m f x} h4 hf hx=>by
    cases m with
    | error z=>cases hx;rw [h4 _ rfl];decide
    | ok y=>exact hf y x hx
  unfold objF at h
  split at h
  · refine key (err_lst (err_sec _) _ _ _) (fun a x h=>?_) h
    refine key (err_lst (err_sym _) _ _ _) (fun a x h=>?_) h
    refine key (err_lst (err_rel _) _ _ _) (fun a x h=>?_) h
    refine key (err_lst (fun p=>err_txt _ _ _) _ _ _) (fun a x h=>?_) h
    refine key (err_cnt _ _ _) (fun a x h=>?_) h
    refine key (err_wrd _ _) (fun a x h=>?_) h
    unfold endG at h
    split at h
    · split at h
      · unfold tabG at h
        split at h
        · cases h;exact (show (33 : Int) ≠ 0 by decide)
        · split at h
          · cases h
          · cases h;exact (show (30 : Int) ≠ 0 by decide)
      · cases h;exact (show (31 : Int) ≠ 0 by decide)
    · cases h;exact (show (4 : Int) ≠ 0 by decide)
  · cases h;exact (show (4 : Int) ≠ 0 by decide)
end Go.Ev

namespace Go.Ev
open Go.RowKit Go.Proofs Go.Rw
theorem objEq_refl (C : SecT → ByteArray) (a : ObjT) : ObjEq C a a:=⟨⟨rfl,fun k x y hx hy=>by rw [hx] at hy;cases hy;exact ⟨rfl,rfl,rfl,rfl,rfl⟩⟩,rfl,rfl,rfl,rfl⟩
def TrueC (w : World) (e : Ending) (w' : World) : Prop:=e = .returned (.bool true) ∧ Below w.heap.size w w'
end Go.Ev

namespace Go.Ev
open Go.ChangeShapes Go.WideShapes Go.ChangeAt Go.RowKit Go.Proofs Go.Deep Go.Rw
section
variable {H : Type} {enc : TypeId × Value → H} {w : World} {n : Nat}
theorem cellsB : Tryz.prog.cellsOf 5 = 1:=by kernel_rfl
theorem one_bytesC {v : Value} {y : DataW H × List MemPlace} (h : Rd enc w n 34 [v] y) (hw : ∀ k ∈ y.1.weights Tryz.prog 34,k ≤ reachBytes) : ∃ a len c,v = .slice a len c ∧ len ≤ 140737488351232 ∧ ∃ B,SecIn w a len B:=by
  obtain ⟨a0,len0,c0,rfl,hle⟩:=one_bytes h hw
  refine ⟨a0,len0,c0,rfl,hle,?_⟩
  rcases open_ints Tryz.underlying34 Tryz.underlying5 cellsB h with ⟨hcs,_⟩ | ⟨a,len,cap,zs,hcs,_,hl,hm,hz,hd,hcell,hwz⟩
  · simp at hcs
    obtain ⟨rfl,rfl,rfl⟩:=hcs
    exact ⟨_,.inl ⟨rfl,rfl⟩⟩
  · simp at hcs
    obtain ⟨rfl,rfl,rfl⟩:=hcs
    simp only [if_true] at hz
    by_cases h0 : len0 = 0
    · exact ⟨_,.inl ⟨h0,rfl⟩⟩
    · have hsp : a.spot = none:=by
        have:=hcell 0 (by omega)
        have e : a.add 0 = a:=by unfold Addr.add;simp
        rw [e] at this
        cases hsp : a.spot with
        | none=>rfl
        | some p =>
          unfold World.cell? at this
          split at this
          · rw [hsp] at this;cases this
          · cases this
      obtain ⟨blk,off,spot⟩:=a
      dsimp only at hsp
      subst hsp
      have hin : ∀ j,InB (zs.getD j 0):=fun j=>by
        by_cases h : j < zs.length
        · have : zs.getD j 0 = zs[j]:=by simp [List.getD,h]
          rw [this]
          have:=hwz _ (List.getElem_mem h)
          simpa [Lit.wf,IntKind.min,IntKind.max,IntKind.signed,IntKind.bits,InB] using this
        · have : zs.getD j 0 = 0:=by simp [List.getD,List.getElem?_eq_none (Nat.le_of_not_lt h)]
          rw [this]
          exact ⟨Int.le_refl _,by omega⟩
      exact ⟨_,.inr ⟨blk,off,fun j=>zs.getD j 0,rfl,rfl,hin,fun j hj=>by rw [← hcell j (by omega),cell_add]⟩⟩
def SecRB (W : World) (x : SecT) : Prop:=x.R ∧ ∃ B,SecIn W x.ba x.bn B
set_option maxRecDepth 100000 in
theorem read_secB {cs : List Value} {y : DataW H × List MemPlace} (hl : cs.length = 5) (h : Rd enc w n 66 cs y) (hw : ∀ k ∈ y.1.weights Tryz.prog 66,k ≤ reachBytes) : ∃ x : SecT,cs = x.cells ∧ SecRB w x:=by
  match cs,hl with
  | [c0,c1,c2,c3,c4],_ =>
    obtain ⟨xs,n,_,rfl,_,hlen,hel⟩:=DataW.trod_struct Tryz.underlying66 h
    match xs,hlen with
    | [y0,y1,y2,y3,y4],_ =>
      have h0:=hel 0 _ rfl
      have h1:=hel 1 _ rfl
      have h2:=hel 2 _ rfl
      have h3:=hel 3 _ rfl
      have h4:=hel 4 _ rfl
      have w0:=fun k hk=>hw k (weights_field Tryz.underlying66 (i:=0) rfl (d:=y0.1) rfl k hk)
      have w3:=fun k hk=>hw k (weights_field Tryz.underlying66 (i:=3) rfl (d:=y3.1) rfl k hk)
      (try simp only [cells9] at h0);(try simp only [cells3] at h1);(try simp only [cells3] at h2);(try simp only [cells34] at h3);(try simp only [cells3] at h4)
      obtain ⟨n0,rfl,w0⟩:=one_str (show Rd enc w n 9 [c0] y0 from h0) w0
      obtain ⟨n1,rfl,w1⟩:=one_int Tryz.underlying3 (show Rd enc w n 3 [c1] y1 from h1)
      obtain ⟨n2,rfl,w2⟩:=one_int Tryz.underlying3 (show Rd enc w n 3 [c2] y2 from h2)
      obtain ⟨a3,n3,m3,rfl,w3,hB⟩:=one_bytesC (show Rd enc w n 34 [c3] y3 from h3) w3
      obtain ⟨n4,rfl,w4⟩:=one_int Tryz.underlying3 (show Rd enc w n 3 [c4] y4 from h4)
      exact ⟨⟨n0,n1,n2,a3,n3,m3,n4⟩,rfl,⟨inI64_wf w1,inI64_wf w2,w3,inI64_wf w4,w0⟩,hB⟩
end
set_option maxRecDepth 100000 in
theorem open_objB {H : Type} {enc : TypeId × Value → H} {W : World} {r : Go.Reach} {b0 : Nat} {v : Value} {d : DataW H} {p : List MemPlace} (hv : Value.okWide Tryz.prog W r b0 28 v) (h : DataW.Trod enc Tryz.prog W 0 (fun _=>true) true 28 v d p)
    (hw : ∀ k ∈ d.weights Tryz.prog 28,k ≤ reachBytes) : ∃ o : ObjT,ObjAt W v o ∧ o.R ∧ ∀ x ∈ o.secs,∃ B,SecIn W x.ba x.bn B:=by
  obtain ⟨cs,rfl,hsz⟩:=okWide_struct Tryz.underlying28 hv
  obtain ⟨l⟩:=cs
  have hsz : l.length = 5:=hsz.trans cells28
  obtain ⟨fuel,hf⟩:=h
  obtain ⟨xs,n,_,hd,_,hlen,hel⟩:=DataW.trod_struct Tryz.underlying28 hf
  match l,hsz,xs,hlen with
  | [c0,c1,c2,c3,c4],_,[y0,y1,y2,y3,y4],_ =>
    obtain rfl : d = .agg [y0.1,y1.1,y2.1,y3.1,y4.1]:=(Prod.mk.inj hd).1
    have h0:=hel 0 _ rfl
    have h1:=hel 1 _ rfl
    have h2:=hel 2 _ rfl
    have h3:=hel 3 _ rfl
    have h4:=hel 4 _ rfl
    have w0:=fun k hk=>hw k (weights_field Tryz.underlying28 (i:=0) rfl (d:=y0.1) rfl k hk)
    have w1:=fun k hk=>hw k (weights_field Tryz.underlying28 (i:=1) rfl (d:=y1.1) rfl k hk)
    have w2:=fun k hk=>hw k (weights_field Tryz.underlying28 (i:=2) rfl (d:=y2.1) rfl k hk)
    have w3:=fun k hk=>hw k (weights_field Tryz.underlying28 (i:=3) rfl (d:=y3.1) rfl k hk)
    have w4:=fun k hk=>hw k (weights_field Tryz.underlying28 (i:=4) rfl (d:=y4.1) rfl k hk)
    simp only [Value.cells] at h0 h1 h2 h3 h4
    (try simp only [cells22] at h0);(try simp only [cells23] at h1);(try simp only [cells24] at h2);(try simp only [cells25] at h3);(try simp only [cells26] at h4)
    obtain ⟨l0,r0,q0,b0⟩:=open_rows Tryz.underlying22 cells66 (by omega) SecT.cells (SecRB W) (show Rd enc W n 22 [c0] y0 from h0) w0 (fun n cs y hl h hw=>read_secB hl h hw)
    obtain ⟨l1,r1,q1,b1⟩:=open_rows Tryz.underlying23 cells68 (by omega) SymT.cells SymT.R (show Rd enc W n 23 [c1] y1 from h1) w1 (fun n cs y hl h hw=>read_sym hl h hw)
    obtain ⟨l2,r2,q2,b2⟩:=open_rows Tryz.underlying24 cells94 (by omega) RelT.cells RelT.R (show Rd enc W n 24 [c2] y2 from h2) w2 (fun n cs y hl h hw=>read_rel hl h)
    obtain ⟨l3,r3,q3,b3⟩:=open_rows (α:=ByteArray) Tryz.underlying25 cells9 (by omega) fileCells fileR (show Rd enc W n 25 [c3] y3 from h3) w3 (fun n cs y hl h hw=>by
      match cs,hl with
      | [c],_ =>
        obtain ⟨s,rfl,hs⟩:=one_str h hw
        exact ⟨s,rfl,hs⟩)
    obtain ⟨l4,r4,q4,b4⟩:=open_rows Tryz.underlying26 cells48 (by omega) LineT.cells LineT.R (show Rd enc W n 26 [c4] y4 from h4) w4 (fun n cs y hl h hw=>read_line hl h)
    exact ⟨⟨l0,l1,l2,l3,l4⟩,⟨c0,c1,c2,c3,c4,rfl,r0,r1,r2,r3,r4⟩,⟨fun s hs=>(q0 s hs).1,q1,q2,q3,q4,len_le bytes66 b0,len_le bytes68 b1,len_le bytes94 b2,len_le bytes9 b3,len_le bytes48 b4⟩,fun x hx=>(q0 x hx).2⟩
open Classical in
noncomputable def secStr (W : World) (x : SecT) : ByteArray:=if h : ∃ B,SecIn W x.ba x.bn B then Classical.choose h else ⟨#[]⟩
theorem secStr_in {W : World} {x : SecT} (h : ∃ B,SecIn W x.ba x.bn B) : SecIn W x.ba x.bn (secStr W x):=by
  unfold secStr
  rw [dif_pos h]
  exact Classical.choose_spec h
end Go.Ev

