import Derived.Test.YtepopmplcjhfbaaGreatObG13
import Derived.Lib.SmallJoins
import Derived.Test.YtepopmplcjhfbaaGreatObG16
set_option linter.unusedSectionVars false
set_option linter.unusedVariables false
set_option linter.unusedSimpArgs false
set_option linter.unnecessarySimpa false
namespace Go.Ev
open Go.RowKit Go.Proofs Go.Rw
theorem below_len {o : ObjT} {C : SecT → ByteArray} (h : ObjOk o) (hR : o.R) (hb : ∀ x ∈ o.secs,(C x).size = x.bn) :
    (o.secs.flatMap (secL2 C)).length ≤ 1065296 ∧ (o.syms.flatMap symL).length ≤ 522500 ∧ (o.rels.flatMap relL).length ≤ 90000 ∧ (o.files.flatMap textL).length ≤ 20180 ∧ (packL default o.lines).length ≤ 164000 ∧ (numL (packL default o.lines).length).length ≤ 9:=by
  have h1:=flat_bound (secL2 C) 66581 o.secs (fun x hx=>by obtain ⟨a,b,-⟩:=sec_small h x hx;exact secL2_l a (hb x hx) b)
  have h2:=flat_bound symL 1045 o.syms (fun x hx=>by obtain ⟨a,b⟩:=sym_small h hR x hx;exact symL_l b a)
  have h3:=flat_bound relL 45 o.rels (fun x hx=>relL_l (rel_small h x hx))
  have h4:=flat_bound textL 1009 o.files (fun x hx=>textL_l x (by have:=(h.2.2.2.1.2.1 x hx).2.1;omega))
  have h5:=packL_len default o.lines rng_default (fun y hy=>(h.2.2.2.2.1.2.1 y hy).1)
  have n1:=h.1.1
  have n2:=h.2.1.1
  have n3:=h.2.2.1.1
  have n4:=h.2.2.2.1.1
  have n5:=h.2.2.2.2.1.1
  have h6:=numL_l9 (packL default o.lines).length (by omega)
  refine ⟨?_,?_,?_,?_,?_,h6⟩ <;> omega
theorem listL_len {α : Type} (f : α → List Int) (l : List α) (h : l.length ≤ 4000) : (listL f l).length ≤ 9 + (l.flatMap f).length:=by
  have:=numL_l9 l.length (by omega)
  unfold listL
  rw [List.length_append]
  omega
theorem owns_src {w : World} {base n c : Nat} {a : Option Addr} {L : List Int} (h : w.ownsRow base 5 1 (.slice a n c) n (byL L)) (hL : ∀ z ∈ L,InB z) : SrcB w a n L:=by
  have hl : L.length = n:=by have:=h.1;rw [byL_length] at this;omega
  have h':=h
  rcases h'.2 with ⟨h0,h1⟩ | ⟨g,cap,cur,h0,_⟩
  · cases h0
    exact ⟨hl,hL,fun _=>rfl,fun ad ha=>(by cases ha)⟩
  · cases h0
    refine ⟨hl,hL,fun hh=>(by cases hh),fun ad ha j u hj=>?_⟩
    cases ha
    exact h.cells (g:=g) rfl j u hj
set_option maxRecDepth 100000 in
set_option maxHeartbeats 8000000 in
theorem pbytes_c {w : World} {v : Value} {o : ObjT} {C : SecT → ByteArray} (h : ObjAt w v o) (hR : o.R) (hC : ∀ x ∈ o.secs,SecIn w x.ba x.bn (C x)) : Calls Tryz.prog 21 #[v] w (BytesR o C w):=by
  obtain ⟨s1,s2,s3,s4,s5,rfl,k1,k2,k3,k4,k5⟩:=id h
  obtain ⟨W,hW⟩ : ∃ W,W = w.alloc (.cells #[s1,s2,s3,s4,s5] 28):=⟨_,rfl⟩
  have hbW : Below w.heap.size w W:=by rw [hW];exact one_below _ _
  have hB1 : W.heap[w.heap.size]? = some (.cells #[s1,s2,s3,s4,s5] 28 (0,0)):=by rw [hW];exact heap_alloc_new w _
  have hWl : w.heap.size < W.heap.size:=by rw [hW,World.size_alloc];omega
  have up : ∀ W',Below W.heap.size W W' → Below w.heap.size w W':=fun W' hW'=>hbW.trans (hW'.mono (by omega))
  have cells : ∀ W',Below W.heap.size W W' → W'.cell? ⟨w.heap.size,0,none⟩ = some s1 ∧ W'.cell? ⟨w.heap.size,1,none⟩ = some s2 ∧ W'.cell? ⟨w.heap.size,2,none⟩ = some s3 ∧ W'.cell? ⟨w.heap.size,3,none⟩ = some s4 ∧ W'.cell? ⟨w.heap.size,4,none⟩ = some s5:=fun W' hW'=>by
    have e1:=(hW'.block _ hWl).trans hB1
    refine ⟨?_,?_,?_,?_,?_⟩ <;> simp [World.cell?,e1]
  have hck : ∀ W',Below W.heap.size W W' → Calls Tryz.prog 17 #[.agg #[s1,s2,s3,s4,s5]] W' (ErrR (dec (ObjOk o)) W'):=fun W' hW'=>pcheck_c (h.below (up W' hW')) hR
  have hW0:=Below.refl W.heap.size W
  obtain ⟨e00,e01,e02,e03,e04⟩:=cells W hW0
  by_cases hok : ObjOk o
  · have hlen:=below_len hok hR (fun x hx=>secIn_size (hC x hx))
    obtain ⟨l1,l2,l3,l4,l5,l6⟩:=hlen
    have n1 : o.secs.length ≤ 4000:=by have:=hok.1.1;omega
    have n2 : o.syms.length ≤ 4000:=by have:=hok.2.1.1;omega
    have n3 : o.rels.length ≤ 4000:=by have:=hok.2.2.1.1;omega
    have n4 : o.files.length ≤ 4000:=by have:=hok.2.2.2.1.1;omega
    have n5 : o.lines.length ≤ 4000:=hok.2.2.2.2.1.1
    have m1:=listL_len (secL2 C) o.secs n1
    have m2:=listL_len symL o.syms n2
    have m3:=listL_len relL o.rels n3
    have m4:=listL_len textL o.files n4
    have q1:=fun W' (hW' : Below W.heap.size W W')=>k1.below (up W' hW')
    have q2:=fun W' (hW' : Below W.heap.size W W')=>k2.below (up W' hW')
    have q3:=fun W' (hW' : Below W.heap.size W W')=>k3.below (up W' hW')
    have q4:=fun W' (hW' : Below W.heap.size W W')=>k4.below (up W' hW')
    have hT : TabOk o.lines:=hok.2.2.2.2.1
    have hpk : ∀ W',Below W.heap.size W W' → Calls Tryz.prog 28 #[s5] W' (fun e w'=>Below W'.heap.size W' w' ∧ ∃ a c,e = .returned (.tuple #[.slice a (packL default o.lines).length c,.int .i64 0]) ∧ w'.ownsRow W'.heap.size 5 1 (.slice a (packL default o.lines).length c) (packL default o.lines).length (byL (packL default o.lines))):=fun W' hW'=>(pack_c (k5.below (up W' hW')) (by omega)).mono fun e w' hh=>by
      obtain ⟨hh1,hh2⟩:=hh
      rcases hh2 with ⟨hh2,-⟩ | ⟨-,v,rfl,hv⟩
      · exact absurd hT hh2
      · obtain ⟨a,c,rfl⟩:=own_shape hv
        exact ⟨hh1,a,c,rfl,hv⟩
    have sS:=fun W' (hW' : Below W.heap.size W W')=>(fun x hx=>(by
      obtain ⟨u1,u2,u3⟩:=sec_small hok x hx
      exact ⟨u1,(hC x hx).below (up W' hW'),u2,u3⟩) : ∀ x ∈ o.secs,SecOk x ∧ SecIn W' x.ba x.bn (C x) ∧ x.bn ≤ 65536 ∧ x.name.size ≤ 1000)
    have sY:=sym_small hok hR
    have sL:=rel_small hok
    have sF : ∀ x ∈ o.files,x.size ≤ 1000:=fun x hx=>by have:=(hok.2.2.2.1.2.1 x hx).2.1;omega
    have hpb:=packL_byte hT
    have hbi:=bodyL_in (C:=C) hok
    rw [dec_yes hok] at hck
    have hok:=Lib.hid hok
    have hT:=Lib.hid hT
    have hC:=Lib.hid hC
    have q1:=Lib.hid q1
    have q2:=Lib.hid q2
    have q3:=Lib.hid q3
    have q4:=Lib.hid q4
    have sS:=Lib.hid sS
    have sY:=Lib.hid sY
    have sL:=Lib.hid sL
    have sF:=Lib.hid sF
    have hpb:=Lib.hid hpb
    have hbi:=Lib.hid hbi
    clear h k1 k2 k3 k4 k5 hB1 hR
    go_enter Tryz.func21,Tryz.ntmps21
    go_wp2_with fail
    rw [← hW]
    clear hW
    go_wp2_with (first | (go_at_call 17;refine (hck _ hW0).mono ?_;rintro e w1 ⟨rfl,hb1⟩;obtain ⟨e10,e11,e12,e13,e14⟩:=cells _ hb1) | (go_at_call 28;refine (hpk _ hb1).mono ?_;rintro e w2 ⟨hb2',pa,pc,rfl,hown⟩;have hb2:=bel_then hb1 (Nat.le_refl _) hb2';have hconv:=Joins.run_convert_bytes_const_at (P:=Tryz.prog) (w2.alloc (.cells #[.slice none 0 0] 98)) 34 5 #[.int .u8 67,.int .u8 78,.int .u8 68,.int .u8 79] 4 4 (w2.heap.size + 1) (by simp) Tryz.underlying34 Tryz.underlying5))
    have hW3 : WrS ((w2.alloc (.cells #[.slice none 0 0] 98)).alloc (.cells #[.int .u8 67,.int .u8 78,.int .u8 68,.int .u8 79] 5 (4,5))) w2.heap.size w2.heap.size none []:=⟨.slice none 0 0,by rw [heap_alloc_old _ _ (by simp)];exact heap_alloc_new w2 _,World.ownsRow_nil _ _ _ _,rfl,by simp⟩
    have hs3 : SrcB ((w2.alloc (.cells #[.slice none 0 0] 98)).alloc (.cells #[.int .u8 67,.int .u8 78,.int .u8 68,.int .u8 79] 5 (4,5))) (some ⟨w2.heap.size + 1,0,none⟩) 4 [67,78,68,79]:=by
      refine ⟨rfl,fun y hy=>?_,fun h=>(by cases h),fun ad ha j u hj=>?_⟩
      · simp only [List.mem_cons,List.not_mem_nil,or_false] at hy
        rcases hy with rfl | rfl | rfl | rfl <;> exact ⟨by omega,by omega⟩
      · cases ha
        rw [cell_add,Nat.zero_add,Joins.cell_alloc_mark_at _ _ _ _ _ _ (by simp)]
        simpa [byL] using hj
    have hb3 : Below w2.heap.size w2 ((w2.alloc (.cells #[.slice none 0 0] 98)).alloc (.cells #[.int .u8 67,.int .u8 78,.int .u8 68,.int .u8 79] 5 (4,5))):=(one_below w2 _).alloc (by simp) _
    clear hconv
    generalize ((w2.alloc (.cells #[.slice none 0 0] 98)).alloc (.cells #[.int .u8 67,.int .u8 78,.int .u8 68,.int .u8 79] 5 (4,5))) = w3 at hW3 hs3 hb3 ⊢
    refine (bytesN_c hW3 hs3 hb3.size (by simp) (by omega)).mono ?_
    rintro e w4 ⟨rfl,ob4,hW4,hS4⟩
    have hb4:=hb3.trans (hS4.below hb3.size (Nat.le_refl _) (fun k e=>(by cases e)))
    rw [List.nil_append] at hW4
    have hW4:=Lib.hid hW4
    clear hS4 hW3 hs3
    obtain ⟨e40,e41,e42,e43,e44⟩:=cells _ (bel_then hb2 (Nat.le_refl _) hb4)
    go_wp2_with (first | (go_at_call 77;refine (wlist_sec hb4 (Nat.le_refl _) hW4.out (q1.out w2 hb2) n1 (sS.out w2 hb2) (by simp only [byL_length,List.length_append,List.length_cons,List.length_nil];omega)).mono ?_;rintro e w5 ⟨rfl,ob5,hW5,hS5⟩;have hb5:=hb4.trans (hS5.below hb4.size (Nat.le_refl _) (fun k e=>(hW4.out.lt.2 k e).1));rw [← byL_append] at hW5;have hW5:=Lib.hid hW5;clear hS5;obtain ⟨e50,e51,e52,e53,e54⟩:=cells _ (bel_then hb2 (Nat.le_refl _) hb5)) | (go_at_call 79;refine (wlist_sym hb5 (Nat.le_refl _) hW5.out (q2.out w2 hb2) n2 sY.out (by simp only [byL_length,List.length_append,List.length_cons,List.length_nil];omega)).mono ?_;rintro e w6 ⟨rfl,ob6,hW6,hS6⟩;have hb6:=hb5.trans (hS6.below hb5.size (Nat.le_refl _) (fun k e=>(hW5.out.lt.2 k e).1));rw [← byL_append] at hW6;have hW6:=Lib.hid hW6;clear hS6;obtain ⟨e60,e61,e62,e63,e64⟩:=cells _ (bel_then hb2 (Nat.le_refl _) hb6)) | (go_at_call 81;refine (wlist_rel hb6 (Nat.le_refl _) hW6.out (q3.out w2 hb2) n3 sL.out (by simp only [byL_length,List.length_append,List.length_cons,List.length_nil];omega)).mono ?_;rintro e w7 ⟨rfl,ob7,hW7,hS7⟩;have hb7:=hb6.trans (hS7.below hb6.size (Nat.le_refl _) (fun k e=>(hW6.out.lt.2 k e).1));rw [← byL_append] at hW7;have hW7:=Lib.hid hW7;clear hS7;obtain ⟨e70,e71,e72,e73,e74⟩:=cells _ (bel_then hb2 (Nat.le_refl _) hb7)) | (go_at_call 83;refine (wlist_file hb7 (Nat.le_refl _) hW7.out (q4.out w2 hb2) n4 sF.out (by simp only [byL_length,List.length_append,List.length_cons,List.length_nil];omega)).mono ?_;rintro e w8 ⟨rfl,ob8,hW8,hS8⟩;have hb8:=hb7.trans (hS8.below hb7.size (Nat.le_refl _) (fun k e=>(hW7.out.lt.2 k e).1));rw [← byL_append] at hW8;have hW8:=Lib.hid hW8;clear hS8;obtain ⟨e80,e81,e82,e83,e84⟩:=cells _ (bel_then hb2 (Nat.le_refl _) hb8)))
    have hps : SrcB w8 pa (packL default o.lines).length (packL default o.lines):=(owns_src hown (fun z hz=>⟨(hpb.out z hz).1,by have:=(hpb.out z hz).2;omega⟩)).below hb8
    have hpd : ∀ ad,pa = some ad → 0 < (packL default o.lines).length → ad.block ≠ w2.heap.size ∧ ob8 ≠ some ad.block:=fun ad ha _=>by
      have h1 : ad.block < w2.heap.size:=(hown.lt ad.block (by rw [ha];rfl)).2
      exact ⟨by omega,fun e=>by have:=(hW8.out.lt.2 _ e).1;omega⟩
    refine (counted_c hW8.out hps hpd hb8.size (by simp only [byL_length,List.length_append,List.length_cons,List.length_nil];omega) (by omega)).mono ?_
    rintro e w9 ⟨rfl,ob9,hW9',hS9⟩
    have hb9:=hb8.trans (hS9.below hb8.size (Nat.le_refl _) (fun k e=>(hW8.out.lt.2 k e).1))
    rw [← byL_append] at hW9'
    have hW9 : WrS w9 w2.heap.size w2.heap.size ob9 (byL (bodyL o C)):=hW9'
    have nb : (bodyL o C).length ≤ 2000000:=by
      unfold bodyL
      simp only [List.length_append,List.length_cons,List.length_nil]
      omega
    clear hW9' hS9 hps hpd hown hpb l1 l2 l3 l4 l5 l6 m1 m2 m3 m4
    have hin : ∀ j,InB ((bodyL o C).getD j 0):=fun j=>by
      by_cases hj : j < (bodyL o C).length
      · have:=hbi.out _ (List.getElem_mem hj)
        simpa [List.getD,hj] using this
      · have : (bodyL o C).getD j 0 = 0:=by simp [List.getD,List.getElem?_eq_none (show (bodyL o C).length ≤ j by omega)]
        rw [this]
        exact ⟨by omega,by omega⟩
    obtain ⟨v9,g9,o9, -,-⟩:=id hW9
    rw [byL_length] at o9
    obtain ⟨a9,c9,rfl⟩:=own_shape o9
    have d9 : w9.cell? ⟨w2.heap.size,0,none⟩ = some (.slice a9 (bodyL o C).length c9):=by simp [World.cell?,g9]
    have hsum:=psum_c (c:=c9) (owns_bytes o9) hin (by omega)
    have hsum:=Lib.hid hsum
    have hW9:=Lib.hid hW9
    have hend:=Lib.hid (show fileL o C = bodyL o C ++ wordL (sumL (bodyL o C)) from rfl)
    have hz:=sumL_in (bodyL o C)
    have hz:=Lib.hid hz
    clear hin g9 o9 hbi
    go_wp2_with (first | (go_at_call 24;refine hsum.out.mono ?_;rintro e w10 ⟨rfl,rfl⟩) | (go_at_call 86;refine (word_c hz.out.1 hz.out.2 hW9.out hb9.size (by rw [byL_length];omega)).mono ?_;rintro e w11 ⟨rfl,ob11,hW11,hS11⟩;have hb11:=hb9.trans (hS11.below hb9.size (Nat.le_refl _) (fun k e=>(hW9.out.lt.2 k e).1));rw [← byL_append,← hend.out] at hW11;obtain ⟨v11,g11,o11, -,-⟩:=id hW11;rw [byL_length] at o11;obtain ⟨a11,c11,rfl⟩:=own_shape o11;have d11 : w11.cell? ⟨w2.heap.size,0,none⟩ = some (.slice a11 (fileL o C).length c11):=(by simp [World.cell?,g11]);have hW11:=Lib.hid hW11;have o11:=Lib.hid o11;clear g11))
    go_ret2
    exact ⟨up _ (bel_then hb2 (Nat.le_refl _) hb11),.inr ⟨hok.out,_,rfl,Joins.ownsRow_le o11.out (by have:=(up _ hb2).size;omega)⟩⟩
  · rw [dec_no hok] at hck
    have hok:=Lib.hid hok
    clear h k1 k2 k3 k4 k5 hB1 hR hC
    go_enter Tryz.func21,Tryz.ntmps21
    go_wp2_with fail
    rw [← hW]
    clear hW
    go_wp2_with (go_at_call 17;refine (hck _ hW0).mono ?_;rintro e w1 ⟨rfl,hb1⟩;obtain ⟨e10,e11,e12,e13,e14⟩:=cells _ hb1)
    go_ret2
    exact ⟨up _ hb1,.inl ⟨hok.out,rfl⟩⟩
end Go.Ev

namespace Go.Ev
open Go.RowKit Go.Proofs Go.Rw
def shortF (l : List Nat) : Option (List LineT):=match unpackF l with
  | none=>none
  | some tab=>if toN (packL default tab) = l then some tab else none
theorem shortF_none {l : List Nat} (h : unpackF l = none) : shortF l = none:=by unfold shortF;rw [h]
theorem shortF_some {l : List Nat} {tab : List LineT} (h : unpackF l = some tab) : shortF l = if toN (packL default tab) = l then some tab else none:=by unfold shortF;rw [h]
def ShR (l : List Nat) (w : World) (e : Ending) (w' : World) : Prop:=Below w.heap.size w w' ∧ ((shortF l = none ∧ ∃ v,e = .returned (.tuple #[v,.bool false])) ∨ ∃ tab tv,shortF l = some tab ∧ e = .returned (.tuple #[tv,.bool true]) ∧ RowsAt w' tv LineT.cells 4 tab)
theorem strI_inj {X Y : ByteArray} : X = Y ↔ toN (strI X) = toN (strI Y):=⟨fun h=>by rw [h],fun h=>by rw [← strN_strI X,← strN_strI Y,h]⟩
theorem strI_strOf2 {n : Nat} {q : Nat → Int} {l : List Nat} (hn : l.length = n) (hq : ∀ j,InB (q j)) (h : ∀ j,j < n → q j = ((l.getD j 0 : Nat) : Int)) : toN (strI (strOf n q)) = l:=by
  rw [strI_strOf n q hq]
  apply List.ext_getElem
  · simp [toN,hn]
  · intro j h1 h2
    simp only [toN,List.getElem_map,List.getElem_range]
    rw [h j (by omega)]
    simp [List.getD,h2]
theorem InB_nat {l : List Nat} (h : ∀ x ∈ l,x < 256) (j : Nat) : InB ((l.getD j 0 : Nat) : Int):=by
  unfold InB
  by_cases hj : j < l.length
  · have:=h l[j] (List.getElem_mem hj)
    have e : l.getD j 0 = l[j]:=by simp [List.getD,hj]
    rw [e]
    omega
  · have e : l.getD j 0 = 0:=by simp [List.getD,hj]
    rw [e]
    omega
theorem secIn_of {w : World} {b o n : Nat} {l : List Nat} (hl : l.length = n) (h256 : ∀ x ∈ l,x < 256) (h : ∀ j,j < n → w.cell? ⟨b,o + j,none⟩ = some (.int .u8 ((l.getD j 0 : Nat) : Int))) : ∃ X,SecIn w (some ⟨b,o,none⟩) n X ∧ toN (strI X) = l :=
  ⟨strOf n (fun j=>((l.getD j 0 : Nat) : Int)),.inr ⟨b,o,_,rfl,rfl,InB_nat h256,h⟩,strI_strOf2 hl (InB_nat h256) (fun _ _=>rfl)⟩
theorem secIn_own {w : World} {base c n : Nat} {a : Option Addr} {L : List Int} (h : w.ownsRow base 5 1 (.slice a n c) n (byL L)) (hL : ∀ z ∈ L,0 ≤ z ∧ z < 256) : ∃ X,SecIn w a n X ∧ toN (strI X) = toN L:=by
  have hl : L.length = n:=by have:=h.1;rw [byL_length] at this;omega
  have hq : ∀ j,InB (L.getD j 0):=fun j=>by
    unfold InB
    by_cases hj : j < L.length
    · have:=hL L[j] (List.getElem_mem hj)
      have e : L.getD j 0 = L[j]:=by simp [List.getD,hj]
      rw [e]
      omega
    · have e : L.getD j 0 = 0:=by simp [List.getD,hj]
      rw [e]
      omega
  have hs : toN (strI (strOf n (fun j=>L.getD j 0))) = toN L:=strI_strOf2 (by rw [toN_len];exact hl) hq (fun j hj=>by
    have h1:=hL L[j] (List.getElem_mem (by omega))
    have e : L.getD j 0 = L[j]:=by simp [List.getD,hl,hj]
    have e2 : (toN L).getD j 0 = (L[j]).toNat:=by simp [toN,List.getD,hl,hj]
    rw [e,e2]
    omega)
  rcases owns_bytes h with ⟨rfl,rfl⟩ | ⟨b,o,rfl,hc⟩
  · exact ⟨strOf 0 (fun _=>0),.inl ⟨rfl,rfl⟩,by
      have : L = []:=List.eq_nil_of_length_eq_zero hl
      subst this
      exact strI_strOf2 rfl (fun _=>⟨by omega,by omega⟩) (fun j hj=>by omega)⟩
  · exact ⟨_,.inr ⟨b,o,_,rfl,rfl,hq,hc⟩,hs⟩
set_option maxRecDepth 100000 in
set_option maxHeartbeats 2000000 in
theorem short_c {w : World} {b o : Nat} {l : List Nat} (h : ∀ j,j < l.length → w.cell? ⟨b,o + j,none⟩ = some (.int .u8 ((l.getD j 0 : Nat) : Int))) (h256 : ∀ x ∈ l,x < 256) (hl : l.length ≤ 100000) :
    Calls Tryz.prog 186 #[.slice (some ⟨b,o,none⟩) l.length l.length] w (ShR l w):=by
  have hU : Calls Tryz.prog 30 #[.slice (some ⟨b,o,none⟩) l.length l.length] w (UpR l w):=by
    by_cases h0 : l.length = 0
    · obtain rfl:=List.eq_nil_of_length_eq_zero h0
      exact unpack_none
    · exact unpack_some ⟨rfl,h256,h⟩ (low_of_cell (h 0 (by omega))) (by omega) (Nat.le_refl _) (by omega)
  obtain ⟨Y,hY,hYl⟩:=secIn_of rfl h256 h
  replace hYl:=Lib.hid hYl
  obtain ⟨nl,hnl⟩ : ∃ n,n = l.length:=⟨_,rfl⟩
  rw [← hnl] at hU hY ⊢
  replace hnl:=Lib.hid hnl
  clear h
  go_enter Tryz.func186,Tryz.ntmps186
  go_wp2_with fail
  refine hU.mono ?_
  rintro e w1 ⟨hb1,(⟨hn,rfl⟩ | ⟨tab,tv,hs,rfl,hrows⟩)⟩
  · have hfin:=Lib.hid (shortF_none hn)
    clear hn
    go_wp2
    go_ret2
    exact ⟨hb1,.inl ⟨hfin.out,_,rfl⟩⟩
  · have hT : TabOk tab:=(unpack_short hs h256).1
    have hpk:=pack_c hrows (by have:=hT.1;omega)
    have hsh:=Lib.hid (shortF_some hs)
    clear hs
    go_wp2_with fail
    refine hpk.mono ?_
    rintro e w2 ⟨hb2,(⟨hno,-⟩ | ⟨-,v,rfl,hown⟩)⟩
    · exact absurd hT hno
    · obtain ⟨pa,pc,rfl⟩:=own_shape hown
      obtain ⟨X,hX,hXl⟩:=secIn_own hown (packL_byte hT)
      have hb12:=bel_then hb1 (Nat.le_refl _) hb2
      have heq:=bequal_x (c1:=pc) (c2:=nl) hX (hY.below hb12)
      have hd : dec (X = Y) = dec (toN (packL default tab) = l):=by
        have : (X = Y) = (toN (packL default tab) = l):=by rw [strI_inj,hXl,hYl.out]
        simp only [this]
      rw [hd] at heq
      have hrows2:=Lib.hid (hrows.below hb2)
      clear hown hX hXl hd hpk
      generalize (packL default tab).length = np at heq
      by_cases hc : toN (packL default tab) = l
      · rw [if_pos hc] at hsh
        rw [dec_yes hc] at heq
        clear hc
        go_wp2_with fail
        refine heq.mono ?_
        rintro e w3 ⟨rfl,rfl⟩
        go_wp2
        go_ret2
        exact ⟨hb12,.inr ⟨tab,_,hsh.out,rfl,hrows2.out⟩⟩
      · rw [if_neg hc] at hsh
        rw [dec_no hc] at heq
        clear hc
        go_wp2_with fail
        refine heq.mono ?_
        rintro e w3 ⟨rfl,rfl⟩
        go_wp2
        go_ret2
        exact ⟨hb12,.inl ⟨hsh.out,_,rfl⟩⟩
end Go.Ev

namespace Go.Ev
open Go.RowKit Go.Proofs Go.Rw
structure RawM where
  secs : List SecM
  syms : List SymT
  rels : List RelT
  files : List ByteArray
  prog : List Nat
def SecT.bare (x : SecT) : SecT:=⟨x.name,x.rights,x.align,none,x.bn,0,x.zero⟩
def SecM.toT (m : SecM) : SecT:=⟨m.name,m.rights,m.align,none,m.bs.length,0,m.zero⟩
def RawM.obj (m : RawM) (tab : List LineT) : ObjT:=⟨m.secs.map SecM.toT,m.syms,m.rels,m.files,tab⟩
def magicL : List Nat:=[67,78,68,79]
def sumN (all : List Nat) (k : Nat) : Int:=sumV (fun j=>((all.getD j 0 : Nat) : Int)) k
noncomputable def tabG (m : RawM) (e : Nat) : Except (Nat × Int) (RawM × List LineT):=match shortF m.prog with
  | none=>.error (e - m.prog.length,33)
  | some tab=>if dec (ObjOk (m.obj tab)) = true then .ok (m,tab) else .error (0,30)
theorem tabG_none {m : RawM} {e : Nat} (h : shortF m.prog = none) : tabG m e = .error (e - m.prog.length,33):=by unfold tabG;rw [h]
theorem tabG_some {m : RawM} {e : Nat} {tab : List LineT} (h : shortF m.prog = some tab) : tabG m e = if dec (ObjOk (m.obj tab)) = true then .ok (m,tab) else .error (0,30):=by unfold tabG;rw [h]
noncomputable def endG (all : List Nat) (m : RawM) (e : Nat) (s : Nat × Nat) : Except (Nat × Int) (RawM × List LineT) :=
  if s.2 = all.length then (if (s.1 : Int) = sumN all e then tabG m e else .error (e,31)) else .error (s.2,4)
noncomputable def endF (all : List Nat) (m : RawM) (e : Nat) : Except (Nat × Int) (RawM × List LineT):=(wrdF all e).bind (endG all m e)
noncomputable def objF (all : List Nat) : Except (Nat × Int) (RawM × List LineT) :=
  if all.take 4 = magicL then
    (lstF (secF all) all 4 16).bind fun a=>(lstF (symF all) all a.2 500).bind fun b=>(lstF (relF all) all b.2 2000).bind fun c=>(lstF (filF all) all c.2 20).bind fun d=>(cntF all d.2 100000).bind fun e=>endF all ⟨a.1,b.1,c.1,d.1,e.1⟩ e.2
  else .error (0,4)
theorem defOk_bare {l : List SecT} {x : SymT} : DefOk (l.map SecT.bare) x ↔ DefOk l x:=by
  have hb : ∀ (P : SecT → Prop),(∀ y,P y.bare ↔ P y) → ((∃ y,(l.map SecT.bare)[x.sec.toNat]? = some y ∧ P y) ↔ ∃ y,l[x.sec.toNat]? = some y ∧ P y):=fun P hP=>by
    rw [List.getElem?_map]
    constructor
    · rintro ⟨y,hy,h⟩
      cases he : l[x.sec.toNat]? with
      | none=>rw [he] at hy;cases hy
      | some z=>rw [he] at hy;cases hy;exact ⟨z,rfl,(hP z).1 h⟩
    · rintro ⟨y,hy,h⟩
      exact ⟨y.bare,by rw [hy];rfl,(hP y).2 h⟩
  unfold DefOk
  rw [hb (fun y=>(0 ≤ x.size ∧ x.size ≤ (y.bn : Int) + y.zero - x.val) ∧ (x.kind ≠ 1 ∨ bits .and .i64 y.rights 4 ≠ 0)) (fun y=>Iff.rfl)]
theorem lens_bare (l : List SecT) : lens (l.map SecT.bare) = lens l:=by
  unfold lens
  rw [List.map_map]
  rfl
theorem secsOk_bare {l : List SecT} : SecsOk (l.map SecT.bare) ↔ SecsOk l:=by
  unfold SecsOk
  rw [List.length_map,lens_bare,List.map_map]
  have h1 : (∀ x ∈ l.map SecT.bare,SecOk x) ↔ ∀ x ∈ l,SecOk x :=
    ⟨fun h x hx=>h x.bare (List.mem_map.2 ⟨x,hx,rfl⟩),fun h x hx=>by obtain ⟨y,hy,rfl⟩:=List.mem_map.1 hx;exact h y hy⟩
  rw [h1]
  rfl
theorem objOk_bare {a b : ObjT} (hs : a.secs.map SecT.bare = b.secs.map SecT.bare) (h2 : a.syms = b.syms) (h3 : a.rels = b.rels) (h4 : a.files = b.files) (h5 : a.lines = b.lines) : ObjOk a ↔ ObjOk b:=by
  obtain ⟨s,y,r,f,l⟩:=a
  obtain ⟨s',y',r',f',l'⟩:=b
  dsimp only at hs h2 h3 h4 h5
  subst h2 h3 h4 h5
  have hlen : s.length = s'.length:=by have:=congrArg List.length hs;simpa using this
  have e1 : SecsOk s ↔ SecsOk s':=by rw [← secsOk_bare,hs,secsOk_bare]
  have e2 : ∀ x,SymOk s x ↔ SymOk s' x:=fun x=>by unfold SymOk;rw [← defOk_bare (l:=s),hs,defOk_bare]
  have hget : ∀ (i : Nat) (P : SecT → Prop),(∀ y,P y.bare ↔ P y) → ((∃ y,s[i]? = some y ∧ P y) ↔ ∃ y,s'[i]? = some y ∧ P y):=fun i P hP=>by
    have hi : (s.map SecT.bare)[i]? = (s'.map SecT.bare)[i]?:=by rw [hs]
    rw [List.getElem?_map,List.getElem?_map] at hi
    constructor
    · rintro ⟨y,hy,h⟩
      rw [hy] at hi
      cases he : s'[i]? with
      | none=>rw [he] at hi;cases hi
      | some z =>
        rw [he] at hi
        have e : y.bare = z.bare:=Option.some.inj hi
        exact ⟨z,rfl,(hP z).1 (by rw [← e];exact (hP y).2 h)⟩
    · rintro ⟨y,hy,h⟩
      rw [hy] at hi
      cases he : s[i]? with
      | none=>rw [he] at hi;cases hi
      | some z =>
        rw [he] at hi
        have e : z.bare = y.bare:=Option.some.inj hi
        exact ⟨z,rfl,(hP z).1 (by rw [e];exact (hP y).2 h)⟩
  have e3 : ∀ x,RelOk ⟨s,y,r,f,l⟩ x ↔ RelOk ⟨s',y,r,f,l⟩ x:=fun x=>by
    unfold RelOk
    dsimp only
    rw [hlen,hget x.sec.toNat (fun y=>0 ≤ x.off ∧ x.off ≤ (y.bn : Int) - widthV x.kind) (fun y=>Iff.rfl)]
  have e4 : ∀ x,LineIn ⟨s,y,r,f,l⟩ x ↔ LineIn ⟨s',y,r,f,l⟩ x:=fun x=>by
    unfold LineIn
    dsimp only
    rw [hlen,hget x.sec.toNat (fun y=>0 ≤ x.off ∧ x.off < (y.bn : Int) + y.zero) (fun y=>Iff.rfl)]
  unfold ObjOk SymsOk RelsOk LinesOk
  dsimp only
  rw [e1]
  simp only [e2,e3,e4]
structure RawR (m : RawM) : Prop where
  secs : ∀ x ∈ m.secs,SecMR x
  syms : ∀ x ∈ m.syms,SymRd x
  rels : ∀ x ∈ m.rels,RelRd x
  files : ∀ x ∈ m.files,x.size ≤ 100
  n1 : m.secs.length ≤ 16
  n2 : m.syms.length ≤ 500
  n3 : m.rels.length ≤ 2000
  n4 : m.files.length ≤ 20
  n5 : m.prog.length ≤ 100000
def rawL (m : RawM) : List Nat:=magicL ++ (lstL secML m.secs ++ (lstL (fun x=>toN (symL x)) m.syms ++ (lstL (fun x=>toN (relL x)) m.rels ++ (lstL (fun x=>toN (textL x)) m.files ++ cntL m.prog))))
theorem parts_back {all : List Nat} {a : List SecM × Nat} {b : List SymT × Nat} {c : List RelT × Nat} {d : List ByteArray × Nat} {e : List Nat × Nat} (hb : ∀ x ∈ all,x < 256) (h0 : all.take 4 = magicL)
    (h1 : lstF (secF all) all 4 16 = .ok a) (h2 : lstF (symF all) all a.2 500 = .ok b) (h3 : lstF (relF all) all b.2 2000 = .ok c) (h4 : lstF (filF all) all c.2 20 = .ok d) (h5 : cntF all d.2 100000 = .ok e) :
    Beg all 0 (rawL ⟨a.1,b.1,c.1,d.1,e.1⟩) e.2 ∧ RawR ⟨a.1,b.1,c.1,d.1,e.1⟩:=by
  have hl : 4 ≤ all.length:=by have:=congrArg List.length h0;rw [List.length_take] at this;simp only [magicL,List.length_cons,List.length_nil] at this;omega
  have b0 : Beg all 0 magicL 4:=⟨rfl,hl,by rw [List.drop_zero,← h0,List.take_append_drop]⟩
  obtain ⟨b1,l1,q1⟩:=lst_back (g:=secML) (Q:=SecMR) hb hl (fun p y hp hy=>secF_back hb hp hy) h1
  obtain ⟨b2,l2,q2⟩:=lst_back (g:=fun x=>toN (symL x)) (Q:=SymRd) hb b1.2.1 (fun p y hp hy=>symF_back hb hp hy) h2
  obtain ⟨b3,l3,q3⟩:=lst_back (g:=fun x=>toN (relL x)) (Q:=RelRd) hb b2.2.1 (fun p y hp hy=>relF_back hb hp hy) h3
  obtain ⟨b4,l4,q4⟩:=lst_back (g:=fun x=>toN (textL x)) (Q:=fun x : ByteArray=>x.size ≤ 100) hb b3.2.1 (fun p y hp hy=>txtF_back hb hp hy) h4
  obtain ⟨b5,l5⟩:=cntF_back hb b4.2.1 h5
  exact ⟨b0.join (b1.join (b2.join (b3.join (b4.join b5)))),⟨q1,q2,q3,q4,l1,l2,l3,l4,l5⟩⟩
theorem symR_of {x : SymT} (h : SymRd x) : x.R:=by
  obtain ⟨h1,h2,h3,h4,h5,h6⟩:=h
  have : -4294967296 ≤ x.sec ∧ x.sec ≤ 4294967296:=by unfold zig at h2;split at h2 <;> omega
  refine ⟨⟨by omega,by omega⟩,h3,⟨by omega,by omega⟩,⟨by omega,by omega⟩,⟨by omega,by omega⟩,by omega⟩
theorem relR_of {x : RelT} (h : RelRd x) : x.R:=by
  obtain ⟨h1,h2,h3,h4,h5⟩:=h
  have : -4294967296 ≤ x.add ∧ x.add ≤ 4294967296:=by unfold zig at h5;split at h5 <;> omega
  exact ⟨⟨by omega,by omega⟩,⟨by omega,by omega⟩,⟨by omega,by omega⟩,⟨by omega,by omega⟩,⟨by omega,by omega⟩⟩
theorem lineR_of {l : List LineT} (h : TabOk l) : ∀ x ∈ l,x.R:=fun x hx=>by
  obtain ⟨⟨h1,h2,h3,h4⟩,-⟩:=h.2.1 x hx
  exact ⟨⟨by omega,by omega⟩,⟨by omega,by omega⟩,⟨by omega,by omega⟩,⟨by omega,by omega⟩⟩
theorem short_tab {l : List Nat} {tab : List LineT} (hb : ∀ y ∈ l,y < 256) (h : shortF l = some tab) : TabOk tab ∧ toN (packL default tab) = l:=by
  unfold shortF at h
  cases hu : unpackF l with
  | none=>rw [hu] at h;cases h
  | some t =>
    rw [hu] at h
    dsimp only at h
    split at h
    · cases h
      exact ⟨(unpack_short hu hb).1,by assumption⟩
    · cases h
end Go.Ev

namespace Go.Ev
open Go.RowKit Go.Proofs Go.Rw
def MarkAt (w : World) (M : Nat) : Prop:=∀ j u,(byL [67,78,68,79])[j]? = some u → w.cell? ⟨M,j,none⟩ = some u
theorem mark_in {w : World} {M : Nat} (h : MarkAt w M) : ∃ X,SecIn w (some ⟨M,0,none⟩) 4 X ∧ toN (strI X) = magicL :=
  secIn_of (l:=magicL) rfl (by decide) (fun j hj=>by
    rw [Nat.zero_add]
    match j,hj with
    | 0,_=>exact h 0 _ rfl
    | 1,_=>exact h 1 _ rfl
    | 2,_=>exact h 2 _ rfl
    | 3,_=>exact h 3 _ rfl)
set_option maxRecDepth 100000 in
theorem prefix_yes {w : World} {b o n c M : Nat} {all : List Nat} (hA : AllAt w b o n all) (h4 : 4 ≤ n) (hc : n ≤ c) (hM : MarkAt w M) :
    Calls Tryz.prog 173 #[.slice (some ⟨b,o,none⟩) n c,.slice (some ⟨M,0,none⟩) 4 4] w fun e w'=>e = .returned (.bool (dec (all.take 4 = magicL))) ∧ w' = w:=by
  obtain ⟨Y,hY,hYl⟩:=mark_in hM
  obtain ⟨X,hX,hXl⟩:=secIn_of (w:=w) (b:=b) (o:=o) (n:=4) (l:=all.take 4) (by rw [List.length_take,hA.1];omega) (fun x hx=>hA.2.1 x (List.mem_of_mem_take hx)) (fun j hj=>by
    rw [hA.2.2 j (by omega)]
    simp [List.getD,List.getElem?_take,hj])
  have heq:=bequal_x (c1:=c) (c2:=4) hX hY
  have hd : dec (X = Y) = dec (all.take 4 = magicL):=by
    have : (X = Y) = (all.take 4 = magicL):=by rw [strI_inj,hXl,hYl]
    simp only [this]
  rw [hd] at heq
  have h4' : (4 : Int) ≤ (n : Int):=by omega
  have h4c : (4 : Int) ≤ (c : Int):=by omega
  have h4d : 4 ≤ c:=by omega
  clear hX hY hXl hYl hd hM hA
  generalize dec (all.take 4 = magicL) = r at heq
  go_enter Tryz.func173,Tryz.ntmps173
  go_wp2_with fail
  refine heq.mono ?_
  rintro e w1 ⟨rfl,rfl⟩
  cases r
  · go_wp2
    go_ret
    exact ⟨rfl,rfl⟩
  · go_wp2
    go_ret
    exact ⟨rfl,rfl⟩
theorem prefix_no {w : World} {a m : Option Addr} {n c : Nat} (h4 : n < 4) :
    Calls Tryz.prog 173 #[.slice a n c,.slice m 4 4] w fun e w'=>e = .returned (.bool false) ∧ w' = w:=by
  have h4' : ¬ (4 : Int) ≤ (n : Int):=by omega
  have h5 : decide ((4 : Int) ≤ (n : Int)) = false:=decide_eq_false h4'
  go_enter Tryz.func173,Tryz.ntmps173
  go_wp2
  go_ret
  exact ⟨rfl,rfl⟩
theorem atEnd_c {w : World} {R b o n c p : Nat} {all : List Nat} (h : RS w R b o n c all p) :
    Calls Tryz.prog 104 #[.pointer (some ⟨R,0,none⟩)] w fun e w'=>e = .returned (.bool ((p : Int) == (n : Int))) ∧ ∃ k,w' = w.drewN k:=by
  obtain ⟨c0,c1,-⟩:=h.cells
  go_enter Tryz.func104,Tryz.ntmps104
  go_wp2_with fail
  go_quiet (fail)
  go_wp2
  go_ret
  exact ⟨rfl,_,rfl⟩
theorem sumTo_c {w : World} {R b o n c p k c2 : Nat} {all : List Nat} (h : RS w R b o n c all p) (hk : k ≤ n) :
    Calls Tryz.prog 24 #[.slice (some ⟨b,o,none⟩) k c2] w fun e w'=>e = .returned (.int .u32 (sumN all k)) ∧ w' = w :=
  psum_c (.inr ⟨b,o,rfl,fun j hj=>h.at_.2.2 j (by omega)⟩) (InB_nat h.at_.2.1) (by have:=h.nn;omega)
theorem wrdF_le {all : List Nat} {p : Nat} {y : Nat × Nat} (hb : ∀ x ∈ all,x < 256) (h : wrdF all p = .ok y) : y.1 ≤ 4294967295:=by
  obtain ⟨z,h1,h2⟩:=bind_ok h
  cases h2
  have hz : ∀ x ∈ z.1,x < 256:=fun x hx=>by
    unfold tkF at h1
    split at h1
    · cases h1
      exact hb x (List.mem_of_mem_drop (List.mem_of_mem_take hx))
    · cases h1
  have hg : ∀ j,z.1.getD j 0 < 256:=fun j=>by
    by_cases hj : j < z.1.length
    · have:=hz z.1[j] (List.getElem_mem hj)
      simpa [List.getD,hj] using this
    · simp [List.getD,hj]
  have h0:=hg 0
  have h1:=hg 1
  have h2:=hg 2
  have h3:=hg 3
  dsimp only
  omega
end Go.Ev

namespace Go.Ev
open Go.RowKit Go.Proofs Go.Rw
def Oth (X : Nat) (w w' : World) : Prop:=∀ k,k ≠ X → w'.heap[k]? = w.heap[k]?
theorem Oth.refl (X : Nat) (w : World) : Oth X w w:=fun _ _=>rfl
theorem Oth.set {X : Nat} {w w' : World} (h : Oth X w w') (i : Nat) (u : Value) : Oth X w (w'.setCell ⟨X,i,none⟩ u):=fun k hk=>(heap_setCell_other w' ⟨X,i,none⟩ k u hk).trans (h k hk)
theorem owns_oth {w w' : World} {base e size n X : Nat} {v : Value} {xs : List Value} {cs : Array Value} (h : w.ownsRow base e size v n xs) (hX : w.heap[X]? = some (.cells cs 28 (0,0))) (he : e ≠ 28) (ho : Oth X w w') : w'.ownsRow base e size v n xs:=by
  refine ⟨h.1,h.2.imp id fun ⟨g,cap,cur,e1,h1,h2,h3⟩=>⟨g,cap,cur,e1,h1,(ho g fun hg=>?_).trans h2,h3⟩⟩
  subst hg
  rw [hX] at h2
  simp only [Option.some.injEq,Obj.cells.injEq] at h2
  exact he h2.2.1.symm
theorem OwnB.oth {w w' : World} {g n cap X : Nat} {q : Nat → Int} {cs : Array Value} (h : OwnB w g n cap q) (hX : w.heap[X]? = some (.cells cs 28 (0,0))) (ho : Oth X w w') : OwnB w' g n cap q:=by
  obtain ⟨cur,h1,r⟩:=h
  refine ⟨cur,(ho g fun hg=>?_).trans h1,r⟩
  subst hg
  rw [hX] at h1
  simp at h1
theorem rows_oth {α : Type} {f : α → List Value} {size : Nat} {w w' : World} {X : Nat} {tv : Value} {tab : List α} {a0 a1 a2 a3 a4 : Option Addr} {n0 n1 n2 n3 n4 c0 c1 c2 c3 c4 : Nat} (hf : ∀ x,∃ u,(f x)[0]? = some u ∧ ∀ a n c,u ≠ .slice a n c) (h : RowsAt w tv f size tab)
    (hX : w.heap[X]? = some (.cells #[.slice a0 n0 c0,.slice a1 n1 c1,.slice a2 n2 c2,.slice a3 n3 c3,.slice a4 n4 c4] 28 (0,0))) (ho : Oth X w w') : RowsAt w' tv f size tab:=by
  obtain ⟨a,c,rfl,h1⟩:=h
  refine ⟨a,c,rfl,?_⟩
  rcases h1 with h1 | ⟨b,o,rfl,hc⟩
  · exact .inl h1
  · by_cases hn : tab = []
    · exact .inl hn
    · refine .inr ⟨b,o,rfl,fun k x hk j u hj=>?_⟩
      have hpos : 0 < tab.length:=by cases tab with | nil=>exact absurd rfl hn | cons _ _=>simp
      have hb : b ≠ X:=fun e=>by
        subst e
        obtain ⟨y,hy⟩ : ∃ y,tab[0]? = some y:=⟨tab[0]'hpos,by simp [hpos]⟩
        obtain ⟨u,hu,hns⟩:=hf y
        have:=hc 0 y hy 0 u hu
        simp only [Nat.zero_mul,Nat.add_zero,World.cell?,hX] at this
        match o,this with
        | 0,h=>exact hns _ _ _ (by simpa using h.symm)
        | 1,h=>exact hns _ _ _ (by simpa using h.symm)
        | 2,h=>exact hns _ _ _ (by simpa using h.symm)
        | 3,h=>exact hns _ _ _ (by simpa using h.symm)
        | 4,h=>exact hns _ _ _ (by simpa using h.symm)
        | o + 5,h=>simp at h
      exact (World.cell?_of_block (w:=w) (a:=⟨b,o + k * size + j,none⟩) (ho b hb)).trans (hc k x hk j u hj)
theorem line_oth {w w' : World} {X : Nat} {tv : Value} {tab : List LineT} {a0 a1 a2 a3 a4 : Option Addr} {n0 n1 n2 n3 n4 c0 c1 c2 c3 c4 : Nat} (h : RowsAt w tv LineT.cells 4 tab)
    (hX : w.heap[X]? = some (.cells #[.slice a0 n0 c0,.slice a1 n1 c1,.slice a2 n2 c2,.slice a3 n3 c3,.slice a4 n4 c4] 28 (0,0))) (ho : Oth X w w') : RowsAt w' tv LineT.cells 4 tab :=
  rows_oth (fun x=>⟨_,rfl,fun _ _ _ e=>by cases e⟩) h hX ho
theorem ObjAt.oth {w w' : World} {X : Nat} {v : Value} {o : ObjT} {a0 a1 a2 a3 a4 : Option Addr} {n0 n1 n2 n3 n4 c0 c1 c2 c3 c4 : Nat} (h : ObjAt w v o)
    (hX : w.heap[X]? = some (.cells #[.slice a0 n0 c0,.slice a1 n1 c1,.slice a2 n2 c2,.slice a3 n3 c3,.slice a4 n4 c4] 28 (0,0))) (ho : Oth X w w') : ObjAt w' v o:=by
  obtain ⟨s1,s2,s3,s4,s5,rfl,h1,h2,h3,h4,h5⟩:=h
  exact ⟨s1,s2,s3,s4,s5,rfl,rows_oth (fun x=>⟨_,rfl,fun _ _ _ e=>by cases e⟩) h1 hX ho,rows_oth (fun x=>⟨_,rfl,fun _ _ _ e=>by cases e⟩) h2 hX ho,rows_oth (fun x=>⟨_,rfl,fun _ _ _ e=>by cases e⟩) h3 hX ho,rows_oth (fun x=>⟨_,rfl,fun _ _ _ e=>by cases e⟩) h4 hX ho,line_oth h5 hX ho⟩
theorem SecsRel.bare {w : World} {xs : List SecT} {ms : List SecM} (h : SecsRel w xs ms) : xs.map SecT.bare = (ms.map SecM.toT).map SecT.bare:=by
  apply List.ext_getElem
  · simp [h.1]
  · intro i h1 h2
    simp only [List.getElem_map]
    simp only [List.length_map] at h1 h2
    obtain ⟨e1,e2,e3,e4,e5,-⟩:=h.2 i xs[i] ms[i] (by simp [h1]) (by simp [h2])
    unfold SecT.bare SecM.toT
    rw [e1,e2,e3,e4,e5]
theorem SecsRel.R {w : World} {xs : List SecT} {ms : List SecM} (h : SecsRel w xs ms) (hm : ∀ m ∈ ms,SecMR m) : ∀ x ∈ xs,x.R:=fun x hx=>by
  obtain ⟨i,hi,rfl⟩:=List.getElem_of_mem hx
  have hi2 : i < ms.length:=by rw [← h.1];exact hi
  obtain ⟨e1,e2,e3,e4,e5,-⟩:=h.2 i xs[i] ms[i] (by simp [hi]) (by simp [hi2])
  obtain ⟨r1,r2,r3,r4,r5⟩:=hm _ (List.getElem_mem hi2)
  refine ⟨⟨by omega,by omega⟩,⟨by omega,by omega⟩,by omega,⟨by omega,by omega⟩,?_⟩
  rw [e1]
  omega
end Go.Ev

