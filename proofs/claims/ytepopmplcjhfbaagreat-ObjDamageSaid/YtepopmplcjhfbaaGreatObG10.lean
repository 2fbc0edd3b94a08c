import Derived.Test.YtepopmplcjhfbaaGreatObG09
import Derived.Lib.ConvBytes
import Derived.Test.YtepopmplcjhfbaaGreatObG03
set_option linter.unusedSectionVars false
set_option linter.unusedVariables false
set_option linter.unusedSimpArgs false
set_option linter.unnecessarySimpa false
namespace Go.Ev
open Go.RowKit Go.Proofs Go.Rw
theorem add_blk (a : Addr) (i : Nat) : (a.add i).block = a.block:=by unfold Addr.add;split <;> rfl
theorem SrcB.wst {w w' : World} {a : Option Addr} {n g : Nat} {ob ob' : Option Nat} {ys : List Int} (h : SrcB w a n ys) (hS : Wst w w' g ob ob') (hd : ∀ ad,a = some ad → 0 < n → ad.block ≠ g ∧ ob ≠ some ad.block) : SrcB w' a n ys :=
  ⟨h.1,h.2.1,h.2.2.1,fun ad ha j u hj=>by
    have hp : 0 < n:=by have:=(List.getElem?_eq_some_iff.1 hj).1;rw [byL_length,h.1] at this;omega
    exact hS.cell (h.2.2.2 ad ha j u hj) (by rw [add_blk];exact (hd ad ha hp).1) (by rw [add_blk];exact (hd ad ha hp).2)⟩
theorem WrS.keep {W W' : World} {base g : Nat} {ob : Option Nat} {xs : List Value} (h : WrS W base g ob xs) (hb : Below W.heap.size W W') : WrS W' base g ob xs:=by
  have hlt:=h.lt.1
  obtain ⟨v,h1,h2,h3,h4⟩:=h
  exact ⟨v,(hb.block g hlt).trans h1,owns_keep h2 hb,h3,h4⟩
theorem wst_below {w w' : World} (h : Below w.heap.size w w') (g : Nat) (ob : Option Nat) : Wst w w' g ob ob:=⟨h.os,h.tape,h.output,h.size,fun k hk _ _=>h.block k hk,.inl rfl⟩
theorem bytesWorld_below (w : World) (s : ByteArray) : Below w.heap.size w (Lib.bytesWorld w 5 s):=⟨rfl,rfl,rfl,by rw [Lib.bytesWorld_size];omega,fun k hk=>Lib.bytesWorld_at_old w 5 s k hk⟩
def strI (s : ByteArray) : List Int:=s.data.toList.map fun b=>(b.toNat : Int)
theorem strI_len (s : ByteArray) : (strI s).length = s.size:=by simp [strI]
theorem strI_in (s : ByteArray) : ∀ y ∈ strI s,InB y:=fun y hy=>by
  obtain ⟨b,_,rfl⟩:=List.mem_map.1 hy
  have:=b.toNat_lt
  exact ⟨by omega,by omega⟩
theorem srcB_conv (w : World) (s : ByteArray) : SrcB (Lib.bytesWorld w 5 s) (some ⟨w.heap.size,0,none⟩) s.size (strI s):=by
  refine ⟨strI_len s,strI_in s,fun h=>(by cases h),fun ad ha j u hj=>?_⟩
  cases ha
  rw [cell_add,Nat.zero_add]
  have hjl : j < s.size:=by
    have:=(List.getElem?_eq_some_iff.1 hj).1
    rwa [byL_length,strI_len] at this
  rw [Lib.bytesWorld_cell w 5 s j hjl]
  unfold byL strI at hj
  rw [List.map_map,List.getElem?_map] at hj
  cases hb : s.data.toList[j]? with
  | none=>rw [hb] at hj;cases hj
  | some b =>
    rw [hb] at hj
    rw [List.getD,hb]
    exact hj
set_option maxRecDepth 100000 in
set_option maxHeartbeats 1000000 in
theorem counted_c {w : World} {base g n c : Nat} {a : Option Addr} {ob : Option Nat} {xs : List Value} {ys : List Int} (h : WrS w base g ob xs) (hs : SrcB w a n ys) (hd : ∀ ad,a = some ad → 0 < n → ad.block ≠ g ∧ ob ≠ some ad.block) (hbase : base ≤ w.heap.size) (hn : xs.length ≤ 4000000) (hm : n ≤ 1000000) :
    Calls Tryz.prog 85 #[.pointer (some ⟨g,0,none⟩),.slice a n c] w (WrR base g ob (xs ++ byL (numL n ++ ys)) w):=by
  have h:=Lib.hid h
  have hnl:=numL_len 8 n (by omega)
  have hlen : (xs ++ byL (numL n)).length ≤ 10000000:=by rw [List.length_append,byL_length];omega
  go_enter Tryz.func85,Tryz.ntmps85
  go_wp2_with (first | (go_at_call 170;refine (number_c h.out hbase (by omega) (by omega)).mono ?_;rintro e w1 ⟨rfl,ob1,hW1,hS1⟩;have hW1:=Lib.hid hW1) | (go_at_call 76;refine (bytesN_c hW1.out (hs.wst hS1 hd) (Nat.le_trans hbase hS1.size) hlen (by omega)).mono ?_;rintro e w2 ⟨rfl,ob2,hW2,hS2⟩;have hW2:=Lib.hid hW2))
  refine bodyPost_end (results_none rfl _ _ _) rfl ?_
  exact ⟨rfl,ob2,by rw [byL_append,← List.append_assoc];exact hW2.out,hS1.trans hS2⟩
def textL (s : ByteArray) : List Int:=numL s.size ++ strI s
set_option maxRecDepth 100000 in
set_option maxHeartbeats 1000000 in
theorem text_c {w : World} {base g : Nat} {ob : Option Nat} {xs : List Value} (s : ByteArray) (h : WrS w base g ob xs) (hbase : base ≤ w.heap.size) (hn : xs.length ≤ 4000000) (hm : s.size ≤ 1000000) :
    Calls Tryz.prog 84 #[.pointer (some ⟨g,0,none⟩),.string s] w (WrR base g ob (xs ++ byL (textL s)) w):=by
  have hconv:=Lib.run_convert_string_bytes (P:=Tryz.prog) w 9 34 5 s Tryz.underlying9 Tryz.underlying34 Tryz.underlying5
  have hbw:=bytesWorld_below w s
  have hlt:=h.lt
  have hC:=fun c=>counted_c (c:=c) (h.keep hbw) (srcB_conv w s) (fun ad ha _=>by
    cases ha
    exact ⟨(show w.heap.size ≠ g by have:=hlt.1;omega),fun e=>by have h3 : w.heap.size < w.heap.size:=(hlt.2 _ e).2;omega⟩) (Nat.le_trans hbase hbw.size) hn hm
  generalize Lib.bytesWorld w 5 s = w1 at hconv hbw hC
  have hC:=Lib.hid hC
  clear h hlt
  go_enter Tryz.func84,Tryz.ntmps84
  go_wp2_with (go_at_call 85;refine (hC.out _).mono ?_;rintro e w2 ⟨rfl,ob2,hW2,hS2⟩;have hW2:=Lib.hid hW2)
  refine bodyPost_end (results_none rfl _ _ _) rfl ?_
  exact ⟨rfl,ob2,hW2.out,(wst_below hbw g ob).trans hS2⟩
def wordL (z : Int) : List Int:=[z % 256,z / 256 % 256,z / 65536 % 256,z / 16777216]
set_option maxRecDepth 100000 in
set_option maxHeartbeats 1000000 in
theorem word_c {w : World} {base g : Nat} {ob : Option Nat} {xs : List Value} {z : Int} (h0 : 0 ≤ z) (h1 : z ≤ 4294967295) (h : WrS w base g ob xs) (hbase : base ≤ w.heap.size) (hn : xs.length ≤ 4000000) :
    Calls Tryz.prog 86 #[.pointer (some ⟨g,0,none⟩),.int .u32 z] w (WrR base g ob (xs ++ byL (wordL z)) w):=by
  have hbw:=one_below w (.cells #[.int .u8 (z % 256),.int .u8 (z / 256 % 256),.int .u8 (z / 65536 % 256),.int .u8 (z / 16777216)] 5)
  have hsrc : SrcB (w.alloc (.cells #[.int .u8 (z % 256),.int .u8 (z / 256 % 256),.int .u8 (z / 65536 % 256),.int .u8 (z / 16777216)] 5)) (some ⟨w.heap.size,0,none⟩) 4 (wordL z):=by
    refine ⟨rfl,fun y hy=>?_,fun h=>(by cases h),fun ad ha j u hj=>?_⟩
    · simp only [wordL,List.mem_cons,List.not_mem_nil,or_false] at hy
      rcases hy with rfl | rfl | rfl | rfl <;> exact ⟨by omega,by omega⟩
    · cases ha
      rw [cell_add,Nat.zero_add]
      exact new_cell w _ 5 j u (by simpa [wordL,byL] using hj)
  have hC:=fun c=>bytesN_c (c:=c) (h.keep hbw) hsrc (Nat.le_trans hbase hbw.size) (by omega) (by omega)
  have hC:=Lib.hid hC
  clear hsrc h
  go_enter Tryz.func86,Tryz.ntmps86
  go_wp2_with (go_at_call 76;refine (hC.out _).mono ?_;rintro e w2 ⟨rfl,ob2,hW2,hS2⟩;have hW2:=Lib.hid hW2)
  refine bodyPost_end (results_none rfl _ _ _) rfl ?_
  exact ⟨rfl,ob2,hW2.out,(wst_below hbw g ob).trans hS2⟩
end Go.Ev

namespace Go.Ev
open Go.RowKit Go.Proofs Go.Rw
theorem numL_len9 (n : Nat) (h : n ≤ 4611686018427387904) : (byL (numL n)).length ≤ 9:=by
  rw [byL_length]
  exact numL_len 8 n (by omega)
theorem textL_len (s : ByteArray) (h : s.size ≤ 1000000) : (byL (textL s)).length ≤ s.size + 9:=by
  have:=numL_len 8 s.size (by omega)
  rw [byL_length,textL,List.length_append,strI_len]
  omega
theorem zig_le {z : Int} (h0 : -1000000000 ≤ z) (h1 : z ≤ 1000000000) : zig z ≤ 4611686018427387904:=by unfold zig;split <;> omega
theorem signed2_c {w : World} {base g : Nat} {ob : Option Nat} {xs : List Value} {z : Int} (h : WrS w base g ob xs) (hbase : base ≤ w.heap.size) (hn : xs.length ≤ 5000000) (h0 : -2147483648 ≤ z) (h1 : z ≤ 2147483647) :
    Calls Tryz.prog 171 #[.pointer (some ⟨g,0,none⟩),.int .i64 z] w (WrR base g ob (xs ++ byL (numL (zig z))) w):=by
  have h:=Lib.hid h
  by_cases c : z < 0
  · rw [show zig z = (-2 * z - 1).toNat from if_pos c]
    have e1 : wrap64 (-2 * z) = -2 * z:=by unfold wrap64;omega
    have e2 : wrap64 (-2 * z - 1) = -2 * z - 1:=by unfold wrap64;omega
    go_enter Tryz.func171,Tryz.ntmps171
    go_wp2_with (go_at_call 170;refine (number_i h.out hbase hn (by omega) (by omega)).mono ?_;rintro e w1 ⟨rfl,hr⟩)
    refine bodyPost_ret (results_none rfl _ _ _) rfl ?_
    exact ⟨rfl,hr⟩
  · rw [show zig z = (2 * z).toNat from if_neg c]
    have e1 : wrap64 (2 * z) = 2 * z:=by unfold wrap64;omega
    go_enter Tryz.func171,Tryz.ntmps171
    go_wp2_with (go_at_call 170;refine (number_i h.out hbase hn (by omega) (by omega)).mono ?_;rintro e w1 ⟨rfl,hr⟩)
    refine bodyPost_ret (results_none rfl _ _ _) rfl ?_
    exact ⟨rfl,hr⟩
def secL (x : SecT) (B : ByteArray) : List Int:=textL x.name ++ (numL x.rights.toNat ++ (numL x.align.toNat ++ ((numL x.bn ++ strI B) ++ numL x.zero.toNat)))
def symL (x : SymT) : List Int:=textL x.name ++ (numL (zig x.sec) ++ (numL x.val.toNat ++ (numL x.size.toNat ++ numL (x.bind + 4 * x.kind).toNat)))
def relL (x : RelT) : List Int:=numL x.sec.toNat ++ (numL x.off.toNat ++ (numL x.kind.toNat ++ (numL x.sym.toNat ++ numL (zig x.add))))
set_option maxRecDepth 100000 in
set_option maxHeartbeats 4000000 in
theorem wsec_c {w : World} {base g : Nat} {ob : Option Nat} {xs : List Value} (x : SecT) (B : ByteArray) (h : WrS w base g ob xs) (hbase : base ≤ w.heap.size) (hn : xs.length ≤ 3000000) (hg : base ≤ g) (hok : SecOk x) (hs : SrcB w x.ba x.bn (strI B)) (hd : ∀ ad,x.ba = some ad → 0 < x.bn → ad.block < base) (hbn : x.bn ≤ 65536) (hnm : x.name.size ≤ 1000) :
    Calls Tryz.prog 78 #[.pointer (some ⟨g,0,none⟩),.agg #[.string x.name,.int .i64 x.rights,.int .i64 x.align,.slice x.ba x.bn x.bc,.int .i64 x.zero]] w (WrR base g ob (xs ++ byL (secL x B)) w):=by
  obtain ⟨xn,xr,xa,xb,xl,xc,xz⟩:=x
  obtain ⟨-,⟨r0,r1⟩,⟨r2,r3⟩, -,r4,r5⟩:=hok
  dsimp only at *
  have hB:=hs.1
  have n1:=textL_len xn (by omega)
  have n2:=numL_len9 xr.toNat (by omega)
  have n3:=numL_len9 xa.toNat (by omega)
  have n4:=numL_len9 xl (by omega)
  have n5 : (byL (numL xl ++ strI B)).length ≤ 65545:=by rw [byL_append,List.length_append,byL_length (strI B)];omega
  obtain ⟨W,hW⟩ : ∃ W,W = w.alloc (.cells #[.string xn,.int .i64 xr,.int .i64 xa,.slice xb xl xc,.int .i64 xz] 66):=⟨_,rfl⟩
  have hbW : Below w.heap.size w W:=by rw [hW];exact one_below _ _
  have c0 : W.cell? ⟨w.heap.size,0,none⟩ = some (.string xn):=by rw [hW];exact new_cell w _ 66 0 _ rfl
  have c1 : W.cell? ⟨w.heap.size,1,none⟩ = some (.int .i64 xr):=by rw [hW];exact new_cell w _ 66 1 _ rfl
  have c2 : W.cell? ⟨w.heap.size,2,none⟩ = some (.int .i64 xa):=by rw [hW];exact new_cell w _ 66 2 _ rfl
  have c3 : W.cell? ⟨w.heap.size,3,none⟩ = some (.slice xb xl xc):=by rw [hW];exact new_cell w _ 66 3 _ rfl
  have c4 : W.cell? ⟨w.heap.size,4,none⟩ = some (.int .i64 xz):=by rw [hW];exact new_cell w _ 66 4 _ rfl
  have hlt:=h.lt
  have h0:=h.keep hbW
  have hbs : base ≤ W.heap.size:=Nat.le_trans hbase hbW.size
  have hg1 : w.heap.size ≠ g:=by have:=hlt.1;omega
  have hg2 : ob ≠ some w.heap.size:=fun e=>by have:=(hlt.2 _ e).2;omega
  have hs0:=hs.below hbW
  have hdd : ∀ ad,xb = some ad → 0 < xl → ad.block ≠ g ∧ ob ≠ some ad.block:=fun ad ha hp=>⟨by have:=hd ad ha hp;omega,fun e=>by have:=hd ad ha hp;have:=(hlt.2 _ e).1;omega⟩
  have h0:=Lib.hid h0
  clear h
  go_enter Tryz.func78,Tryz.ntmps78
  go_wp2_with fail
  rw [← hW]
  clear hW
  refine (text_c xn h0.out hbs (by omega) (by omega)).mono ?_
  rintro e w1 ⟨rfl,ob1,hW1,hS1⟩
  have h1:=Lib.hid hW1
  have hT1:=hS1
  clear hW1 hS1
  have hb1 : base ≤ w1.heap.size:=Nat.le_trans hbs hT1.size
  have d10:=hT1.cell c0 hg1 hg2
  have d11:=hT1.cell c1 hg1 hg2
  have d12:=hT1.cell c2 hg1 hg2
  have d13:=hT1.cell c3 hg1 hg2
  have d14:=hT1.cell c4 hg1 hg2
  go_wp2_with fail
  refine (number_i h1.out hb1 (by simp only [List.length_append];omega) (by omega) (by omega)).mono ?_
  rintro e w2 ⟨rfl,ob2,hW2,hS2⟩
  have h2:=Lib.hid hW2
  have hT2:=hT1.trans hS2
  clear hW2 hS2 hT1
  have hb2 : base ≤ w2.heap.size:=Nat.le_trans hbs hT2.size
  have d20:=hT2.cell c0 hg1 hg2
  have d21:=hT2.cell c1 hg1 hg2
  have d22:=hT2.cell c2 hg1 hg2
  have d23:=hT2.cell c3 hg1 hg2
  have d24:=hT2.cell c4 hg1 hg2
  clear d10 d11 d12 d13 d14
  go_wp2_with fail
  refine (number_i h2.out hb2 (by simp only [List.length_append];omega) (by omega) (by omega)).mono ?_
  rintro e w3 ⟨rfl,ob3,hW3,hS3⟩
  have h3:=Lib.hid hW3
  have hT3:=hT2.trans hS3
  clear hW3 hS3 hT2
  have hb3 : base ≤ w3.heap.size:=Nat.le_trans hbs hT3.size
  have d30:=hT3.cell c0 hg1 hg2
  have d31:=hT3.cell c1 hg1 hg2
  have d32:=hT3.cell c2 hg1 hg2
  have d33:=hT3.cell c3 hg1 hg2
  have d34:=hT3.cell c4 hg1 hg2
  clear d20 d21 d22 d23 d24
  go_wp2_with fail
  refine (counted_c h3.out (hs0.wst hT3 hdd) (fun ad ha hp=>⟨(hdd ad ha hp).1,fun e=>by have:=hd ad ha hp;have:=(h3.out.lt.2 _ e).1;omega⟩) hb3 (by simp only [List.length_append];omega) (by omega)).mono ?_
  rintro e w4 ⟨rfl,ob4,hW4,hS4⟩
  have h4:=Lib.hid hW4
  have hT4:=hT3.trans hS4
  clear hW4 hS4 hT3
  have hb4 : base ≤ w4.heap.size:=Nat.le_trans hbs hT4.size
  have d40:=hT4.cell c0 hg1 hg2
  have d41:=hT4.cell c1 hg1 hg2
  have d42:=hT4.cell c2 hg1 hg2
  have d43:=hT4.cell c3 hg1 hg2
  have d44:=hT4.cell c4 hg1 hg2
  clear d30 d31 d32 d33 d34
  go_wp2_with fail
  refine (number_i h4.out hb4 (by simp only [List.length_append];omega) (by omega) (by omega)).mono ?_
  rintro e w5 ⟨rfl,ob5,hW5,hS5⟩
  have h5:=Lib.hid hW5
  have hT5:=hT4.trans hS5
  clear hW5 hS5 hT4
  have hb5 : base ≤ w5.heap.size:=Nat.le_trans hbs hT5.size
  go_wp2
  refine bodyPost_end (results_none rfl _ _ _) rfl ?_
  refine ⟨rfl,ob5,?_,(wst_below hbW g ob).trans hT5⟩
  have:=h5.out
  simp only [byL_append,List.append_assoc] at this
  simp only [secL,byL_append,List.append_assoc]
  exact this
set_option maxRecDepth 100000 in
set_option maxHeartbeats 4000000 in
theorem wsym_c {w : World} {base g : Nat} {ob : Option Nat} {xs : List Value} (x : SymT) (h : WrS w base g ob xs) (hbase : base ≤ w.heap.size) (hn : xs.length ≤ 3000000) (hq : (-1000000000 ≤ x.sec ∧ x.sec ≤ 1000000000) ∧ (0 ≤ x.val ∧ x.val ≤ 4294967295) ∧ (0 ≤ x.size ∧ x.size ≤ 4294967295) ∧ (0 ≤ x.bind ∧ x.bind ≤ 2) ∧ (0 ≤ x.kind ∧ x.kind ≤ 2)) (hnm : x.name.size ≤ 1000) :
    Calls Tryz.prog 80 #[.pointer (some ⟨g,0,none⟩),.agg #[.string x.name,.int .i64 x.sec,.int .u32 x.val,.int .i64 x.size,.int .i64 x.bind,.int .i64 x.kind]] w (WrR base g ob (xs ++ byL (symL x)) w):=by
  obtain ⟨xn,xs1,xv,xz,xb,xk⟩:=x
  obtain ⟨⟨r0,r1⟩,⟨r2,r3⟩,⟨r4,r5⟩,⟨r6,r7⟩,r8,r9⟩:=hq
  dsimp only at *
  have n1:=textL_len xn (by omega)
  have n2:=numL_len9 (zig xs1) (zig_le r0 r1)
  have n3:=numL_len9 xv.toNat (by omega)
  have n4:=numL_len9 xz.toNat (by omega)
  obtain ⟨W,hW⟩ : ∃ W,W = w.alloc (.cells #[.string xn,.int .i64 xs1,.int .u32 xv,.int .i64 xz,.int .i64 xb,.int .i64 xk] 68):=⟨_,rfl⟩
  have hbW : Below w.heap.size w W:=by rw [hW];exact one_below _ _
  have c0 : W.cell? ⟨w.heap.size,0,none⟩ = some (.string xn):=by rw [hW];exact new_cell w _ 68 0 _ rfl
  have c1 : W.cell? ⟨w.heap.size,1,none⟩ = some (.int .i64 xs1):=by rw [hW];exact new_cell w _ 68 1 _ rfl
  have c2 : W.cell? ⟨w.heap.size,2,none⟩ = some (.int .u32 xv):=by rw [hW];exact new_cell w _ 68 2 _ rfl
  have c3 : W.cell? ⟨w.heap.size,3,none⟩ = some (.int .i64 xz):=by rw [hW];exact new_cell w _ 68 3 _ rfl
  have c4 : W.cell? ⟨w.heap.size,4,none⟩ = some (.int .i64 xb):=by rw [hW];exact new_cell w _ 68 4 _ rfl
  have c5 : W.cell? ⟨w.heap.size,5,none⟩ = some (.int .i64 xk):=by rw [hW];exact new_cell w _ 68 5 _ rfl
  have hlt:=h.lt
  have h0:=h.keep hbW
  have hbs : base ≤ W.heap.size:=Nat.le_trans hbase hbW.size
  have hg1 : w.heap.size ≠ g:=by have:=hlt.1;omega
  have hg2 : ob ≠ some w.heap.size:=fun e=>by have:=(hlt.2 _ e).2;omega
  have h0:=Lib.hid h0
  clear h
  go_enter Tryz.func80,Tryz.ntmps80
  go_wp2_with fail
  rw [← hW]
  clear hW
  refine (text_c xn h0.out hbs (by omega) (by omega)).mono ?_
  rintro e w1 ⟨rfl,ob1,hW1,hS1⟩
  have h1:=Lib.hid hW1
  have hT1:=hS1
  clear hW1 hS1
  have hb1 : base ≤ w1.heap.size:=Nat.le_trans hbs hT1.size
  have d10:=hT1.cell c0 hg1 hg2
  have d11:=hT1.cell c1 hg1 hg2
  have d12:=hT1.cell c2 hg1 hg2
  have d13:=hT1.cell c3 hg1 hg2
  have d14:=hT1.cell c4 hg1 hg2
  have d15:=hT1.cell c5 hg1 hg2
  go_wp2_with fail
  refine (signed_c h1.out hb1 (by simp only [List.length_append];omega) (by omega) (by omega)).mono ?_
  rintro e w2 ⟨rfl,ob2,hW2,hS2⟩
  have h2:=Lib.hid hW2
  have hT2:=hT1.trans hS2
  clear hW2 hS2 hT1
  have hb2 : base ≤ w2.heap.size:=Nat.le_trans hbs hT2.size
  have d20:=hT2.cell c0 hg1 hg2
  have d21:=hT2.cell c1 hg1 hg2
  have d22:=hT2.cell c2 hg1 hg2
  have d23:=hT2.cell c3 hg1 hg2
  have d24:=hT2.cell c4 hg1 hg2
  have d25:=hT2.cell c5 hg1 hg2
  clear d10 d11 d12 d13 d14 d15
  go_wp2_with fail
  refine (number_i h2.out hb2 (by simp only [List.length_append];omega) (by omega) (by omega)).mono ?_
  rintro e w3 ⟨rfl,ob3,hW3,hS3⟩
  have h3:=Lib.hid hW3
  have hT3:=hT2.trans hS3
  clear hW3 hS3 hT2
  have hb3 : base ≤ w3.heap.size:=Nat.le_trans hbs hT3.size
  have d30:=hT3.cell c0 hg1 hg2
  have d31:=hT3.cell c1 hg1 hg2
  have d32:=hT3.cell c2 hg1 hg2
  have d33:=hT3.cell c3 hg1 hg2
  have d34:=hT3.cell c4 hg1 hg2
  have d35:=hT3.cell c5 hg1 hg2
  clear d20 d21 d22 d23 d24 d25
  go_wp2_with fail
  refine (number_i h3.out hb3 (by simp only [List.length_append];omega) (by omega) (by omega)).mono ?_
  rintro e w4 ⟨rfl,ob4,hW4,hS4⟩
  have h4:=Lib.hid hW4
  have hT4:=hT3.trans hS4
  clear hW4 hS4 hT3
  have hb4 : base ≤ w4.heap.size:=Nat.le_trans hbs hT4.size
  have d40:=hT4.cell c0 hg1 hg2
  have d41:=hT4.cell c1 hg1 hg2
  have d42:=hT4.cell c2 hg1 hg2
  have d43:=hT4.cell c3 hg1 hg2
  have d44:=hT4.cell c4 hg1 hg2
  have d45:=hT4.cell c5 hg1 hg2
  clear d30 d31 d32 d33 d34 d35
  go_wp2_with fail
  refine (number_i h4.out hb4 (by simp only [List.length_append];omega) (by omega) (by omega)).mono ?_
  rintro e w5 ⟨rfl,ob5,hW5,hS5⟩
  have h5:=Lib.hid hW5
  have hT5:=hT4.trans hS5
  clear hW5 hS5 hT4
  have hb5 : base ≤ w5.heap.size:=Nat.le_trans hbs hT5.size
  go_wp2
  refine bodyPost_end (results_none rfl _ _ _) rfl ?_
  refine ⟨rfl,ob5,?_,(wst_below hbW g ob).trans hT5⟩
  have:=h5.out
  simp only [byL_append,List.append_assoc] at this
  simp only [symL,byL_append,List.append_assoc]
  exact this
set_option maxRecDepth 100000 in
set_option maxHeartbeats 4000000 in
theorem wrel_c {w : World} {base g : Nat} {ob : Option Nat} {xs : List Value} (x : RelT) (h : WrS w base g ob xs) (hbase : base ≤ w.heap.size) (hn : xs.length ≤ 3000000) (hq : (0 ≤ x.sec ∧ x.sec ≤ 1000000000) ∧ (0 ≤ x.off ∧ x.off ≤ 1000000000) ∧ (0 ≤ x.kind ∧ x.kind ≤ 1000000000) ∧ (0 ≤ x.sym ∧ x.sym ≤ 1000000000) ∧ (-2147483648 ≤ x.add ∧ x.add ≤ 2147483647)) :
    Calls Tryz.prog 82 #[.pointer (some ⟨g,0,none⟩),.agg #[.int .i64 x.sec,.int .i64 x.off,.int .i64 x.kind,.int .i64 x.sym,.int .i64 x.add]] w (WrR base g ob (xs ++ byL (relL x)) w):=by
  obtain ⟨xs1,xo,xk,xy,xa⟩:=x
  obtain ⟨⟨r0,r1⟩,⟨r2,r3⟩,⟨r4,r5⟩,⟨r6,r7⟩,r8,r9⟩:=hq
  dsimp only at *
  have n1:=numL_len9 xs1.toNat (by omega)
  have n2:=numL_len9 xo.toNat (by omega)
  have n3:=numL_len9 xk.toNat (by omega)
  have n4:=numL_len9 xy.toNat (by omega)
  obtain ⟨W,hW⟩ : ∃ W,W = w.alloc (.cells #[.int .i64 xs1,.int .i64 xo,.int .i64 xk,.int .i64 xy,.int .i64 xa] 94):=⟨_,rfl⟩
  have hbW : Below w.heap.size w W:=by rw [hW];exact one_below _ _
  have c0 : W.cell? ⟨w.heap.size,0,none⟩ = some (.int .i64 xs1):=by rw [hW];exact new_cell w _ 94 0 _ rfl
  have c1 : W.cell? ⟨w.heap.size,1,none⟩ = some (.int .i64 xo):=by rw [hW];exact new_cell w _ 94 1 _ rfl
  have c2 : W.cell? ⟨w.heap.size,2,none⟩ = some (.int .i64 xk):=by rw [hW];exact new_cell w _ 94 2 _ rfl
  have c3 : W.cell? ⟨w.heap.size,3,none⟩ = some (.int .i64 xy):=by rw [hW];exact new_cell w _ 94 3 _ rfl
  have c4 : W.cell? ⟨w.heap.size,4,none⟩ = some (.int .i64 xa):=by rw [hW];exact new_cell w _ 94 4 _ rfl
  have hlt:=h.lt
  have h0:=h.keep hbW
  have hbs : base ≤ W.heap.size:=Nat.le_trans hbase hbW.size
  have hg1 : w.heap.size ≠ g:=by have:=hlt.1;omega
  have hg2 : ob ≠ some w.heap.size:=fun e=>by have:=(hlt.2 _ e).2;omega
  have h0:=Lib.hid h0
  clear h
  go_enter Tryz.func82,Tryz.ntmps82
  go_wp2_with fail
  rw [← hW]
  clear hW
  refine (number_i h0.out hbs (by omega) (by omega) (by omega)).mono ?_
  rintro e w1 ⟨rfl,ob1,hW1,hS1⟩
  have h1:=Lib.hid hW1
  have hT1:=hS1
  clear hW1 hS1
  have hb1 : base ≤ w1.heap.size:=Nat.le_trans hbs hT1.size
  have d10:=hT1.cell c0 hg1 hg2
  have d11:=hT1.cell c1 hg1 hg2
  have d12:=hT1.cell c2 hg1 hg2
  have d13:=hT1.cell c3 hg1 hg2
  have d14:=hT1.cell c4 hg1 hg2
  go_wp2_with fail
  refine (number_i h1.out hb1 (by simp only [List.length_append];omega) (by omega) (by omega)).mono ?_
  rintro e w2 ⟨rfl,ob2,hW2,hS2⟩
  have h2:=Lib.hid hW2
  have hT2:=hT1.trans hS2
  clear hW2 hS2 hT1
  have hb2 : base ≤ w2.heap.size:=Nat.le_trans hbs hT2.size
  have d20:=hT2.cell c0 hg1 hg2
  have d21:=hT2.cell c1 hg1 hg2
  have d22:=hT2.cell c2 hg1 hg2
  have d23:=hT2.cell c3 hg1 hg2
  have d24:=hT2.cell c4 hg1 hg2
  clear d10 d11 d12 d13 d14
  go_wp2_with fail
  refine (number_i h2.out hb2 (by simp only [List.length_append];omega) (by omega) (by omega)).mono ?_
  rintro e w3 ⟨rfl,ob3,hW3,hS3⟩
  have h3:=Lib.hid hW3
  have hT3:=hT2.trans hS3
  clear hW3 hS3 hT2
  have hb3 : base ≤ w3.heap.size:=Nat.le_trans hbs hT3.size
  have d30:=hT3.cell c0 hg1 hg2
  have d31:=hT3.cell c1 hg1 hg2
  have d32:=hT3.cell c2 hg1 hg2
  have d33:=hT3.cell c3 hg1 hg2
  have d34:=hT3.cell c4 hg1 hg2
  clear d20 d21 d22 d23 d24
  go_wp2_with fail
  refine (number_i h3.out hb3 (by simp only [List.length_append];omega) (by omega) (by omega)).mono ?_
  rintro e w4 ⟨rfl,ob4,hW4,hS4⟩
  have h4:=Lib.hid hW4
  have hT4:=hT3.trans hS4
  clear hW4 hS4 hT3
  have hb4 : base ≤ w4.heap.size:=Nat.le_trans hbs hT4.size
  have d40:=hT4.cell c0 hg1 hg2
  have d41:=hT4.cell c1 hg1 hg2
  have d42:=hT4.cell c2 hg1 hg2
  have d43:=hT4.cell c3 hg1 hg2
  have d44:=hT4.cell c4 hg1 hg2
  clear d30 d31 d32 d33 d34
  go_wp2_with fail
  refine (signed2_c h4.out hb4 (by simp only [List.length_append];omega) (by omega) (by omega)).mono ?_
  rintro e w5 ⟨rfl,ob5,hW5,hS5⟩
  have h5:=Lib.hid hW5
  have hT5:=hT4.trans hS5
  clear hW5 hS5 hT4
  have hb5 : base ≤ w5.heap.size:=Nat.le_trans hbs hT5.size
  go_wp2
  refine bodyPost_end (results_none rfl _ _ _) rfl ?_
  refine ⟨rfl,ob5,?_,(wst_below hbW g ob).trans hT5⟩
  have:=h5.out
  simp only [byL_append,List.append_assoc] at this
  simp only [relL,byL_append,List.append_assoc]
  exact this
end Go.Ev

namespace Go.Ev
open Go.RowKit Go.Proofs Go.Rw
def listL {α : Type} (f : α → List Int) (l : List α) : List Int:=numL l.length ++ l.flatMap f
theorem flat_take_le {α : Type} (f : α → List Int) (l : List α) (k : Nat) : ((l.take k).flatMap f).length ≤ (l.flatMap f).length:=by
  conv=>rhs;rw [← List.take_append_drop k l,List.flatMap_append,List.length_append]
  omega
theorem strOf_foldl : ∀ (l : List Int) (r : ByteArray),(l.foldl (fun r n=>r.push (UInt8.ofNat n.toNat)) r).data.toList = r.data.toList ++ l.map fun n=>UInt8.ofNat n.toNat
  | [],r=>by simp
  | z :: l,r=>by
    simp only [List.foldl_cons]
    rw [strOf_foldl l]
    simp [ByteArray.push]
theorem strI_strOf (n : Nat) (q : Nat → Int) (hq : ∀ j,InB (q j)) : strI (strOf n q) = (List.range n).map q:=by
  unfold strI strOf
  rw [strOf_foldl]
  simp only [List.map_append,List.map_map]
  rw [show ByteArray.empty.data.toList = [] from rfl]
  simp only [List.map_nil,List.nil_append]
  refine List.map_congr_left fun j _=>?_
  obtain ⟨h0,h1⟩:=hq j
  simp only [Function.comp]
  have : (UInt8.ofNat (q j).toNat).toNat = (q j).toNat:=by
    simp
    omega
  rw [this]
  omega
theorem srcB_of {w : World} {a : Option Addr} {n : Nat} {B : ByteArray} (h : SecIn w a n B) : SrcB w a n (strI B):=by
  rcases h with ⟨rfl,rfl⟩ | ⟨b,o,q,rfl,rfl,hq,hc⟩
  · have e : strI (strOf 0 fun _=>0) = []:=by rw [strI_strOf 0 _ (fun _=>⟨by omega,by omega⟩)];rfl
    rw [e]
    exact ⟨rfl,fun y hy=>(by cases hy),fun _=>rfl,fun ad _ j u hj=>by simp [byL] at hj⟩
  · rw [strI_strOf n q hq]
    refine ⟨by simp,fun y hy=>?_,fun h=>(by cases h),fun ad ha j u hj=>?_⟩
    · obtain ⟨j,_,rfl⟩:=List.mem_map.1 hy
      exact hq j
    · cases ha
      rw [cell_add]
      unfold byL at hj
      rw [List.map_map] at hj
      have hjn : j < n:=by have:=(List.getElem?_eq_some_iff.1 hj).1;simpa using this
      rw [List.getElem?_map,List.getElem?_range hjn] at hj
      cases hj
      exact hc j hjn
theorem secIn_low {w : World} {a : Option Addr} {n : Nat} {B : ByteArray} (h : SecIn w a n B) {ad : Addr} (ha : a = some ad) (hp : 0 < n) : ad.block < w.heap.size:=by
  rcases h with ⟨rfl,_⟩ | ⟨b,o,q,h1,_,_,hc⟩
  · omega
  · rw [h1] at ha
    cases ha
    exact low_of_cell (hc 0 hp)
def secL2 (C : SecT → ByteArray) (x : SecT) : List Int:=secL x (C x)
set_option maxRecDepth 100000 in
set_option maxHeartbeats 4000000 in
theorem wlist_sec {W0 w : World} {g : Nat} {ob : Option Nat} {xs : List Value} {s : Value} {l : List SecT} (hB : Below W0.heap.size W0 w) (hg : W0.heap.size ≤ g) (h : WrS w W0.heap.size g ob xs) (hr : RowsAt W0 s SecT.cells 5 l) (hl : l.length ≤ 4000) {C : SecT → ByteArray} (hx : ∀ x ∈ l,SecOk x ∧ SecIn W0 x.ba x.bn (C x) ∧ x.bn ≤ 65536 ∧ x.name.size ≤ 1000) (hn : xs.length + (l.flatMap (secL2 C)).length ≤ 2900000) :
    Calls Tryz.prog 77 #[.pointer (some ⟨g,0,none⟩),s,.func (.func 78) #[] #[]] w (WrR W0.heap.size g ob (xs ++ byL (listL (secL2 C) l)) w):=by
  obtain ⟨a,c,rfl⟩:=rows_slice hr
  have ecb : ∀ args w,(callFunc 78 args).run Tryz.prog w = .ok (.enter 78 args) w:=enters_of Tryz.func78 (by kernel_rfl) rfl
  have hnum:=number_c h hB.size (by omega) (n:=l.length) (by omega)
  have hn9:=numL_len9 l.length (by omega)
  have hlt:=h.lt
  clear h
  go_enter Tryz.func77,Tryz.ntmps77
  go_wp2_with (go_at_call 170;refine hnum.mono ?_;rintro e w1 ⟨rfl,ob1,hW1,hS1⟩;have hW1:=Lib.hid hW1)
  go_loopg [14] l.length (fun gn i wr=>∃ (k : Nat) (ob' : Option Nat),gn + k = l.length ∧ k ≤ l.length ∧ i = .int .i64 k ∧ WrS wr W0.heap.size g ob' (xs ++ byL (numL l.length ++ (l.take k).flatMap (secL2 C))) ∧ Wst w wr g ob ob')
  case atStart=>exact ⟨0,ob1,by omega,by omega,rfl,by simpa using hW1.out,hS1⟩
  case round =>
    clear hW1 hS1
    obtain ⟨k,ob',hgk,hk,rfl,hW0,hS⟩:=hrel
    have hW:=Lib.hid hW0
    have hlt2:=hW0.lt
    clear hW0
    have hbb : Below W0.heap.size W0 wr:=hB.trans (hS.below hB.size hg (fun k e=>(hlt.2 k e).1))
    have hbs:=hbb.size
    by_cases hlt' : k < l.length
    · obtain ⟨b,of,rfl⟩:=rows_some2 hr hlt'
      have hlt1 : (k : Int) < (l.length : Int):=by omega
      obtain ⟨x,hx1⟩ : ∃ x,l[k]? = some x:=⟨l[k],by simp [hlt']⟩
      have hcond:=hx x (List.mem_of_getElem? hx1)
      have htk:=Lib.hid (show (l.take (k + 1)).flatMap (secL2 C) = (l.take k).flatMap (secL2 C) ++ secL x (C x) by rw [take_snoc hx1,List.flatMap_append];simp [secL2])
      have hln:=flat_take_le (secL2 C) l k
      have hlen : (xs ++ byL (numL l.length ++ (l.take k).flatMap (secL2 C))).length ≤ 3000000:=by
        rw [byL_length] at hn9
        rw [List.length_append,byL_length,List.length_append]
        omega
      obtain ⟨p0,p1,p2,p3,p4⟩:=rows_sec (hr.below hbb) hx1
      obtain ⟨q1,q2,q3,q4⟩:=id hcond
      have hcall:=wsec_c (w:=wr.alloc (.cells #[.string x.name,.int .i64 x.rights,.int .i64 x.align,.slice x.ba x.bn x.bc,.int .i64 x.zero] 66)) x (C x) (hW.out.alloc _) (by rw [World.size_alloc];omega) hlen hg q1 (srcB_of ((q2.below hbb).below (one_below _ _))) (fun ad ha hp=>secIn_low q2 ha hp) q3 q4
      have hcall:=Lib.hid hcall
      clear hx hx1 hr hcond
      obtain ⟨xn,xr,xa,xb,xl,xc,xz⟩:=x
      dsimp only at p0 p1 p2 p3 p4 hcall htk
      go_wp2_with (go_at_fn 78;refine hcall.out.mono ?_;rintro e w2 ⟨rfl,ob2,hW2,hS2⟩;have hW2:=Lib.hid hW2)
      have hS3:=(hS.alloc _).trans hS2
      go_roundg (gk - 1)
      case measure=>omega
      case rel =>
        refine ⟨k + 1,ob2,by omega,by omega,by go_num,?_,hS3⟩
        have:=hW2.out
        rw [List.append_assoc,← byL_append,List.append_assoc,← htk.out] at this
        exact this
    · obtain rfl : k = l.length:=by omega
      rw [List.take_length] at hW
      go_wp2
      refine bodyPost_end (results_none rfl _ _ _) rfl ?_
      exact ⟨rfl,ob',hW.out,hS⟩
set_option maxRecDepth 100000 in
set_option maxHeartbeats 4000000 in
theorem wlist_sym {W0 w : World} {g : Nat} {ob : Option Nat} {xs : List Value} {s : Value} {l : List SymT} (hB : Below W0.heap.size W0 w) (hg : W0.heap.size ≤ g) (h : WrS w W0.heap.size g ob xs) (hr : RowsAt W0 s SymT.cells 6 l) (hl : l.length ≤ 4000) (hx : ∀ x ∈ l,((-1000000000 ≤ x.sec ∧ x.sec ≤ 1000000000) ∧ (0 ≤ x.val ∧ x.val ≤ 4294967295) ∧ (0 ≤ x.size ∧ x.size ≤ 4294967295) ∧ (0 ≤ x.bind ∧ x.bind ≤ 2) ∧ (0 ≤ x.kind ∧ x.kind ≤ 2)) ∧ x.name.size ≤ 1000) (hn : xs.length + (l.flatMap symL).length ≤ 2900000) :
    Calls Tryz.prog 79 #[.pointer (some ⟨g,0,none⟩),s,.func (.func 80) #[] #[]] w (WrR W0.heap.size g ob (xs ++ byL (listL symL l)) w):=by
  obtain ⟨a,c,rfl⟩:=rows_slice hr
  have ecb : ∀ args w,(callFunc 80 args).run Tryz.prog w = .ok (.enter 80 args) w:=enters_of Tryz.func80 (by kernel_rfl) rfl
  have hnum:=number_c h hB.size (by omega) (n:=l.length) (by omega)
  have hn9:=numL_len9 l.length (by omega)
  have hlt:=h.lt
  clear h
  go_enter Tryz.func79,Tryz.ntmps79
  go_wp2_with (go_at_call 170;refine hnum.mono ?_;rintro e w1 ⟨rfl,ob1,hW1,hS1⟩;have hW1:=Lib.hid hW1)
  go_loopg [14] l.length (fun gn i wr=>∃ (k : Nat) (ob' : Option Nat),gn + k = l.length ∧ k ≤ l.length ∧ i = .int .i64 k ∧ WrS wr W0.heap.size g ob' (xs ++ byL (numL l.length ++ (l.take k).flatMap symL)) ∧ Wst w wr g ob ob')
  case atStart=>exact ⟨0,ob1,by omega,by omega,rfl,by simpa using hW1.out,hS1⟩
  case round =>
    clear hW1 hS1
    obtain ⟨k,ob',hgk,hk,rfl,hW0,hS⟩:=hrel
    have hW:=Lib.hid hW0
    have hlt2:=hW0.lt
    clear hW0
    have hbb : Below W0.heap.size W0 wr:=hB.trans (hS.below hB.size hg (fun k e=>(hlt.2 k e).1))
    have hbs:=hbb.size
    by_cases hlt' : k < l.length
    · obtain ⟨b,of,rfl⟩:=rows_some2 hr hlt'
      have hlt1 : (k : Int) < (l.length : Int):=by omega
      obtain ⟨x,hx1⟩ : ∃ x,l[k]? = some x:=⟨l[k],by simp [hlt']⟩
      have hcond:=hx x (List.mem_of_getElem? hx1)
      have htk:=Lib.hid (show (l.take (k + 1)).flatMap symL = (l.take k).flatMap symL ++ symL x by rw [take_snoc hx1,List.flatMap_append];simp [secL2])
      have hln:=flat_take_le symL l k
      have hlen : (xs ++ byL (numL l.length ++ (l.take k).flatMap symL)).length ≤ 3000000:=by
        rw [byL_length] at hn9
        rw [List.length_append,byL_length,List.length_append]
        omega
      obtain ⟨p0,p1,p2,p3,p4,p5⟩:=rows_sym (hr.below hbb) hx1
      have hcall:=wsym_c (w:=wr.alloc (.cells #[.string x.name,.int .i64 x.sec,.int .u32 x.val,.int .i64 x.size,.int .i64 x.bind,.int .i64 x.kind] 68)) x (hW.out.alloc _) (by rw [World.size_alloc];omega) hlen hcond.1 hcond.2
      have hcall:=Lib.hid hcall
      clear hx hx1 hr hcond
      obtain ⟨xn,xs1,xv,xz,xb,xk⟩:=x
      dsimp only at p0 p1 p2 p3 p4 hcall htk p5
      go_wp2_with (go_at_fn 80;refine hcall.out.mono ?_;rintro e w2 ⟨rfl,ob2,hW2,hS2⟩;have hW2:=Lib.hid hW2)
      have hS3:=(hS.alloc _).trans hS2
      go_roundg (gk - 1)
      case measure=>omega
      case rel =>
        refine ⟨k + 1,ob2,by omega,by omega,by go_num,?_,hS3⟩
        have:=hW2.out
        rw [List.append_assoc,← byL_append,List.append_assoc,← htk.out] at this
        exact this
    · obtain rfl : k = l.length:=by omega
      rw [List.take_length] at hW
      go_wp2
      refine bodyPost_end (results_none rfl _ _ _) rfl ?_
      exact ⟨rfl,ob',hW.out,hS⟩
set_option maxRecDepth 100000 in
set_option maxHeartbeats 4000000 in
theorem wlist_rel {W0 w : World} {g : Nat} {ob : Option Nat} {xs : List Value} {s : Value} {l : List RelT} (hB : Below W0.heap.size W0 w) (hg : W0.heap.size ≤ g) (h : WrS w W0.heap.size g ob xs) (hr : RowsAt W0 s RelT.cells 5 l) (hl : l.length ≤ 4000) (hx : ∀ x ∈ l,(0 ≤ x.sec ∧ x.sec ≤ 1000000000) ∧ (0 ≤ x.off ∧ x.off ≤ 1000000000) ∧ (0 ≤ x.kind ∧ x.kind ≤ 1000000000) ∧ (0 ≤ x.sym ∧ x.sym ≤ 1000000000) ∧ (-2147483648 ≤ x.add ∧ x.add ≤ 2147483647)) (hn : xs.length + (l.flatMap relL).length ≤ 2900000) :
    Calls Tryz.prog 81 #[.pointer (some ⟨g,0,none⟩),s,.func (.func 82) #[] #[]] w (WrR W0.heap.size g ob (xs ++ byL (listL relL l)) w):=by
  obtain ⟨a,c,rfl⟩:=rows_slice hr
  have ecb : ∀ args w,(callFunc 82 args).run Tryz.prog w = .ok (.enter 82 args) w:=enters_of Tryz.func82 (by kernel_rfl) rfl
  have hnum:=number_c h hB.size (by omega) (n:=l.length) (by omega)
  have hn9:=numL_len9 l.length (by omega)
  have hlt:=h.lt
  clear h
  go_enter Tryz.func81,Tryz.ntmps81
  go_wp2_with (go_at_call 170;refine hnum.mono ?_;rintro e w1 ⟨rfl,ob1,hW1,hS1⟩;have hW1:=Lib.hid hW1)
  go_loopg [14] l.length (fun gn i wr=>∃ (k : Nat) (ob' : Option Nat),gn + k = l.length ∧ k ≤ l.length ∧ i = .int .i64 k ∧ WrS wr W0.heap.size g ob' (xs ++ byL (numL l.length ++ (l.take k).flatMap relL)) ∧ Wst w wr g ob ob')
  case atStart=>exact ⟨0,ob1,by omega,by omega,rfl,by simpa using hW1.out,hS1⟩
  case round =>
    clear hW1 hS1
    obtain ⟨k,ob',hgk,hk,rfl,hW0,hS⟩:=hrel
    have hW:=Lib.hid hW0
    have hlt2:=hW0.lt
    clear hW0
    have hbb : Below W0.heap.size W0 wr:=hB.trans (hS.below hB.size hg (fun k e=>(hlt.2 k e).1))
    have hbs:=hbb.size
    by_cases hlt' : k < l.length
    · obtain ⟨b,of,rfl⟩:=rows_some2 hr hlt'
      have hlt1 : (k : Int) < (l.length : Int):=by omega
      obtain ⟨x,hx1⟩ : ∃ x,l[k]? = some x:=⟨l[k],by simp [hlt']⟩
      have hcond:=hx x (List.mem_of_getElem? hx1)
      have htk:=Lib.hid (show (l.take (k + 1)).flatMap relL = (l.take k).flatMap relL ++ relL x by rw [take_snoc hx1,List.flatMap_append];simp [secL2])
      have hln:=flat_take_le relL l k
      have hlen : (xs ++ byL (numL l.length ++ (l.take k).flatMap relL)).length ≤ 3000000:=by
        rw [byL_length] at hn9
        rw [List.length_append,byL_length,List.length_append]
        omega
      obtain ⟨p0,p1,p2,p3,p4⟩:=rows_rel (hr.below hbb) hx1
      have hcall:=wrel_c (w:=wr.alloc (.cells #[.int .i64 x.sec,.int .i64 x.off,.int .i64 x.kind,.int .i64 x.sym,.int .i64 x.add] 94)) x (hW.out.alloc _) (by rw [World.size_alloc];omega) hlen hcond
      have hcall:=Lib.hid hcall
      clear hx hx1 hr hcond
      obtain ⟨xs1,xo,xk,xy,xa⟩:=x
      dsimp only at p0 p1 p2 p3 p4 hcall htk
      go_wp2_with (go_at_fn 82;refine hcall.out.mono ?_;rintro e w2 ⟨rfl,ob2,hW2,hS2⟩;have hW2:=Lib.hid hW2)
      have hS3:=(hS.alloc _).trans hS2
      go_roundg (gk - 1)
      case measure=>omega
      case rel =>
        refine ⟨k + 1,ob2,by omega,by omega,by go_num,?_,hS3⟩
        have:=hW2.out
        rw [List.append_assoc,← byL_append,List.append_assoc,← htk.out] at this
        exact this
    · obtain rfl : k = l.length:=by omega
      rw [List.take_length] at hW
      go_wp2
      refine bodyPost_end (results_none rfl _ _ _) rfl ?_
      exact ⟨rfl,ob',hW.out,hS⟩
set_option maxRecDepth 100000 in
set_option maxHeartbeats 4000000 in
theorem wlist_file {W0 w : World} {g : Nat} {ob : Option Nat} {xs : List Value} {s : Value} {l : List ByteArray} (hB : Below W0.heap.size W0 w) (hg : W0.heap.size ≤ g) (h : WrS w W0.heap.size g ob xs) (hr : RowsAt W0 s fileCells 1 l) (hl : l.length ≤ 4000) (hx : ∀ x ∈ l,x.size ≤ 1000) (hn : xs.length + (l.flatMap textL).length ≤ 2900000) :
    Calls Tryz.prog 83 #[.pointer (some ⟨g,0,none⟩),s,.func (.func 84) #[] #[]] w (WrR W0.heap.size g ob (xs ++ byL (listL textL l)) w):=by
  obtain ⟨a,c,rfl⟩:=rows_slice hr
  have ecb : ∀ args w,(callFunc 84 args).run Tryz.prog w = .ok (.enter 84 args) w:=enters_of Tryz.func84 (by kernel_rfl) rfl
  have hnum:=number_c h hB.size (by omega) (n:=l.length) (by omega)
  have hn9:=numL_len9 l.length (by omega)
  have hlt:=h.lt
  clear h
  go_enter Tryz.func83,Tryz.ntmps83
  go_wp2_with (go_at_call 170;refine hnum.mono ?_;rintro e w1 ⟨rfl,ob1,hW1,hS1⟩;have hW1:=Lib.hid hW1)
  go_loopg [14] l.length (fun gn i wr=>∃ (k : Nat) (ob' : Option Nat),gn + k = l.length ∧ k ≤ l.length ∧ i = .int .i64 k ∧ WrS wr W0.heap.size g ob' (xs ++ byL (numL l.length ++ (l.take k).flatMap textL)) ∧ Wst w wr g ob ob')
  case atStart=>exact ⟨0,ob1,by omega,by omega,rfl,by simpa using hW1.out,hS1⟩
  case round =>
    clear hW1 hS1
    obtain ⟨k,ob',hgk,hk,rfl,hW0,hS⟩:=hrel
    have hW:=Lib.hid hW0
    have hlt2:=hW0.lt
    clear hW0
    have hbb : Below W0.heap.size W0 wr:=hB.trans (hS.below hB.size hg (fun k e=>(hlt.2 k e).1))
    have hbs:=hbb.size
    by_cases hlt' : k < l.length
    · obtain ⟨b,of,rfl⟩:=rows_some2 hr hlt'
      have hlt1 : (k : Int) < (l.length : Int):=by omega
      obtain ⟨x,hx1⟩ : ∃ x,l[k]? = some x:=⟨l[k],by simp [hlt']⟩
      have hcond:=hx x (List.mem_of_getElem? hx1)
      have htk:=Lib.hid (show (l.take (k + 1)).flatMap textL = (l.take k).flatMap textL ++ textL x by rw [take_snoc hx1,List.flatMap_append];simp [secL2])
      have hln:=flat_take_le textL l k
      have hlen : (xs ++ byL (numL l.length ++ (l.take k).flatMap textL)).length ≤ 3000000:=by
        rw [byL_length] at hn9
        rw [List.length_append,byL_length,List.length_append]
        omega
      have p0:=rows_file (hr.below hbb) hx1
      have hcall:=Lib.hid (text_c (w:=wr) x hW.out hbs (by omega) (by omega))
      clear hx hx1 hr hcond
      go_wp2_with (go_at_fn 84;refine hcall.out.mono ?_;rintro e w2 ⟨rfl,ob2,hW2,hS2⟩;have hW2:=Lib.hid hW2)
      have hS3:=hS.trans hS2
      go_roundg (gk - 1)
      case measure=>omega
      case rel =>
        refine ⟨k + 1,ob2,by omega,by omega,by go_num,?_,hS3⟩
        have:=hW2.out
        rw [List.append_assoc,← byL_append,List.append_assoc,← htk.out] at this
        exact this
    · obtain rfl : k = l.length:=by omega
      rw [List.take_length] at hW
      go_wp2
      refine bodyPost_end (results_none rfl _ _ _) rfl ?_
      exact ⟨rfl,ob',hW.out,hS⟩
end Go.Ev

