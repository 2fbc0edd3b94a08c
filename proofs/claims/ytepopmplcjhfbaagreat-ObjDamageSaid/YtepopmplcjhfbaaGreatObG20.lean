import Derived.Test.YtepopmplcjhfbaaGreatObG19
import Derived.Laws.BitsAllLaws
import Derived.Outline
import Derived.LoopN
import Derived.Lib.Hide
import Derived.Lib.AppendZeros
import Derived.Laws.AppendOwnNone
set_option linter.unusedSectionVars false
set_option linter.unusedVariables false
set_option linter.unusedSimpArgs false
set_option linter.unnecessarySimpa false
namespace Go.Ev
open Go.RowKit Go.Proofs Go.Rw
theorem fileAt_row {w : World} {base c n : Nat} {a : Option Addr} {L : List Int} (h : w.ownsRow base 5 1 (.slice a n c) n (byL L)) (hL : ∀ z ∈ L,0 ≤ z ∧ z < 256) : FileAt w a n (toN L):=by
  have hl : L.length = n:=by have:=h.1;rw [byL_length] at this;omega
  refine ⟨by rw [toN_len];exact hl,fun x hx=>?_,?_⟩
  · obtain ⟨z,hz,rfl⟩:=List.mem_map.1 hx
    have:=hL z hz
    omega
  · have:=owns_bytes h
    have e : (fun j=>(((toN L).getD j 0 : Nat) : Int)) = fun j=>L.getD j 0:=funext fun j=>toN_get hL j
    rw [e]
    exact this
theorem fileAt_arg {w : World} {a : Option Addr} {n : Nat} {q : Nat → Int} (hb : BytesAt w a n q) (hi : ∀ j,InB (q j)) : ∃ all,FileAt w a n all:=by
  have e : ∀ j,j < n → ((((List.range n).map fun j=>(q j).toNat).getD j 0 : Nat) : Int) = q j:=fun j hj=>by
    have h3:=hi j
    unfold InB at h3
    have e : (((List.range n).map fun j=>(q j).toNat).getD j 0 : Nat) = (q j).toNat:=by simp [List.getD,hj]
    rw [e,Int.toNat_of_nonneg h3.1]
  refine ⟨(List.range n).map fun j=>(q j).toNat,by simp,fun x hx=>?_,?_⟩
  · obtain ⟨j,_,rfl⟩:=List.mem_map.1 hx
    have:=hi j
    unfold InB at this
    omega
  · rcases hb with h | ⟨b,o,rfl,h⟩
    · exact .inl h
    · exact .inr ⟨b,o,rfl,fun j hj=>(h j hj).trans (by dsimp only;rw [e j hj])⟩
theorem FileAt.below {w w' : World} {a : Option Addr} {n : Nat} {all : List Nat} (h : FileAt w a n all) (hb : Below w.heap.size w w') : FileAt w' a n all:=⟨h.1,h.2.1,h.2.2.below hb⟩
theorem FileAt.sec {w : World} {a : Option Addr} {n : Nat} {all : List Nat} (h : FileAt w a n all) : ∃ X,SecIn w a n X ∧ toN (strI X) = all:=by
  rcases h.2.2 with ⟨rfl,rfl⟩ | ⟨b,o,rfl,hc⟩
  · have : all = []:=List.eq_nil_of_length_eq_zero h.1
    subst this
    exact ⟨strOf 0 (fun _=>0),.inl ⟨rfl,rfl⟩,strI_strOf2 rfl (fun _=>⟨by omega,by omega⟩) (fun j hj=>by omega)⟩
  · exact secIn_of h.1 h.2.1 hc
def nilObj : ObjT:=⟨[],[],[],[],[]⟩
theorem nilObj_at (w : World) : ObjAt w (.agg #[.slice none 0 0,.slice none 0 0,.slice none 0 0,.slice none 0 0,.slice none 0 0]) nilObj :=
  ⟨_,_,_,_,_,rfl,⟨none,0,rfl,.inl rfl⟩,⟨none,0,rfl,.inl rfl⟩,⟨none,0,rfl,.inl rfl⟩,⟨none,0,rfl,.inl rfl⟩,⟨none,0,rfl,.inl rfl⟩⟩
theorem nilObj_R : nilObj.R:=by unfold ObjT.R nilObj;simp
theorem nil_same (w : World) : Calls Tryz.prog 20 #[.agg #[.slice none 0 0,.slice none 0 0,.slice none 0 0,.slice none 0 0,.slice none 0 0],.agg #[.slice none 0 0,.slice none 0 0,.slice none 0 0,.slice none 0 0,.slice none 0 0]] w (BelR true w):=by
  have:=rsame_c (C:=fun _=>⟨#[]⟩) (nilObj_at w) (nilObj_at w) nilObj_R nilObj_R (fun _ h=>by cases h) (fun _ h=>by cases h)
  rwa [dec_yes (objEq_refl _ _)] at this
theorem fileL_len {o : ObjT} {C : SecT → ByteArray} (h : ObjOk o) (hR : o.R) (hb : ∀ x ∈ o.secs,(C x).size = x.bn) : (fileL o C).length ≤ 2000000:=by
  obtain ⟨l1,l2,l3,l4,l5,l6⟩:=below_len h hR hb
  have m1:=listL_len (secL2 C) o.secs (by have:=h.1.1;omega)
  have m2:=listL_len symL o.syms (by have:=h.2.1.1;omega)
  have m3:=listL_len relL o.rels (by have:=h.2.2.1.1;omega)
  have m4:=listL_len textL o.files (by have:=h.2.2.2.1.1;omega)
  unfold fileL bodyL
  simp only [List.length_append,List.length_cons,List.length_nil,wordL]
  omega
theorem fileL_in {o : ObjT} {C : SecT → ByteArray} (h : ObjOk o) : ∀ z ∈ fileL o C,0 ≤ z ∧ z < 256:=fun z hz=>by
  unfold fileL at hz
  rcases List.mem_append.1 hz with hz | hz
  · have:=bodyL_in h z hz
    unfold InB at this
    omega
  · have hs:=sumL_in (bodyL o C)
    simp only [wordL,List.mem_cons,List.not_mem_nil,or_false] at hz
    rcases hz with rfl | rfl | rfl | rfl <;> omega
end Go.Ev

namespace Go.Ev
def poly : Nat:=3988292384
def c1 (z : Nat) : Nat:=if z % 2 = 1 then (z / 2) ^^^ poly else z / 2
def cN : Nat → Nat → Nat
  | 0,z=>z
  | j + 1,z=>c1 (cN j z)
theorem xor_half (a b : Nat) : (a ^^^ b) / 2 = a / 2 ^^^ b / 2:=by
  apply Nat.eq_of_testBit_eq
  intro i
  rw [Nat.testBit_xor,← Nat.testBit_succ,← Nat.testBit_succ,← Nat.testBit_succ,Nat.testBit_xor]
theorem xor_odd (a b : Nat) : ((a ^^^ b) % 2 = 1) ↔ ¬ (a % 2 = 1 ↔ b % 2 = 1):=by
  have h:=Nat.testBit_xor a b 0
  rw [Nat.testBit_zero,Nat.testBit_zero,Nat.testBit_zero] at h
  by_cases ha : a % 2 = 1 <;> by_cases hb : b % 2 = 1 <;> simp_all
theorem c1_xor (a b : Nat) : c1 (a ^^^ b) = c1 a ^^^ c1 b:=by
  unfold c1
  have h:=xor_odd a b
  by_cases ha : a % 2 = 1
  · by_cases hb : b % 2 = 1
    · rw [if_neg (by rw [h];simp [ha,hb]),if_pos ha,if_pos hb,xor_half]
      rw [Nat.xor_assoc,Nat.xor_comm (b / 2) poly,← Nat.xor_assoc poly poly,Nat.xor_self,Nat.zero_xor]
    · rw [if_pos (by rw [h];simp [ha,hb]),if_pos ha,if_neg hb,xor_half]
      rw [Nat.xor_assoc,Nat.xor_assoc,Nat.xor_comm (b / 2) poly]
  · by_cases hb : b % 2 = 1
    · rw [if_pos (by rw [h];simp [ha,hb]),if_neg ha,if_pos hb,xor_half,Nat.xor_assoc]
    · rw [if_neg (by rw [h];simp [ha,hb]),if_neg ha,if_neg hb,xor_half]
theorem c1_zero : c1 0 = 0:=by decide
theorem c1_lt {z : Nat} (h : z < 4294967296) : c1 z < 4294967296:=by
  unfold c1
  split
  · exact Nat.xor_lt_two_pow (n:=32) (by omega) (by decide)
  · omega
theorem c1_none {z : Nat} (h : z < 4294967296) (h0 : c1 z = 0) : z = 0:=by
  unfold c1 at h0
  split at h0
  · have h1 : z / 2 = poly:=by
      have h2 : (z / 2) ^^^ poly ^^^ poly = 0 ^^^ poly:=by rw [h0]
      rw [Nat.xor_assoc,Nat.xor_self,Nat.xor_zero,Nat.zero_xor] at h2
      exact h2
    unfold poly at h1
    omega
  · omega
theorem cN_xor (a b : Nat) : ∀ j,cN j (a ^^^ b) = cN j a ^^^ cN j b
  | 0=>rfl
  | j + 1=>by unfold cN;rw [cN_xor a b j,c1_xor]
theorem cN_zero : ∀ j,cN j 0 = 0
  | 0=>rfl
  | j + 1=>by unfold cN;rw [cN_zero j,c1_zero]
theorem cN_lt {z : Nat} (h : z < 4294967296) : ∀ j,cN j z < 4294967296
  | 0=>h
  | j + 1=>c1_lt (cN_lt h j)
theorem cN_none {z : Nat} (h : z < 4294967296) : ∀ j,cN j z = 0 → z = 0
  | 0,h0=>h0
  | j + 1,h0=>cN_none h j (c1_none (cN_lt h j) h0)
theorem cN_add (z : Nat) (i : Nat) : ∀ j,cN (i + j) z = cN j (cN i z)
  | 0=>rfl
  | j + 1=>by rw [← Nat.add_assoc];unfold cN;rw [cN_add z i j]
theorem c1_even (k : Nat) : c1 (2 * k) = k:=by
  unfold c1
  rw [if_neg (by omega)]
  omega
theorem cN_shift (m : Nat) : cN 8 (256 * m) = m:=by
  have e : cN 8 (256 * m) = c1 (c1 (c1 (c1 (c1 (c1 (c1 (c1 (256 * m)))))))):=rfl
  rw [e,show 256 * m = 2 * (128 * m) by omega,c1_even,show 128 * m = 2 * (64 * m) by omega,c1_even,show 64 * m = 2 * (32 * m) by omega,c1_even,show 32 * m = 2 * (16 * m) by omega,c1_even,show 16 * m = 2 * (8 * m) by omega,c1_even,show 8 * m = 2 * (4 * m) by omega,c1_even,show 4 * m = 2 * (2 * m) by omega,c1_even,c1_even]
theorem byte_xor {e : Nat} (he : e < 256) (m : Nat) : e + 256 * m = e ^^^ (256 * m):=by
  apply Nat.eq_of_testBit_eq
  intro i
  have h1:=Nat.testBit_two_pow_mul_add m (b:=e) (i:=8) he i
  have h2:=Nat.testBit_two_pow_mul (i:=8) (a:=m) (j:=i)
  rw [show (2 : Nat) ^ 8 = 256 from rfl] at h1 h2
  rw [Nat.testBit_xor,Nat.add_comm,h1,h2]
  by_cases hi : i < 8
  · simp [hi,show ¬ 8 ≤ i by omega]
  · have h3 : e.testBit i = false:=Nat.testBit_lt_two_pow (Nat.lt_of_lt_of_le he (by rw [show (256 : Nat) = 2 ^ 8 from rfl];exact Nat.pow_le_pow_right (by omega) (by omega)))
    simp [hi,h3,show 8 ≤ i by omega]
theorem cN_byte {e : Nat} (he : e < 256) (r m : Nat) : cN 8 (r ^^^ (e + 256 * m)) = cN 8 (r ^^^ e) ^^^ m:=by
  rw [byte_xor he,← Nat.xor_assoc,cN_xor,cN_shift]
def cQ (r : Nat) (q : Nat → Nat) : Nat → Nat
  | 0=>r
  | k + 1=>cN 8 (cQ r q k ^^^ q k)
theorem cQ_word (r : Nat) (q : Nat → Nat) (k : Nat) (h0 : q k < 256) (h1 : q (k + 1) < 256) (h2 : q (k + 2) < 256) :
    cQ r q (k + 4) = cN 32 (cQ r q k ^^^ (q k + 256 * (q (k + 1) + 256 * (q (k + 2) + 256 * q (k + 3))))):=by
  rw [show 32 = 8 + (8 + (8 + 8)) from rfl,cN_add,cN_add,cN_add,cN_byte h0,cN_byte h1,cN_byte h2]
  rfl
theorem cQ_xor (r s : Nat) (q p : Nat → Nat) : ∀ k,cQ (r ^^^ s) (fun j=>q j ^^^ p j) k = cQ r q k ^^^ cQ s p k
  | 0=>rfl
  | k + 1=>by
    unfold cQ
    rw [cQ_xor r s q p k,← cN_xor]
    congr 1
    rw [Nat.xor_assoc,Nat.xor_assoc]
    congr 1
    rw [← Nat.xor_assoc,Nat.xor_comm (cQ s p k),Nat.xor_assoc]
theorem cQ_zero (q : Nat → Nat) : ∀ k,(∀ j,j < k → q j = 0) → cQ 0 q k = 0
  | 0,_=>rfl
  | k + 1,h=>by unfold cQ;rw [cQ_zero q k (fun j hj=>h j (by omega)),h k (by omega),Nat.xor_self,cN_zero]
theorem cQ_tail (r : Nat) (q : Nat → Nat) (k : Nat) : ∀ m,(∀ j,k ≤ j → j < k + m → q j = 0) → cQ r q (k + m) = cN (8 * m) (cQ r q k)
  | 0,_=>rfl
  | m + 1,h=>by
    show cN 8 (cQ r q (k + m) ^^^ q (k + m)) = _
    rw [cQ_tail r q k m (fun j h1 h2=>h j h1 (by omega)),h (k + m) (by omega) (by omega),Nat.xor_zero,Nat.mul_add,Nat.mul_one,cN_add]
theorem cQ_lt {r : Nat} {q : Nat → Nat} (hr : r < 4294967296) (hq : ∀ j,q j < 256) : ∀ k,cQ r q k < 4294967296
  | 0=>hr
  | k + 1=>cN_lt (Nat.xor_lt_two_pow (n:=32) (cQ_lt hr hq k) (Nat.lt_trans (hq k) (by decide))) 8
theorem no_burst {q p : Nat → Nat} {i n : Nat} (hq : ∀ j,q j < 256) (hp : ∀ j,p j < 256) (hi : i + 4 ≤ n) (hsame : ∀ j,j < n → (j < i ∨ i + 4 ≤ j) → q j = p j) {r : Nat} (h : cQ r q n = cQ r p n) : ∀ j,j < n → q j = p j:=by
  have hx : cQ 0 (fun j=>q j ^^^ p j) n = 0:=by
    have:=cQ_xor r r q p n
    rw [Nat.xor_self] at this
    rw [this,h,Nat.xor_self]
  have hd : ∀ j,(q j ^^^ p j) < 256:=fun j=>Nat.xor_lt_two_pow (n:=8) (hq j) (hp j)
  have h0 : cQ 0 (fun j=>q j ^^^ p j) i = 0:=cQ_zero _ i (fun j hj=>by show q j ^^^ p j = 0;rw [hsame j (by omega) (.inl hj),Nat.xor_self])
  have h4:=cQ_word 0 (fun j=>q j ^^^ p j) i (hd _) (hd _) (hd _)
  rw [h0,Nat.zero_xor] at h4
  have ht:=cQ_tail 0 (fun j=>q j ^^^ p j) (i + 4) (n - (i + 4)) (fun j h1 h2=>by show q j ^^^ p j = 0;rw [hsame j (by omega) (.inr h1),Nat.xor_self])
  rw [show i + 4 + (n - (i + 4)) = n by omega,hx] at ht
  have d0:=hd i
  have d1:=hd (i + 1)
  have d2:=hd (i + 2)
  have d3:=hd (i + 3)
  have hw : cQ 0 (fun j=>q j ^^^ p j) (i + 4) = 0:=cN_none (cQ_lt (by decide) hd _) _ ht.symm
  rw [h4] at hw
  have hz:=cN_none (by (try dsimp only);omega) 32 hw
  (try dsimp only at hz)
  have eq_of : ∀ j,q j ^^^ p j = 0 → q j = p j:=fun j hj=>by
    have h2 : q j ^^^ p j ^^^ p j = 0 ^^^ p j:=by rw [hj]
    rwa [Nat.xor_assoc,Nat.xor_self,Nat.xor_zero,Nat.zero_xor] at h2
  intro j hj
  by_cases hji : j < i ∨ i + 4 ≤ j
  · exact hsame j hj hji
  · have : j = i ∨ j = i + 1 ∨ j = i + 2 ∨ j = i + 3:=by omega
    rcases this with rfl | rfl | rfl | rfl
    · exact eq_of _ (by omega)
    · exact eq_of _ (by omega)
    · exact eq_of _ (by omega)
    · exact eq_of _ (by omega)
theorem residue {q : Nat → Nat} {n : Nat} (hq : ∀ j,q j < 256) {I : Nat} (hs : q n + 256 * (q (n + 1) + 256 * (q (n + 2) + 256 * q (n + 3))) = cQ I q n ^^^ I) : cQ I q (n + 4) = cN 32 I:=by
  rw [cQ_word I q n (hq _) (hq _) (hq _),hs,← Nat.xor_assoc,Nat.xor_self,Nat.zero_xor]
end Go.Ev

namespace Go.Ev
open Go.RowKit Go.Proofs Go.Rw
theorem crc1_nat {z : Nat} (h : z < 4294967296) : crc1 (z : Int) = ((c1 z : Nat) : Int):=by
  have h1 : bits .and .u32 (z : Int) 1 = ((z % 2 : Nat) : Int):=by
    have:=u32_and_nat z 1 h (by omega)
    rw [Nat.and_one_is_mod] at this
    exact this
  have h2 : bits .xor .u32 ((z : Int) / 2) 3988292384 = ((z / 2 ^^^ poly : Nat) : Int):=by
    have:=u32_xor_nat (z / 2) poly (by omega) (by decide)
    rw [← this]
    rfl
  unfold crc1 c1
  rw [h1,h2]
  by_cases hz : z % 2 = 1
  · rw [if_pos (by omega),if_pos hz]
  · rw [if_neg (by omega),if_neg hz]
    omega
theorem crcN_nat {z : Nat} (h : z < 4294967296) : ∀ j,crcN j (z : Int) = ((cN j z : Nat) : Int)
  | 0=>rfl
  | j + 1=>by unfold crcN cN;rw [crcN_nat h j,crc1_nat (cN_lt h j)]
theorem crcL_nat {q : Nat → Nat} (hq : ∀ j,q j < 256) : ∀ k,crcL (fun j=>((q j : Nat) : Int)) k = ((cQ 4294967295 q k : Nat) : Int)
  | 0=>rfl
  | k + 1=>by
    have hl:=cQ_lt (by decide : 4294967295 < 4294967296) hq k
    have h256:=hq k
    unfold crcL cQ
    rw [crcL_nat hq k,u32_xor_nat _ _ hl (by omega),crcN_nat (Nat.xor_lt_two_pow (n:=32) hl (by omega))]
theorem sumV_nat {q : Nat → Nat} (hq : ∀ j,q j < 256) (n : Nat) : sumV (fun j=>((q j : Nat) : Int)) n = ((4294967295 ^^^ cQ 4294967295 q n : Nat) : Int):=by
  have hl:=cQ_lt (by decide : 4294967295 < 4294967296) hq n
  unfold sumV
  rw [crcL_nat hq]
  exact u32_xor_nat 4294967295 _ (by decide) hl
theorem getD_lt {l : List Nat} (h : ∀ x ∈ l,x < 256) (j : Nat) : l.getD j 0 < 256:=by
  have:=InB_nat h j
  unfold InB at this
  omega
theorem sum3 {a b c : Nat → Nat} (ha : ∀ j,a j < 256) (hb : ∀ j,b j < 256) (hc : ∀ j,c j < 256) (n : Nat) :
    sumV (fun j=>((a j ^^^ b j ^^^ c j : Nat) : Int)) n = bits .xor .u32 (bits .xor .u32 (sumV (fun j=>((a j : Nat) : Int)) n) (sumV (fun j=>((b j : Nat) : Int)) n)) (sumV (fun j=>((c j : Nat) : Int)) n):=by
  have hab : ∀ j,a j ^^^ b j < 256:=fun j=>Nat.xor_lt_two_pow (n:=8) (ha j) (hb j)
  have habc : ∀ j,a j ^^^ b j ^^^ c j < 256:=fun j=>Nat.xor_lt_two_pow (n:=8) (hab j) (hc j)
  rw [sumV_nat ha,sumV_nat hb,sumV_nat hc,sumV_nat habc]
  have la:=cQ_lt (by decide : 4294967295 < 4294967296) ha n
  have lb:=cQ_lt (by decide : 4294967295 < 4294967296) hb n
  have lc:=cQ_lt (by decide : 4294967295 < 4294967296) hc n
  have e1:=cQ_xor (4294967295 ^^^ 4294967295) 4294967295 (fun j=>a j ^^^ b j) c n
  have e2:=cQ_xor 4294967295 4294967295 a b n
  rw [e2] at e1
  rw [show 4294967295 ^^^ 4294967295 ^^^ 4294967295 = 4294967295 by decide] at e1
  rw [e1]
  generalize cQ 4294967295 a n = A at la
  generalize cQ 4294967295 b n = B at lb
  generalize cQ 4294967295 c n = C at lc
  have xa:=Nat.xor_lt_two_pow (n:=32) (x:=4294967295) (by decide) la
  have xb:=Nat.xor_lt_two_pow (n:=32) (x:=4294967295) (by decide) lb
  have xc:=Nat.xor_lt_two_pow (n:=32) (x:=4294967295) (by decide) lc
  rw [u32_xor_nat _ _ xa xb,u32_xor_nat _ _ (Nat.xor_lt_two_pow (n:=32) xa xb) xc]
  congr 1
  generalize 4294967295 = I
  have h1 : I ^^^ A ^^^ (I ^^^ B) = A ^^^ B:=by
    rw [Nat.xor_comm I A,Nat.xor_assoc,← Nat.xor_assoc I I,Nat.xor_self,Nat.zero_xor]
  rw [h1,← Nat.xor_assoc,Nat.xor_comm I (A ^^^ B),Nat.xor_assoc]
def partsF (all : List Nat) : Rx RawM:=(lstF (secF all) all 4 16).bind fun a=>(lstF (symF all) all a.2 500).bind fun b=>(lstF (relF all) all b.2 2000).bind fun c=>(lstF (filF all) all c.2 20).bind fun d=>(cntF all d.2 100000).bind fun e=>.ok (⟨a.1,b.1,c.1,d.1,e.1⟩,e.2)
theorem parts_fwd {all : List Nat} {m : RawM} {e : Nat} (b0 : Beg all 0 (rawL m) e) (hR : RawR m) : partsF all = .ok (m,e):=by
  unfold rawL at b0
  obtain ⟨q0,b0⟩:=b0.split
  obtain ⟨q1,b0⟩:=b0.split
  obtain ⟨q2,b0⟩:=b0.split
  obtain ⟨q3,b0⟩:=b0.split
  obtain ⟨q4,q5⟩:=b0.split
  have f1:=lst_fwd (f:=secF all) (most:=16) q1 hR.n1 (by omega) (fun x hx p q hp=>by
    obtain ⟨r1,r2,r3,r4,r5⟩:=hR.secs x hx
    exact secF_fwd hp r1 r2 r3 r4 r5)
  have f2:=lst_fwd (f:=symF all) (most:=500) q2 hR.n2 (by omega) (fun x hx p q hp=>symF_fwd hp (hR.syms x hx))
  have f3:=lst_fwd (f:=relF all) (most:=2000) q3 hR.n3 (by omega) (fun x hx p q hp=>relF_fwd hp (hR.rels x hx))
  have f4:=lst_fwd (f:=filF all) (most:=20) q4 hR.n4 (by omega) (fun x hx p q hp=>txtF_fwd hp (hR.files x hx) (by have:=hR.files x hx;omega))
  have f5:=cntF_fwd (most:=100000) q5 (by have:=hR.n5;omega) hR.n5
  have m0 : magicL.length = 4:=rfl
  rw [Nat.zero_add,m0] at f1
  rw [Nat.zero_add,m0] at f2 f3 f4 f5
  unfold partsF
  rw [f1]
  show (lstF (symF all) all _ 500).bind _ = _
  rw [f2]
  show (lstF (relF all) all _ 2000).bind _ = _
  rw [f3]
  show (lstF (filF all) all _ 20).bind _ = _
  rw [f4]
  show (cntF all _ 100000).bind _ = _
  rw [f5]
  rfl
theorem beg_pre {l r all : List Nat} (h : all = l ++ r) : Beg all 0 l l.length:=⟨by omega,by rw [h,List.length_append];omega,by rw [h,List.drop_zero,List.drop_left]⟩
theorem same_len {x y z : List Nat} {a b : RawM × List LineT} (hx : ∀ v ∈ x,v < 256) (hy : ∀ v ∈ y,v < 256) (ha : objF x = .ok a) (hb : objF y = .ok b) (h : y = x ++ z) : x.length = y.length:=by
  obtain ⟨r1, -, -, -,e1⟩:=objF_back (m:=a.1) (tab:=a.2) hx ha
  obtain ⟨r2, -, -, -,e2⟩:=objF_back (m:=b.1) (tab:=b.2) hy hb
  have l1:=congrArg List.length e1
  have l2:=congrArg List.length e2
  have w : ∀ z,(toN (wordL z)).length = 4:=fun z=>rfl
  rw [List.length_append,w] at l1 l2
  have p1:=parts_fwd (all:=y) (beg_pre (r:=toN (wordL (sumN x (rawL a.1).length)) ++ z) (by rw [← List.append_assoc,← e1];exact h)) r1
  have p2:=parts_fwd (all:=y) (beg_pre e2) r2
  rw [p1] at p2
  have:=congrArg Prod.snd (Except.ok.inj p2)
  dsimp only at this
  omega
theorem cut_no {x : List Nat} {a : RawM × List LineT} (hx : ∀ v ∈ x,v < 256) (ha : objF x = .ok a) {k : Nat} (hk : k < x.length) : ∃ e,objF (x.take k) = .error e:=by
  cases h : objF (x.take k) with
  | error e=>exact ⟨e,rfl⟩
  | ok b =>
    have:=same_len (z:=x.drop k) (fun v hv=>hx v (List.mem_of_mem_take hv)) hx h ha (List.take_append_drop k x).symm
    rw [List.length_take] at this
    omega
theorem ext_no {x z : List Nat} {a : RawM × List LineT} (hx : ∀ v ∈ x,v < 256) (hz : ∀ v ∈ z,v < 256) (ha : objF x = .ok a) (h0 : z ≠ []) : ∃ e,objF (x ++ z) = .error e:=by
  cases h : objF (x ++ z) with
  | error e=>exact ⟨e,rfl⟩
  | ok b =>
    have hxz : ∀ v ∈ x ++ z,v < 256:=fun v hv=>by
      rcases List.mem_append.1 hv with hv | hv
      · exact hx v hv
      · exact hz v hv
    have:=same_len hx hxz ha h rfl
    rw [List.length_append] at this
    have : z.length = 0:=by omega
    exact absurd (List.eq_nil_of_length_eq_zero this) h0
theorem file_residue {x : List Nat} {a : RawM × List LineT} (hx : ∀ v ∈ x,v < 256) (ha : objF x = .ok a) : 4 ≤ x.length ∧ cQ 4294967295 (fun j=>x.getD j 0) x.length = cN 32 4294967295:=by
  obtain ⟨r1, -, -, -,e1⟩:=objF_back (m:=a.1) (tab:=a.2) hx ha
  obtain ⟨L,hL⟩ : ∃ L,L = (rawL a.1).length:=⟨_,rfl⟩
  rw [← hL] at e1
  have l1:=congrArg List.length e1
  have w : ∀ z,(toN (wordL z)).length = 4:=fun z=>rfl
  rw [List.length_append,w,← hL] at l1
  have hs : sumN x L = ((4294967295 ^^^ cQ 4294967295 (fun j=>x.getD j 0) L : Nat) : Int):=sumV_nat (fun j=>getD_lt hx j) L
  have hlt:=cQ_lt (by decide : 4294967295 < 4294967296) (fun j=>getD_lt hx j) L
  have hS:=Nat.xor_lt_two_pow (n:=32) (x:=4294967295) (by decide) hlt
  obtain ⟨S,hSe⟩ : ∃ S,S = 4294967295 ^^^ cQ 4294967295 (fun j=>x.getD j 0) L:=⟨_,rfl⟩
  rw [← hSe] at hs hS
  have hg : ∀ j,j < 4 → x.getD (L + j) 0 = (toN (wordL (sumN x L))).getD j 0:=fun j hj=>by
    conv=>lhs;rw [e1]
    simp only [List.getD]
    rw [List.getElem?_append_right (by omega),← hL,Nat.add_sub_cancel_left]
  have g0:=hg 0 (by omega)
  have g1:=hg 1 (by omega)
  have g2:=hg 2 (by omega)
  have g3:=hg 3 (by omega)
  rw [hs] at g0 g1 g2 g3
  simp only [wordL,toN,List.map_cons,List.getD,List.getElem?_cons_zero,List.getElem?_cons_succ,Option.getD_some] at g0 g1 g2 g3
  refine ⟨by omega,?_⟩
  rw [l1]
  refine residue (q:=fun j=>x.getD j 0) (fun j=>getD_lt hx j) ?_
  rw [Nat.xor_comm,← hSe]
  simp only [List.getD]
  rw [Nat.add_zero] at g0
  rw [g0,g1,g2,g3]
  omega
theorem burst_no {x y : List Nat} {a : RawM × List LineT} {i : Nat} (hx : ∀ v ∈ x,v < 256) (hy : ∀ v ∈ y,v < 256) (ha : objF x = .ok a) (hl : y.length = x.length) (hi : i + 4 ≤ x.length) (hsame : ∀ j,j < x.length → (j < i ∨ i + 4 ≤ j) → x.getD j 0 = y.getD j 0) (hne : x ≠ y) : ∃ e,objF y = .error e:=by
  cases h : objF y with
  | error e=>exact ⟨e,rfl⟩
  | ok b =>
    have h1:=(file_residue hx ha).2
    have h2:=(file_residue hy h).2
    rw [hl] at h2
    have:=no_burst (fun j=>getD_lt hx j) (fun j=>getD_lt hy j) hi hsame (h1.trans h2.symm)
    exfalso
    apply hne
    apply List.ext_getElem hl.symm
    intro j h3 h4
    have h5:=this j h3
    simpa [List.getD,h3,h4] using h5
end Go.Ev

namespace Go.Ev
open Go.RowKit Go.Proofs Go.Rw
def omk0 (w : World) (n : Nat) : Array Value:=Builtin.zeroCells #[Value.int .u8 0] n ++ Builtin.zeroCells #[Value.int .u8 0] (grownCap w n 0 5 - n)
set_option maxRecDepth 100000 in
theorem ogrow_nil (n : Nat) (z : Int) (hz : z = n) (h0 : 0 < n) (h48 : n ≤ 140737488355328) (w : World) :
    Calls Tryz.prog 134 #[.slice none 0 0,.int .i64 z] w fun e w'=>e = .returned (.slice (some ⟨w.heap.size,0,none⟩) 0 (grownCap w n 0 5)) ∧
      w' = (w.alloc (.cells (omk0 w n) 5)).drew:=by
  subst hz
  obtain ⟨i0,hi,hz0,hz1,hz2⟩:=info_parts info5
  have hrun:=fun (w : World) (ty : TypeId)=>Lib.run_append_nil_zeros (P:=Tryz.prog) w 34 3 ty 5 i0 (.int .u8 0) .i64 .i64 Tryz.underlying34 Tryz.underlying3 hi hz0 n h0 (by omega) (by omega) (by rw [hz2];omega)
  go_enter Tryz.func134,Tryz.ntmps134
  go_wp2_with (at_builtin;refine Lib.wpList_append_run _ rfl _ _ _ _ rfl _ _ rfl rfl _ _ (hrun _ _) ?_)
  go_ret
  exact ⟨rfl,rfl⟩
theorem ozeros_size (n : Nat) : (Builtin.zeroCells #[Value.int .u8 0] n).size = n:=by simp [Builtin.zeroCells]
theorem oown_made (w : World) (n : Nat) (hn : n ≤ 140737488355328) :
    (w.alloc (.cells (omk0 w n) 5)).drew.ownsRow w.heap.size 5 1 (.slice (some ⟨w.heap.size,0,none⟩) 0 (grownCap w n 0 5)) 0 []:=by
  have h1:=grownCap_ge w n 0 5
  have h2:=grownCap_le_maxLen w n 0 5 (by unfold maxLen;omega)
  have h3 : (omk0 w n).size = grownCap w n 0 5 * 1:=by
    unfold omk0
    rw [Array.size_append,ozeros_size,ozeros_size]
    omega
  exact (World.ownsRow_made w (omk0 w n) _ (Nat.le_refl _) h2 h3).drew
def OCtR (xs : List Value) (w : World) (e : Ending) (w' : World) : Prop:=∃ g cap : Nat,e = .returned (.slice (some ⟨g,0,none⟩) xs.length cap) ∧ xs.length ≤ cap ∧ cap ≤ maxLen ∧ (∀ j v,xs[j]? = some v → w'.cell? ⟨g,j,none⟩ = some v) ∧ Below w.heap.size w w'
theorem oct_end {w w2 : World} {v : Value} {n : Nat} {xs : List Value} (hown : w2.ownsRow w.heap.size 5 1 v n xs) (hpos : 0 < n) (hbl : Below w.heap.size w w2) : OCtR xs w (.returned v) w2:=by
  obtain ⟨hl,⟨_,h0⟩ | ⟨g,cap,cur,rfl,_,hh,hc,hm,hs,ht⟩⟩:=hown
  · omega
  · rw [Nat.mul_one] at hl ht
    refine ⟨g,cap,by rw [hl],by omega,hm,fun j v hj=>?_,hbl⟩
    have hj' : cur[j]? = some v:=by
      rw [← ht,List.getElem?_take] at hj
      split at hj
      · simpa using hj
      · cases hj
    simp [World.cell?,hh,hj']
set_option maxRecDepth 100000 in
set_option maxHeartbeats 1000000 in
theorem oconcat {w : World} {B cb co n1 c1 rb ro n2 c2 : Nat} {us1 us2 : List Value} (h0 : w.cell? ⟨B,0,none⟩ = some (.slice (some ⟨cb,co,none⟩) n1 c1)) (h1 : w.cell? ⟨B,1,none⟩ = some (.slice (some ⟨rb,ro,none⟩) n2 c2))
    (hl1 : us1.length = n1) (hl2 : us2.length = n2) (hn1 : 0 < n1) (hb : n1 + n2 ≤ 140737488355328)
    (hu1 : ∀ j u,us1[j]? = some u → w.cell? ((⟨cb,co,none⟩ : Addr).add j) = some u) (hu2 : ∀ j u,us2[j]? = some u → w.cell? ((⟨rb,ro,none⟩ : Addr).add j) = some u)
    (ho1 : ∀ u ∈ us1,u.oneCell' = true) (ho2 : ∀ u ∈ us2,u.oneCell' = true) :
    Calls Tryz.prog 43 #[.slice (some ⟨B,0,none⟩) 2 2] w (OCtR (us1 ++ us2) w):=by
  obtain ⟨i0,hi,hz0,hz1,hz2⟩:=info_parts info5
  have hB : B < w.heap.size:=low_of_cell h0
  go_enter Tryz.func43,Tryz.ntmps43
  go_wp2
  refine wp_loop_rounds 3 ?_
  rw [rounds_succ]
  go_wp2
  rw [rounds_succ]
  go_wp2
  rw [rounds_succ]
  go_wp2_with (go_at_call 134;refine (ogrow_nil (n1 + n2) _ (by omega) (by omega) (by omega) _).mono ?_;rintro e w' ⟨rfl,rfl⟩)
  have hown0:=oown_made w (n1 + n2) (by omega)
  have hbl0 : Below w.heap.size w (w.alloc (.cells (omk0 w (n1 + n2)) 5)).drew:=((Below.refl _ _).alloc (Nat.le_refl _) _).drew
  have hc0 : (w.alloc (.cells (omk0 w (n1 + n2)) 5)).drew.cell? ⟨B,0,none⟩ = some (.slice (some ⟨cb,co,none⟩) n1 c1):=(hbl0.cell (p:=⟨B,0,none⟩) hB).trans h0
  have hv1 : ∀ j u,us1[j]? = some u → (w.alloc (.cells (omk0 w (n1 + n2)) 5)).drew.cell? ((⟨cb,co,none⟩ : Addr).add j) = some u:=fun j u hj=>(hbl0.cell (low_of_cell (hu1 j u hj))).trans (hu1 j u hj)
  have hv2 : ∀ j u,us2[j]? = some u → (w.alloc (.cells (omk0 w (n1 + n2)) 5)).drew.cell? ((⟨rb,ro,none⟩ : Addr).add j) = some u:=fun j u hj=>(hbl0.cell (low_of_cell (hu2 j u hj))).trans (hu2 j u hj)
  have hc1 : (w.alloc (.cells (omk0 w (n1 + n2)) 5)).drew.cell? ⟨B,1,none⟩ = some (.slice (some ⟨rb,ro,none⟩) n2 c2):=(hbl0.cell (p:=⟨B,1,none⟩) hB).trans h1
  have hz : w.heap.size ≤ (w.alloc (.cells (omk0 w (n1 + n2)) 5)).drew.heap.size:=hbl0.size
  generalize (w.alloc (.cells (omk0 w (n1 + n2)) 5)).drew = W1 at *
  clear h0 h1 hu1
  refine wp_loop_rounds 3 ?_
  rw [rounds_succ]
  go_wp2_with (at_builtin;refine wpList_append_own _ rfl _ _ 34 rfl w.heap.size 5 i0 (.int .u8 0) 1 1 Tryz.underlying34 hi hz0 hz1 hz2 rfl (by decide) _ _ _ rfl hown0 ⟨cb,co,none⟩ n1 c1 us1 rfl (by omega) hv1 ho1 (by unfold maxLen;omega) (by omega) hz ?_)
  intro v1 w1 hown1 hg1 _
  have hlt2 : ∀ j u,us2[j]? = some u → rb < w.heap.size:=fun j u hj=>by have:=low_of_cell (hu2 j u hj);rw [cell_add] at this;exact this
  have hw1 : ∀ j u,us2[j]? = some u → w1.cell? ((⟨rb,ro,none⟩ : Addr).add j) = some u:=fun j u hj=>hg1.cell (hv2 j u hj) (by have:=hlt2 j u hj;rw [cell_add];simp [Value.ownBlock];omega)
  have hc1' : w1.cell? ⟨B,1,none⟩ = some (.slice (some ⟨rb,ro,none⟩) n2 c2):=hg1.cell hc1 (by simp [Value.ownBlock];omega)
  have hbl1 : Below w.heap.size w w1:=hbl0.grown hg1 hz (fun k hk=>by simp [Value.ownBlock] at hk;omega)
  have hz1':=hbl1.size
  clear hbl0 hc0 hv1 hu2 hown0 hc1 hz hv2 hg1 hlt2
  go_wp2
  rw [rounds_succ]
  go_wp2_with (at_builtin;refine wpList_append_own _ rfl _ _ 34 rfl w.heap.size 5 i0 (.int .u8 0) 1 1 Tryz.underlying34 hi hz0 hz1 hz2 rfl (by decide) _ _ _ rfl hown1 ⟨rb,ro,none⟩ n2 c2 us2 rfl (by omega) hw1 ho2 (by unfold maxLen;omega) (by omega) hz1' ?_)
  intro v2 w2 hown2 hg2 hnil
  have hbl2 : Below w.heap.size w w2:=hbl1.grown hg2 hz1' (fun k hk=>(hown1.lt k hk).1)
  clear hbl1 hw1 hc1' hz1' hg2
  go_wp2
  rw [rounds_succ]
  go_wp2
  go_ret
  exact oct_end hown2 (by omega) hbl2
set_option maxRecDepth 100000 in
set_option maxHeartbeats 1000000 in
theorem refused_c {w : World} {a : Option Addr} {n c : Nat} {all : List Nat} (h : FileAt w a n all) (hnc : n ≤ c) (hn : n ≤ 140737488351232) {x : Nat × Int} (hx : objF all = .error x) : Calls Tryz.prog 41 #[.slice a n c] w (BelR true w):=by
  have hr:=read_c (c:=c) h hnc hn
  rw [hx] at hr
  have hx0:=objF_err hx
  have hxd : (x.2 != 0) = true:=bne_iff_ne.2 hx0
  clear hx h hx0
  go_enter Tryz.func41,Tryz.ntmps41
  go_wp2_with fail
  refine hr.mono ?_
  rintro e w1 ⟨hb1,he⟩
  have he : e = .returned (.tuple #[.agg #[.slice none 0 0,.slice none 0 0,.slice none 0 0,.slice none 0 0,.slice none 0 0],.int .i64 (x.1 : Int),.int .i64 x.2]):=he
  subst he
  have hb2:=one_below w1 (.cells #[.slice none 0 0,.slice none 0 0,.slice none 0 0,.slice none 0 0,.slice none 0 0] 28)
  have g0:=new_cell w1 #[.slice none 0 0,.slice none 0 0,.slice none 0 0,.slice none 0 0,.slice none 0 0] 28 0 (.slice none 0 0) rfl
  have g1:=new_cell w1 #[.slice none 0 0,.slice none 0 0,.slice none 0 0,.slice none 0 0,.slice none 0 0] 28 1 (.slice none 0 0) rfl
  have g2:=new_cell w1 #[.slice none 0 0,.slice none 0 0,.slice none 0 0,.slice none 0 0,.slice none 0 0] 28 2 (.slice none 0 0) rfl
  have g3:=new_cell w1 #[.slice none 0 0,.slice none 0 0,.slice none 0 0,.slice none 0 0,.slice none 0 0] 28 3 (.slice none 0 0) rfl
  have g4:=new_cell w1 #[.slice none 0 0,.slice none 0 0,.slice none 0 0,.slice none 0 0,.slice none 0 0] 28 4 (.slice none 0 0) rfl
  go_wp2_with fail
  refine (nil_same _).mono ?_
  rintro e w3 ⟨rfl,hb3⟩
  go_wp2
  go_ret
  exact ⟨rfl,bel_then (bel_then hb1 (Nat.le_refl _) hb2) (Nat.le_refl _) hb3⟩
end Go.Ev

