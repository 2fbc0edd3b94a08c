import Derived.Test.YtepopmplcjhfbaaGreatObG13
import Derived.Test.YtepopmplcjhfbaaGreatObG08
import Derived.Test.YtepopmplcjhfbaaGreatObG09
import Derived.Deep.RegionWith
set_option linter.unusedSectionVars false
set_option linter.unusedVariables false
set_option linter.unusedSimpArgs false
set_option linter.unnecessarySimpa false
namespace Go.Ev
open Go.RowKit Go.Proofs Go.Rw
def BytV (b : Nat) (l : List Nat) (w : World) (v : Value) : Prop:=∃ o',v = .slice (some ⟨b,o',none⟩) l.length l.length ∧ ∀ j,j < l.length → w.cell? ⟨b,o' + j,none⟩ = some (.int .u8 ((l.getD j 0 : Nat) : Int))
set_option maxRecDepth 100000 in
set_option maxHeartbeats 400000 in
theorem take_c {w : World} {R b o n c p k : Nat} {all : List Nat} (h : RS w R b o n c all p) (hk : k ≤ 4294967295) :
    Calls Tryz.prog 174 #[.pointer (some ⟨R,0,none⟩),.int .i64 (k : Int)] w (RdR R b o n c all (BytV b) (tkF all p k) w):=by
  obtain ⟨c0,c1,f1⟩:=h.cells
  have hst:=h
  obtain ⟨h0,hA,hbR,hlo,hp,hnc,hc⟩:=h
  obtain ⟨a1,a2,a3⟩:=hA
  have hst:=Lib.hid hst
  clear h0 hlo a2
  unfold tkF
  by_cases hkn : k ≤ all.length - p
  · rw [if_pos hkn]
    rw [a1] at hkn
    obtain ⟨l,hl⟩ : ∃ l,l = (all.drop p).take k:=⟨_,rfl⟩
    have hll : l.length = k:=by rw [hl,List.length_take,List.length_drop,a1];omega
    have hcell : ∀ j,j < k → w.cell? ⟨b,o + p + j,none⟩ = some (.int .u8 ((l.getD j 0 : Nat) : Int)):=fun j hj=>by
      have:=a3 (p + j) (by omega)
      rw [← Nat.add_assoc] at this
      rw [this,hl]
      simp [List.getD,List.getElem?_drop,List.getElem?_take,hj]
    rw [← hl]
    obtain ⟨q,hq⟩ : ∃ q : Nat,q = p + k:=⟨_,rfl⟩
    have e1 : (p : Int) + (k : Int) = (q : Int):=by omega
    have e2 : wrap64 ((p : Int) + (k : Int)) = (q : Int):=by rw [wrap_in (by omega) (by omega)];omega
    have e3 : decide ((k : Int) ≤ (n : Int) - (p : Int)) = true:=decide_eq_true (by omega)
    rw [← hq]
    have hqn : q ≤ n:=by omega
    have hfin:=Lib.hid (hst.out.set hqn)
    have hcell:=Lib.hid hcell
    have hll:=Lib.hid hll
    have hpq : p ≤ q:=by omega
    have hqc : q ≤ c:=by omega
    have hqc' : (q : Int) ≤ (c : Int):=by omega
    have hpq' : (p : Int) ≤ (q : Int):=by omega
    have hqp : q - p = k:=by omega
    by_cases hk0 : k = 0
    · subst hk0
      have hqe : q = p:=by omega
      subst hqe
      clear hq hl a3
      go_enter Tryz.func174,Tryz.ntmps174
      go_wp2_with (go_at_call 172;refine (must_yes _ _).mono ?_;rintro e w2 ⟨rfl,rfl⟩)
      go_quiet (fail)
      go_wp2
      go_ret
      have hl0:=hll.out
      refine ⟨((Stp.refl R _).set 1 _).drewN _,_,rfl,⟨o,?_,fun j hj=>?_⟩,hfin.out.drewN _⟩
      · dsimp only
        rw [hl0]
        rfl
      · dsimp only at hj
        omega
    · have hqn2 : ¬ q = p:=by omega
      clear hq hl a3
      go_enter Tryz.func174,Tryz.ntmps174
      go_wp2_with (go_at_call 172;refine (must_yes _ _).mono ?_;rintro e w2 ⟨rfl,rfl⟩)
      go_quiet (fail)
      go_wp2
      go_ret
      have hl0:=hll.out
      refine ⟨((Stp.refl R _).set 1 _).drewN _,_,rfl,⟨o + p,?_,fun j hj=>?_⟩,hfin.out.drewN _⟩
      · dsimp only
        rw [hl0]
        rfl
      · dsimp only at hj ⊢
        exact (((Stp.refl R _).set 1 _).drewN _).cell (hcell.out j (by omega)) hbR
  · rw [if_neg hkn]
    rw [a1] at hkn
    have e3 : decide ((k : Int) ≤ (n : Int) - (p : Int)) = false:=decide_eq_false (by omega)
    go_enter Tryz.func174,Tryz.ntmps174
    go_wp2_with (go_at_call 172;refine (must_no _ _).mono ?_;rintro e w2 ⟨rfl,rfl⟩)
    exact ⟨rfl,Stp.refl R _,rfl⟩
theorem counted2_c {w : World} {R b o n c p most : Nat} {all : List Nat} (h : RS w R b o n c all p) (hm : most ≤ 4294967295) :
    Calls Tryz.prog 184 #[.pointer (some ⟨R,0,none⟩),.int .i64 (most : Int)] w (RdR R b o n c all (BytV b) (cntF all p most) w):=by
  have hu:=upTo2_c (most:=most) h hm
  have hle : ∀ y,upF all p most = .ok y → y.1 ≤ most:=fun y hy=>(upF_le hy).1
  unfold cntF
  generalize upF all p most = m at hu hle ⊢
  cases m with
  | error x =>
    have hu:=RdR.no hu rfl
    go_enter Tryz.func184,Tryz.ntmps184
    go_wp2_with fail
    refine hu.mono ?_
    rintro e w1 ⟨rfl,hs⟩
    go_wp2
    exact ⟨rfl,hs,rfl⟩
  | ok y =>
    have hu:=RdR.yes hu rfl
    obtain ⟨k,q⟩:=y
    have hk:=hle _ rfl
    dsimp only at hk hu
    show Calls Tryz.prog 184 _ w (RdR R b o n c all (BytV b) (tkF all q k) w)
    have ht:=fun (W : World) (hW : RS W R b o n c all q)=>take_c (k:=k) hW (by omega)
    generalize tkF all q k = m2 at ht ⊢
    cases m2 with
    | error x =>
      have ht:=fun W hW=>RdR.no (ht W hW) rfl
      go_enter Tryz.func184,Tryz.ntmps184
      go_wp2_with fail
      refine hu.mono ?_
      rintro e w1 ⟨v,rfl,rfl,hr,hs⟩
      go_wp2_with (go_at_call 174;refine (ht _ hr).mono ?_;rintro e w2 ⟨rfl,hs2⟩)
      exact ⟨rfl,hs.trans hs2,rfl⟩
    | ok z =>
      have ht:=fun W hW=>RdR.yes (ht W hW) rfl
      go_enter Tryz.func184,Tryz.ntmps184
      go_wp2_with fail
      refine hu.mono ?_
      rintro e w1 ⟨v,rfl,rfl,hr,hs⟩
      go_wp2_with (go_at_call 174;refine (ht _ hr).mono ?_;rintro e w2 ⟨v2,rfl,hv2,hr2,hs2⟩;obtain ⟨o',rfl,hv2⟩:=hv2)
      go_ret
      exact ⟨hs.trans hs2,_,rfl,⟨o',rfl,hv2⟩,hr2⟩
def StrV (s : ByteArray) (_ : World) (v : Value) : Prop:=v = .string s
theorem text2_c {w : World} {R b o n c p most : Nat} {all : List Nat} (h : RS w R b o n c all p) (hm : most ≤ 4294967295) :
    Calls Tryz.prog 183 #[.pointer (some ⟨R,0,none⟩),.int .i64 (most : Int)] w (RdR R b o n c all StrV (txtF all p most) w):=by
  have hu:=counted2_c (most:=most) h hm
  unfold txtF
  generalize cntF all p most = m at hu ⊢
  cases m with
  | error x =>
    have hu:=RdR.no hu rfl
    go_enter Tryz.func183,Tryz.ntmps183
    go_wp2_with fail
    refine hu.mono ?_
    rintro e w1 ⟨rfl,hs⟩
    go_wp2
    exact ⟨rfl,hs,rfl⟩
  | ok y =>
    have hu:=RdR.yes hu rfl
    obtain ⟨l,q⟩:=y
    dsimp only at hu
    show Calls Tryz.prog 183 _ w (RdR R b o n c all StrV (.ok (strN l,q)) w)
    go_enter Tryz.func183,Tryz.ntmps183
    go_wp2_with fail
    refine hu.mono ?_
    rintro e w1 ⟨v,rfl,⟨o',rfl,hv⟩,hr,hs⟩
    have hconv:=run_convert_bytes_arg (P:=Tryz.prog) w1 34 5 Tryz.underlying34 Tryz.underlying5 b o' l.length l.length (l.map (fun x : Nat=>(x : Int))) (by simp) (fun i hi=>by
      rw [hv i hi]
      simp [List.getD,List.getElem?_map,hi]) 9 Tryz.underlying9
    go_wp2
    go_ret
    exact ⟨hs,_,rfl,rfl,hr⟩
def IntV (x : Int) (_ : World) (v : Value) : Prop:=v = .int .i64 x
theorem psgn_c {w : World} {R b o n c p : Nat} {all : List Nat} (h : RS w R b o n c all p) :
    Calls Tryz.prog 192 #[.pointer (some ⟨R,0,none⟩)] w (RdR R b o n c all IntV (sgnF all p) w):=by
  have hu:=number2_c h
  have hle : ∀ y,nbF all p = .ok y → y.1 ≤ 4294967295:=fun y hy=>(upF_le hy).1
  unfold sgnF
  generalize nbF all p = m at hu hle ⊢
  cases m with
  | error x =>
    have hu:=RdR.no hu rfl
    go_enter Tryz.func192,Tryz.ntmps192
    go_wp2_with fail
    refine hu.mono ?_
    rintro e w1 ⟨rfl,hs⟩
    go_wp2
    exact ⟨rfl,hs,rfl⟩
  | ok y =>
    have hu:=RdR.yes hu rfl
    obtain ⟨x,q⟩:=y
    have hx:=hle _ rfl
    dsimp only at hu hx
    show Calls Tryz.prog 192 _ w (RdR R b o n c all IntV (.ok (unzig x,q)) w)
    have e0 : (x : Int).tmod 2 = (x : Int) % 2:=Int.tmod_eq_emod_of_nonneg (by omega)
    obtain ⟨z,hz⟩ : ∃ z : Int,z = unzig x:=⟨_,rfl⟩
    rw [← hz]
    clear hle
    by_cases hm : x % 2 = 1
    · have e1 : ((x : Int) % 2 == 1) = true:=beq_iff_eq.2 (by omega)
      have hz1 : z = -(((x + 1) / 2 : Nat) : Int):=by rw [hz];exact if_pos hm
      have e3 : (-((x : Int) + 1)).tdiv 2 = z:=by
        rw [Int.neg_tdiv,Int.tdiv_eq_ediv_of_nonneg (by omega)];omega
      have e4 : wrap64 ((x : Int) + 1) = (x : Int) + 1:=wrap_in (by omega) (by omega)
      have e5 : wrap64 (-((x : Int) + 1)) = -((x : Int) + 1):=wrap_in (by omega) (by omega)
      have e6 : wrap64 z = z:=wrap_in (by omega) (by omega)
      have hz:=Lib.hid hz
      clear hz1
      go_enter Tryz.func192,Tryz.ntmps192
      go_wp2_with fail
      refine hu.mono ?_
      rintro e w1 ⟨v,rfl,rfl,hr,hs⟩
      go_wp2
      go_ret
      exact ⟨hs,_,rfl,by first | rfl | (show Value.int IntKind.i64 (wrap64 z) = Value.int .i64 z;rw [e6]) | (show Value.int IntKind.i64 (wrap64 (unzig x)) = Value.int .i64 z;rw [← hz.out,e6]),hr⟩
    · have e1 : ((x : Int) % 2 == 1) = false:=beq_eq_false_iff_ne.2 (by omega)
      have hz1 : z = ((x / 2 : Nat) : Int):=by rw [hz];exact if_neg hm
      have e3 : (x : Int).tdiv 2 = z:=by rw [Int.tdiv_eq_ediv_of_nonneg (by omega)];omega
      have e6 : wrap64 z = z:=wrap_in (by omega) (by omega)
      have hz:=Lib.hid hz
      clear hz1
      go_enter Tryz.func192,Tryz.ntmps192
      go_wp2_with fail
      refine hu.mono ?_
      rintro e w1 ⟨v,rfl,rfl,hr,hs⟩
      go_wp2
      go_ret
      exact ⟨hs,_,rfl,by first | rfl | (show Value.int IntKind.i64 (wrap64 z) = Value.int .i64 z;rw [e6]) | (show Value.int IntKind.i64 (wrap64 (unzig x)) = Value.int .i64 z;rw [← hz.out,e6]),hr⟩
def wrdF (all : List Nat) (p : Nat) : Except (Nat × Int) (Nat × Nat):=(tkF all p 4).bind fun y=>.ok (y.1.getD 0 0 + 256 * y.1.getD 1 0 + 65536 * y.1.getD 2 0 + 16777216 * y.1.getD 3 0,y.2)
def WrdV (x : Nat) (_ : World) (v : Value) : Prop:=v = .int .u32 (x : Int)
theorem word2_c {w : World} {R b o n c p : Nat} {all : List Nat} (h : RS w R b o n c all p) :
    Calls Tryz.prog 185 #[.pointer (some ⟨R,0,none⟩)] w (RdR R b o n c all WrdV (wrdF all p) w):=by
  have hu:=take_c (k:=4) h (by omega)
  have hb : ∀ x ∈ all,x < 256:=h.at_.2.1
  have hle : ∀ y,tkF all p 4 = .ok y → y.1.length = 4 ∧ ∀ x ∈ y.1,x < 256:=fun y hy=>by
    unfold tkF at hy
    split at hy
    · cases hy
      refine ⟨by simp only [List.length_take,List.length_drop];omega,fun x hx=>hb x (List.mem_of_mem_drop (List.mem_of_mem_take hx))⟩
    · cases hy
  unfold wrdF
  generalize tkF all p 4 = m at hu hle ⊢
  cases m with
  | error x =>
    have hu:=RdR.no hu rfl
    go_enter Tryz.func185,Tryz.ntmps185
    go_wp2_with fail
    refine hu.mono ?_
    rintro e w1 ⟨rfl,hs⟩
    go_wp2
    exact ⟨rfl,hs,rfl⟩
  | ok y =>
    have hu:=RdR.yes hu rfl
    obtain ⟨l,q⟩:=y
    obtain ⟨hl4,hl⟩:=hle _ rfl
    dsimp only at hl4 hl hu
    match l,hl4 with
    | [x0,x1,x2,x3],_ =>
      have h0:=hl x0 (by simp)
      have h1:=hl x1 (by simp)
      have h2:=hl x2 (by simp)
      have h3:=hl x3 (by simp)
      show Calls Tryz.prog 185 _ w (RdR R b o n c all WrdV (.ok (x0 + 256 * x1 + 65536 * x2 + 16777216 * x3,q)) w)
      clear hle hl
      go_enter Tryz.func185,Tryz.ntmps185
      go_wp2_with fail
      refine hu.mono ?_
      rintro e w1 ⟨v,rfl,⟨o',rfl,hv⟩,hr,hs⟩
      have v0 : w1.cell? ⟨b,o',none⟩ = some (.int .u8 (x0 : Int)):=hv 0 (by simp)
      have v1 : w1.cell? ⟨b,o' + 1,none⟩ = some (.int .u8 (x1 : Int)):=hv 1 (by simp)
      have v2 : w1.cell? ⟨b,o' + 2,none⟩ = some (.int .u8 (x2 : Int)):=hv 2 (by simp)
      have v3 : w1.cell? ⟨b,o' + 3,none⟩ = some (.int .u8 (x3 : Int)):=hv 3 (by simp)
      clear hv hu
      go_wp2_with fail
      go_quiet (fail)
      go_wp2
      go_ret
      have j1 : bits .or .u32 (x0 : Int) ((x1 : Int) * 256) = (x0 : Int) + (x1 : Int) * 256:=bits_join_low .u32 32 (by decide) wraps_u32 8 _ _ (by omega) (by omega) (by omega) (by omega) (by omega) (by omega)
      have j2 : bits .or .u32 ((x0 : Int) + (x1 : Int) * 256) ((x2 : Int) * 65536) = (x0 : Int) + (x1 : Int) * 256 + (x2 : Int) * 65536:=bits_join_low .u32 32 (by decide) wraps_u32 16 _ _ (by omega) (by omega) (by omega) (by omega) (by omega) (by omega)
      have j3 : bits .or .u32 ((x0 : Int) + (x1 : Int) * 256 + (x2 : Int) * 65536) ((x3 : Int) * 16777216) = (x0 : Int) + (x1 : Int) * 256 + (x2 : Int) * 65536 + (x3 : Int) * 16777216:=bits_join_low .u32 32 (by decide) wraps_u32 24 _ _ (by omega) (by omega) (by omega) (by omega) (by omega) (by omega)
      refine ⟨hs.drewN _,_,rfl,?_,hr.drewN _⟩
      show Value.int IntKind.u32 (bits BinOp.or IntKind.u32 (bits BinOp.or IntKind.u32 (bits BinOp.or IntKind.u32 (x0 : Int) ((x1 : Int) * 256)) ((x2 : Int) * 65536)) ((x3 : Int) * 16777216)) = _
      rw [j1,j2,j3]
      dsimp only
      congr 1
      omega
end Go.Ev

namespace Go.Ev
open Go.RowKit Go.Proofs Go.Rw
structure SecM where
  name : ByteArray
  rights : Nat
  align : Nat
  bs : List Nat
  zero : Nat
def secML (m : SecM) : List Nat:=toN (textL m.name) ++ (toN (numL m.rights) ++ (toN (numL m.align) ++ (cntL m.bs ++ toN (numL m.zero))))
def secF (all : List Nat) (p : Nat) : Rx SecM :=
  (txtF all p 40).bind fun a=>(nbF all a.2).bind fun r=>(nbF all r.2).bind fun l=>(cntF all l.2 65536).bind fun d=>(nbF all d.2).bind fun z=>.ok (⟨a.1,r.1,l.1,d.1,z.1⟩,z.2)
theorem secF_fwd {all : List Nat} {p q : Nat} {m : SecM} (h : Beg all p (secML m) q) (h1 : m.name.size ≤ 40) (h2 : m.rights ≤ 4294967295) (h3 : m.align ≤ 4294967295) (h4 : m.bs.length ≤ 65536) (h5 : m.zero ≤ 4294967295) : secF all p = .ok (m,q):=by
  obtain ⟨b1,h⟩:=h.split
  obtain ⟨b2,h⟩:=h.split
  obtain ⟨b3,h⟩:=h.split
  obtain ⟨b4,b5⟩:=h.split
  unfold secF
  rw [txtF_fwd b1 h1 (by omega)]
  show (nbF all _).bind _ = _
  unfold nbF
  rw [upF_fwd b2 h2 h2]
  show (upF all _ _).bind _ = _
  rw [upF_fwd b3 h3 h3]
  show (cntF all _ _).bind _ = _
  rw [cntF_fwd b4 (by omega) h4]
  show (upF all _ _).bind _ = _
  rw [upF_fwd b5 h5 h5]
  rfl
def SecMR (m : SecM) : Prop:=m.name.size ≤ 40 ∧ m.rights ≤ 4294967295 ∧ m.align ≤ 4294967295 ∧ m.bs.length ≤ 65536 ∧ m.zero ≤ 4294967295
theorem nbF_back {all : List Nat} {p : Nat} {y : Nat × Nat} (hb : ∀ x ∈ all,x < 256) (hp : p ≤ all.length) (hy : nbF all p = .ok y) : Beg all p (toN (numL y.1)) y.2 ∧ y.1 ≤ 4294967295 :=
  ⟨(upF_back hb hp hy).1,(upF_back hb hp hy).2.1⟩
theorem secF_back {all : List Nat} {p : Nat} {y : SecM × Nat} (hb : ∀ x ∈ all,x < 256) (hp : p ≤ all.length) (h : secF all p = .ok y) : Beg all p (secML y.1) y.2 ∧ SecMR y.1:=by
  obtain ⟨a,e1,h⟩:=bind_ok h
  obtain ⟨b1,s1⟩:=txtF_back hb hp e1
  obtain ⟨r,e2,h⟩:=bind_ok h
  obtain ⟨b2,s2⟩:=nbF_back hb b1.2.1 e2
  obtain ⟨l,e3,h⟩:=bind_ok h
  obtain ⟨b3,s3⟩:=nbF_back hb b2.2.1 e3
  obtain ⟨d,e4,h⟩:=bind_ok h
  obtain ⟨b4,s4⟩:=cntF_back hb b3.2.1 e4
  obtain ⟨z,e5,h⟩:=bind_ok h
  obtain ⟨b5,s5⟩:=nbF_back hb b4.2.1 e5
  cases h
  exact ⟨b1.join (b2.join (b3.join (b4.join b5))),s1,s2,s3,s4,s5⟩
def symF (all : List Nat) (p : Nat) : Rx SymT :=
  (txtF all p 40).bind fun a=>(sgnF all a.2).bind fun s=>(nbF all s.2).bind fun v=>(nbF all v.2).bind fun z=>(nbF all z.2).bind fun k=>.ok (⟨a.1,s.1,(v.1 : Int),(z.1 : Int),((k.1 % 4 : Nat) : Int),((k.1 / 4 : Nat) : Int)⟩,k.2)
def SymRd (x : SymT) : Prop:=x.name.size ≤ 40 ∧ zig x.sec ≤ 4294967295 ∧ (0 ≤ x.val ∧ x.val ≤ 4294967295) ∧ (0 ≤ x.size ∧ x.size ≤ 4294967295) ∧ (0 ≤ x.bind ∧ x.bind ≤ 3) ∧ (0 ≤ x.kind ∧ x.bind + 4 * x.kind ≤ 4294967295)
theorem toN_symL (x : SymT) : toN (symL x) = toN (textL x.name) ++ (toN (numL (zig x.sec)) ++ (toN (numL x.val.toNat) ++ (toN (numL x.size.toNat) ++ toN (numL (x.bind + 4 * x.kind).toNat)))):=by
  unfold symL
  simp only [toN_append]
theorem symF_fwd {all : List Nat} {p q : Nat} {x : SymT} (h : Beg all p (toN (symL x)) q) (hx : SymRd x) : symF all p = .ok (x,q):=by
  obtain ⟨h1,h2,⟨v0,v1⟩,⟨z0,z1⟩,⟨k0,k1⟩,k2,k3⟩:=hx
  rw [toN_symL] at h
  obtain ⟨b1,h⟩:=h.split
  obtain ⟨b2,h⟩:=h.split
  obtain ⟨b3,h⟩:=h.split
  obtain ⟨b4,b5⟩:=h.split
  unfold symF
  rw [txtF_fwd b1 h1 (by omega)]
  show (sgnF all _).bind _ = _
  rw [sgnF_fwd b2 h2]
  show (nbF all _).bind _ = _
  unfold nbF
  rw [upF_fwd b3 (by omega) (by omega)]
  show (upF all _ _).bind _ = _
  rw [upF_fwd b4 (by omega) (by omega)]
  show (upF all _ _).bind _ = _
  rw [upF_fwd b5 (by omega) (by omega)]
  show Except.ok ((⟨x.name,x.sec,((x.val.toNat : Nat) : Int),((x.size.toNat : Nat) : Int),(((x.bind + 4 * x.kind).toNat % 4 : Nat) : Int),(((x.bind + 4 * x.kind).toNat / 4 : Nat) : Int)⟩ : SymT),q) = _
  have e1 : ((x.val.toNat : Nat) : Int) = x.val:=by omega
  have e2 : ((x.size.toNat : Nat) : Int) = x.size:=by omega
  have e3 : (((x.bind + 4 * x.kind).toNat % 4 : Nat) : Int) = x.bind:=by omega
  have e4 : (((x.bind + 4 * x.kind).toNat / 4 : Nat) : Int) = x.kind:=by omega
  rw [e1,e2,e3,e4]
theorem symF_back {all : List Nat} {p : Nat} {y : SymT × Nat} (hb : ∀ x ∈ all,x < 256) (hp : p ≤ all.length) (h : symF all p = .ok y) : Beg all p (toN (symL y.1)) y.2 ∧ SymRd y.1:=by
  obtain ⟨a,e1,h⟩:=bind_ok h
  obtain ⟨b1,s1⟩:=txtF_back hb hp e1
  obtain ⟨s,e2,h⟩:=bind_ok h
  have b2:=sgnF_back hb b1.2.1 e2
  have s2 : zig s.1 ≤ 4294967295:=by
    obtain ⟨z,h1,h2⟩:=bind_ok e2
    cases h2
    dsimp only
    rw [zig_unzig]
    exact (nbF_back hb b1.2.1 h1).2
  obtain ⟨v,e3,h⟩:=bind_ok h
  obtain ⟨b3,s3⟩:=nbF_back hb b2.2.1 e3
  obtain ⟨z,e4,h⟩:=bind_ok h
  obtain ⟨b4,s4⟩:=nbF_back hb b3.2.1 e4
  obtain ⟨k,e5,h⟩:=bind_ok h
  obtain ⟨b5,s5⟩:=nbF_back hb b4.2.1 e5
  cases h
  rw [toN_symL]
  have e : (((k.1 % 4 : Nat) : Int) + 4 * ((k.1 / 4 : Nat) : Int)).toNat = k.1:=by omega
  refine ⟨?_,s1,s2,⟨?_,?_⟩,⟨?_,?_⟩,⟨?_,?_⟩,?_,?_⟩
  · dsimp only
    rw [e]
    exact b1.join (b2.join (b3.join (b4.join b5)))
  all_goals dsimp only
  all_goals omega
def relF (all : List Nat) (p : Nat) : Rx RelT :=
  (nbF all p).bind fun a=>(nbF all a.2).bind fun s=>(nbF all s.2).bind fun v=>(nbF all v.2).bind fun z=>(sgnF all z.2).bind fun k=>.ok (⟨(a.1 : Int),(s.1 : Int),(v.1 : Int),(z.1 : Int),k.1⟩,k.2)
def RelRd (x : RelT) : Prop:=(0 ≤ x.sec ∧ x.sec ≤ 4294967295) ∧ (0 ≤ x.off ∧ x.off ≤ 4294967295) ∧ (0 ≤ x.kind ∧ x.kind ≤ 4294967295) ∧ (0 ≤ x.sym ∧ x.sym ≤ 4294967295) ∧ zig x.add ≤ 4294967295
theorem toN_relL (x : RelT) : toN (relL x) = toN (numL x.sec.toNat) ++ (toN (numL x.off.toNat) ++ (toN (numL x.kind.toNat) ++ (toN (numL x.sym.toNat) ++ toN (numL (zig x.add))))):=by
  unfold relL
  simp only [toN_append]
theorem relF_fwd {all : List Nat} {p q : Nat} {x : RelT} (h : Beg all p (toN (relL x)) q) (hx : RelRd x) : relF all p = .ok (x,q):=by
  obtain ⟨⟨a0,a1⟩,⟨s0,s1⟩,⟨v0,v1⟩,⟨z0,z1⟩,k2⟩:=hx
  rw [toN_relL] at h
  obtain ⟨b1,h⟩:=h.split
  obtain ⟨b2,h⟩:=h.split
  obtain ⟨b3,h⟩:=h.split
  obtain ⟨b4,b5⟩:=h.split
  unfold relF nbF
  rw [upF_fwd b1 (by omega) (by omega)]
  show (upF all _ _).bind _ = _
  rw [upF_fwd b2 (by omega) (by omega)]
  show (upF all _ _).bind _ = _
  rw [upF_fwd b3 (by omega) (by omega)]
  show (upF all _ _).bind _ = _
  rw [upF_fwd b4 (by omega) (by omega)]
  show (sgnF all _).bind _ = _
  rw [sgnF_fwd b5 k2]
  show Except.ok ((⟨((x.sec.toNat : Nat) : Int),((x.off.toNat : Nat) : Int),((x.kind.toNat : Nat) : Int),((x.sym.toNat : Nat) : Int),x.add⟩ : RelT),q) = _
  have e1 : ((x.sec.toNat : Nat) : Int) = x.sec:=by omega
  have e2 : ((x.off.toNat : Nat) : Int) = x.off:=by omega
  have e3 : ((x.kind.toNat : Nat) : Int) = x.kind:=by omega
  have e4 : ((x.sym.toNat : Nat) : Int) = x.sym:=by omega
  rw [e1,e2,e3,e4]
theorem relF_back {all : List Nat} {p : Nat} {y : RelT × Nat} (hb : ∀ x ∈ all,x < 256) (hp : p ≤ all.length) (h : relF all p = .ok y) : Beg all p (toN (relL y.1)) y.2 ∧ RelRd y.1:=by
  obtain ⟨a,e1,h⟩:=bind_ok h
  obtain ⟨b1,s1⟩:=nbF_back hb hp e1
  obtain ⟨s,e2,h⟩:=bind_ok h
  obtain ⟨b2,s2⟩:=nbF_back hb b1.2.1 e2
  obtain ⟨v,e3,h⟩:=bind_ok h
  obtain ⟨b3,s3⟩:=nbF_back hb b2.2.1 e3
  obtain ⟨z,e4,h⟩:=bind_ok h
  obtain ⟨b4,s4⟩:=nbF_back hb b3.2.1 e4
  obtain ⟨k,e5,h⟩:=bind_ok h
  have b5:=sgnF_back hb b4.2.1 e5
  have s5 : zig k.1 ≤ 4294967295:=by
    obtain ⟨z',h1,h2⟩:=bind_ok e5
    cases h2
    dsimp only
    rw [zig_unzig]
    exact (nbF_back hb b4.2.1 h1).2
  cases h
  rw [toN_relL]
  refine ⟨?_,⟨?_,?_⟩,⟨?_,?_⟩,⟨?_,?_⟩,⟨?_,?_⟩,s5⟩
  · dsimp only
    exact b1.join (b2.join (b3.join (b4.join b5)))
  all_goals dsimp only
  all_goals omega
def filF (all : List Nat) (p : Nat) : Rx ByteArray:=txtF all p 100
def manyF {α : Type} (f : Nat → Rx α) : Nat → Nat → Rx (List α)
  | 0,p=>.ok ([],p)
  | k + 1,p=>(f p).bind fun y=>(manyF f k y.2).bind fun z=>.ok (y.1 :: z.1,z.2)
def lstF {α : Type} (f : Nat → Rx α) (all : List Nat) (p most : Nat) : Rx (List α):=(upF all p most).bind fun y=>manyF f y.1 y.2
theorem many_fwd {α : Type} {f : Nat → Rx α} {g : α → List Nat} {all : List Nat} : ∀ (l : List α) (p q : Nat),Beg all p (l.flatMap g) q → (∀ x ∈ l,∀ p q,Beg all p (g x) q → f p = .ok (x,q)) → manyF f l.length p = .ok (l,q)
  | [],p,q,h,_=>by
    have:=h.1
    simp only [List.flatMap_nil,List.length_nil] at this
    rw [this]
    rfl
  | x :: l,p,q,h,hf=>by
    rw [List.flatMap_cons] at h
    obtain ⟨h1,h2⟩:=h.split
    rw [List.length_cons,manyF,hf x (by simp) _ _ h1]
    show (manyF f l.length _).bind _ = _
    rw [many_fwd l _ q h2 (fun y hy=>hf y (by simp [hy]))]
    rfl
theorem many_back {α : Type} {f : Nat → Rx α} {g : α → List Nat} {Q : α → Prop} {all : List Nat} (hf : ∀ p y,p ≤ all.length → f p = .ok y → Beg all p (g y.1) y.2 ∧ Q y.1) : ∀ (k p : Nat) (y : List α × Nat),p ≤ all.length → manyF f k p = .ok y → Beg all p (y.1.flatMap g) y.2 ∧ y.1.length = k ∧ ∀ x ∈ y.1,Q x
  | 0,p,y,hp,h=>by
    cases h
    exact ⟨Beg.nil hp,rfl,fun x hx=>by cases hx⟩
  | k + 1,p,y,hp,h=>by
    obtain ⟨a,e1,h⟩:=bind_ok h
    obtain ⟨b1,q1⟩:=hf _ _ hp e1
    obtain ⟨z,e2,h⟩:=bind_ok h
    obtain ⟨b2,l2,q2⟩:=many_back hf k _ _ b1.2.1 e2
    cases h
    refine ⟨by dsimp only;rw [List.flatMap_cons];exact b1.join b2,by dsimp only;rw [List.length_cons,l2],fun x hx=>?_⟩
    rcases List.mem_cons.1 hx with rfl | hx
    · exact q1
    · exact q2 x hx
def lstL {α : Type} (g : α → List Nat) (l : List α) : List Nat:=toN (numL l.length) ++ l.flatMap g
theorem lst_fwd {α : Type} {f : Nat → Rx α} {g : α → List Nat} {all : List Nat} {l : List α} {p q most : Nat} (h : Beg all p (lstL g l) q) (hl : l.length ≤ most) (hm : most ≤ 4294967295) (hf : ∀ x ∈ l,∀ p q,Beg all p (g x) q → f p = .ok (x,q)) : lstF f all p most = .ok (l,q):=by
  obtain ⟨b1,b2⟩:=h.split
  unfold lstF
  rw [upF_fwd b1 (by omega) hl]
  exact many_fwd l _ q b2 hf
theorem lst_back {α : Type} {f : Nat → Rx α} {g : α → List Nat} {Q : α → Prop} {all : List Nat} {p most : Nat} {y : List α × Nat} (hb : ∀ x ∈ all,x < 256) (hp : p ≤ all.length) (hf : ∀ p y,p ≤ all.length → f p = .ok y → Beg all p (g y.1) y.2 ∧ Q y.1) (h : lstF f all p most = .ok y) : Beg all p (lstL g y.1) y.2 ∧ y.1.length ≤ most ∧ ∀ x ∈ y.1,Q x:=by
  obtain ⟨a,e1,h⟩:=bind_ok h
  obtain ⟨b1,s1,_⟩:=upF_back hb hp e1
  obtain ⟨b2,l2,q2⟩:=many_back hf _ _ _ b1.2.1 h
  unfold lstL
  rw [l2]
  exact ⟨b1.join b2,s1,q2⟩
end Go.Ev

namespace Go.Ev
open Go.RowKit Go.Proofs Go.Rw
def SecV (m : SecM) (w : World) (v : Value) : Prop:=∃ g cap,v = .agg #[.string m.name,.int .i64 (m.rights : Int),.int .i64 (m.align : Int),.slice (some ⟨g,0,none⟩) m.bs.length cap,.int .i64 (m.zero : Int)] ∧ OwnB w g m.bs.length cap (fun j=>((m.bs.getD j 0 : Nat) : Int))
theorem RS.alloc {w : World} {R b o n c p : Nat} {all : List Nat} (h : RS w R b o n c all p) (A : Obj) : RS (w.alloc A) R b o n c all p:=h.keep (one_below w A)
theorem OwnB.stp {w w' : World} {g n cap R : Nat} {q : Nat → Int} (h : OwnB w g n cap q) (hs : Stp R w w') (hne : g ≠ R) : OwnB w' g n cap q:=by
  have hl:=h.low
  obtain ⟨cur,h,r⟩:=h
  exact ⟨cur,(hs.block g hl hne (fun e=>by cases e)).trans h,r⟩
theorem Stp.blk {R g : Nat} {w w' : World} (h : Stp R w w') (hg : g ≠ R) {x : Obj} (hx : w.heap[g]? = some x) : w'.heap[g]? = some x :=
  (h.block g (Array.getElem?_eq_some_iff.1 hx).1 hg (fun e=>by cases e)).trans hx
theorem set5 {w : World} {g : Nat} {a0 a1 a2 a3 a4 v0 v1 v2 v3 v4 : Value} {t : TypeId} (h : w.heap[g]? = some (.cells #[a0,a1,a2,a3,a4] t (0,0))) :
    (((((w.setCell ⟨g,0,none⟩ v0).setCell ⟨g,1,none⟩ v1).setCell ⟨g,2,none⟩ v2).setCell ⟨g,3,none⟩ v3).setCell ⟨g,4,none⟩ v4).heap[g]? = some (.cells #[v0,v1,v2,v3,v4] t (0,0)) :=
  heap_setCell_same _ _ 4 _ _ _ (heap_setCell_same _ _ 3 _ _ _ (heap_setCell_same _ _ 2 _ _ _ (heap_setCell_same _ _ 1 _ _ _ (heap_setCell_same _ _ 0 _ _ _ h))))
theorem Stp.far {R : Nat} {w w' : World} (h : Stp R w w') (i : Nat) (v : Value) : Stp R w (w'.setCell ⟨w.heap.size,i,none⟩ v):=Wst.setCell h (Nat.le_refl _) v
theorem RS.far {w : World} {R b o n c p g : Nat} {all : List Nat} (h : RS w R b o n c all p) (hg : g ≠ R) (hb : b < g) (i : Nat) (v : Value) : RS (w.setCell ⟨g,i,none⟩ v) R b o n c all p:=by
  have e : ∀ k,k ≠ g → (w.setCell ⟨g,i,none⟩ v).heap[k]? = w.heap[k]?:=fun k hk=>heap_setCell_other w ⟨g,i,none⟩ k v hk
  exact ⟨(e R (Ne.symm hg)).trans h.blk,⟨h.at_.1,h.at_.2.1,fun j hj=>(World.cell?_of_block (e b (by omega))).trans (h.at_.2.2 j hj)⟩,h.ne,by rw [World.size_setCell];exact h.low,h.pn,h.nc,h.nn⟩
theorem OwnB.far {w : World} {g n cap k : Nat} {q : Nat → Int} (h : OwnB w g n cap q) (hg : g ≠ k) (i : Nat) (v : Value) : OwnB (w.setCell ⟨k,i,none⟩ v) g n cap q:=by
  obtain ⟨cur,h,r⟩:=h
  exact ⟨cur,(heap_setCell_other w ⟨k,i,none⟩ g v hg).trans h,r⟩
theorem tkF_len {all : List Nat} {p k : Nat} {y : List Nat × Nat} (h : tkF all p k = .ok y) : y.1.length ≤ k:=by
  unfold tkF at h
  split at h
  · cases h
    dsimp only
    rw [List.length_take]
    omega
  · cases h
theorem cntF_len {all : List Nat} {p most : Nat} {y : List Nat × Nat} (h : cntF all p most = .ok y) : y.1.length ≤ most:=by
  obtain ⟨z,h1,h2⟩:=bind_ok h
  have:=tkF_len h2
  have:=(upF_le h1).1
  omega
set_option maxRecDepth 100000 in
set_option maxHeartbeats 4000000 in
theorem section2_c {w : World} {R b o n c p : Nat} {all : List Nat} (h : RS w R b o n c all p) : Calls Tryz.prog 176 #[.pointer (some ⟨R,0,none⟩)] w (RdR R b o n c all SecV (secF all p) w):=by
  have hr0:=(h.alloc (.cells #[.string ⟨#[]⟩,.int .i64 0,.int .i64 0,.slice none 0 0,.int .i64 0] 66)).drewN 1
  have hs0:=((Stp.refl R w).alloc (.cells #[.string ⟨#[]⟩,.int .i64 0,.int .i64 0,.slice none 0 0,.int .i64 0] 66)).drewN 1
  have hlow : w.heap.size ≠ R:=by have:=h.rlow;omega
  have hb0 : ((w.alloc (.cells #[.string ⟨#[]⟩,.int .i64 0,.int .i64 0,.slice none 0 0,.int .i64 0] 66)).drewN 1).heap[w.heap.size]? = some (.cells #[.string ⟨#[]⟩,.int .i64 0,.int .i64 0,.slice none 0 0,.int .i64 0] 66 (0,0)):=heap_alloc_new w _
  have ut : ∀ (W : World) (p : Nat),RS W R b o n c all p → Calls Tryz.prog 183 #[.pointer (some ⟨R,0,none⟩),.int .i64 40] W (RdR R b o n c all StrV (txtF all p 40) W):=fun W p hW=>text2_c (most:=40) hW (by omega)
  have un:=fun (W : World) (p : Nat) (hW : RS W R b o n c all p)=>number2_c hW
  have us:=fun (W : World) (p : Nat) (hW : RS W R b o n c all p)=>psgn_c hW
  have uc : ∀ (W : World) (p : Nat),RS W R b o n c all p → Calls Tryz.prog 184 #[.pointer (some ⟨R,0,none⟩),.int .i64 65536] W (RdR R b o n c all (BytV b) (cntF all p 65536) W):=fun W p hW=>counted2_c (most:=65536) hW (by omega)
  obtain ⟨M,hM⟩ : ∃ M,M = secF all p:=⟨_,rfl⟩
  rw [← hM]
  replace hM:=Lib.hid hM
  go_enter Tryz.func176,Tryz.ntmps176
  go_wp2_with fail
  refine wp_region_any (by kernel_rfl) ?_
  try (change wpAny _ _ _ _ _ _ _ (World.drew _))
  refine wpAny_take (i:=0) (v:=?_) rfl (by kernel_rfl) (by kernel_rfl) (by kernel_rfl) (fun _ _ _ h=>h) (Or.inl ⟨by rfl,?_⟩) ?_
  case refine_2=>(intro w;go_simp;(try with_reducible rfl))
  refine wpAny_take (i:=2) (v:=?_) rfl (by kernel_rfl) (by kernel_rfl) (by kernel_rfl) (fun _ _ _ h=>h) (Or.inl ⟨by rfl,?_⟩) ?_
  case refine_2=>(intro w;go_simp;(try with_reducible rfl))
  refine wpAny_take (i:=3) (v:=?_) rfl (by kernel_rfl) (by kernel_rfl) (by kernel_rfl) (fun _ _ _ h=>h) (Or.inl ⟨by rfl,?_⟩) ?_
  case refine_2=>(intro w;go_simp;(try with_reducible rfl))
  refine wpAny_take (i:=4) (v:=?_) rfl (by kernel_rfl) (by kernel_rfl) (by kernel_rfl) (fun _ _ _ h=>h) (Or.inl ⟨by rfl,?_⟩) ?_
  case refine_2=>(intro w;go_simp;(try with_reducible rfl))
  refine wpAny_take (i:=6) (v:=?_) rfl (by kernel_rfl) (by kernel_rfl) (by kernel_rfl) (fun _ _ _ h=>h) (Or.inl ⟨by rfl,?_⟩) ?_
  case refine_2=>(intro w;go_simp;(try with_reducible rfl))
  refine wpAny_take (i:=7) (v:=?_) rfl (by kernel_rfl) (by kernel_rfl) (by kernel_rfl) (fun _ _ _ h=>h) (Or.inl ⟨by rfl,?_⟩) ?_
  case refine_2=>(intro w;go_simp;(try with_reducible rfl))
  refine wpAny_take (i:=8) (v:=?_) rfl (by kernel_rfl) (by kernel_rfl) (by kernel_rfl) (fun _ _ _ h=>h) (Or.inl ⟨by rfl,?_⟩) ?_
  case refine_2=>(intro w;go_simp;(try with_reducible rfl))
  refine wpAny_take (i:=10) (v:=?_) rfl (by kernel_rfl) (by kernel_rfl) (by kernel_rfl) (fun _ _ _ h=>h) (Or.inl ⟨by rfl,?_⟩) ?_
  case refine_2=>(intro w;go_simp;(try with_reducible rfl))
  refine wpAny_take (i:=11) (v:=?_) rfl (by kernel_rfl) (by kernel_rfl) (by kernel_rfl) (fun _ _ _ h=>h) (Or.inl ⟨by rfl,?_⟩) ?_
  case refine_2=>(intro w;go_simp;(try with_reducible rfl))
  refine wpAny_take (i:=12) (v:=?_) rfl (by kernel_rfl) (by kernel_rfl) (by kernel_rfl) (fun _ _ _ h=>h) (Or.inl ⟨by rfl,?_⟩) ?_
  case refine_2=>(intro w;go_simp;(try with_reducible rfl))
  refine wpAny_take (i:=15) (v:=?_) rfl (by kernel_rfl) (by kernel_rfl) (by kernel_rfl) (fun _ _ _ h=>h) (Or.inl ⟨by rfl,?_⟩) ?_
  case refine_2=>(intro w;go_simp;(try with_reducible rfl))
  refine wpAny_take (i:=16) (v:=?_) rfl (by kernel_rfl) (by kernel_rfl) (by kernel_rfl) (fun _ _ _ h=>h) (Or.inl ⟨by rfl,?_⟩) ?_
  case refine_2=>(intro w;go_simp;(try with_reducible rfl))
  refine wpAny_take (i:=17) (v:=?_) rfl (by kernel_rfl) (by kernel_rfl) (by kernel_rfl) (fun _ _ _ h=>h) (Or.inl ⟨by rfl,?_⟩) ?_
  case refine_2=>(intro w;go_simp;(try with_reducible rfl))
  refine wpAny_ready (rs:=[1]) (by kernel_rfl) (by simp) ?_
  refine AllReady.cons rfl (fun K hK=>?_) AllReady.nil
  go_simp
  refine (ut _ _ hr0).mono ?_
  rintro e w1 ⟨hs1,hv1⟩
  cases hm1 : txtF all p 40 with
  | error x =>
    have hfin : M = .error x:=by rw [hM.out];simp only [secF,Except.bind,hm1]
    rw [hm1] at hv1
    subst hv1
    exact ⟨rfl,(hs0).trans hs1,by rw [hfin]⟩
  | ok y1 =>
  rw [hm1] at hv1
  obtain ⟨v1,rfl,rfl,hr1⟩:=hv1
  refine hK _ _ ?_
  clear hK K
  refine wpAny_ready (rs:=[5]) (by kernel_rfl) (by simp) ?_
  refine AllReady.cons rfl (fun K hK=>?_) AllReady.nil
  go_simp
  refine (un _ _ hr1).mono ?_
  rintro e w2 ⟨hs2,hv2⟩
  cases hm2 : nbF all y1.2 with
  | error x =>
    have hfin : M = .error x:=by rw [hM.out];simp only [secF,Except.bind,hm1,hm2]
    rw [hm2] at hv2
    subst hv2
    exact ⟨rfl,((hs0).trans hs1).trans hs2,by rw [hfin]⟩
  | ok y2 =>
  rw [hm2] at hv2
  obtain ⟨v2,rfl,rfl,hr2⟩:=hv2
  refine hK _ _ ?_
  clear hK K
  refine wpAny_ready (rs:=[9]) (by kernel_rfl) (by simp) ?_
  refine AllReady.cons rfl (fun K hK=>?_) AllReady.nil
  go_simp
  refine (un _ _ hr2).mono ?_
  rintro e w3 ⟨hs3,hv3⟩
  cases hm3 : nbF all y2.2 with
  | error x =>
    have hfin : M = .error x:=by rw [hM.out];simp only [secF,Except.bind,hm1,hm2,hm3]
    rw [hm3] at hv3
    subst hv3
    exact ⟨rfl,(((hs0).trans hs1).trans hs2).trans hs3,by rw [hfin]⟩
  | ok y3 =>
  rw [hm3] at hv3
  obtain ⟨v3,rfl,rfl,hr3⟩:=hv3
  refine hK _ _ ?_
  clear hK K
  refine wpAny_ready (rs:=[13]) (by kernel_rfl) (by simp) ?_
  refine AllReady.cons rfl (fun K hK=>?_) AllReady.nil
  go_simp
  refine (uc _ _ hr3).mono ?_
  rintro e w4 ⟨hs4,hv4⟩
  cases hm4 : cntF all y3.2 65536 with
  | error x =>
    have hfin : M = .error x:=by rw [hM.out];simp only [secF,Except.bind,hm1,hm2,hm3,hm4]
    rw [hm4] at hv4
    subst hv4
    exact ⟨rfl,((((hs0).trans hs1).trans hs2).trans hs3).trans hs4,by rw [hfin]⟩
  | ok y4 =>
  rw [hm4] at hv4
  obtain ⟨v4,rfl,hv4,hr4⟩:=hv4
  obtain ⟨o',rfl,hv4⟩:=hv4
  refine hK _ _ ?_
  clear hK K
  refine wpAny_ready (rs:=[14]) (by kernel_rfl) (by simp) ?_
  refine AllReady.cons rfl (fun K hK=>?_) AllReady.nil
  go_simp
  refine (bclone_some (q:=fun j=>((y4.1.getD j 0 : Nat) : Int)) (by have:=cntF_len hm4;omega) hv4).mono ?_
  rintro e wc ⟨g,cap,rfl,hge,hob,hbc⟩
  have hrc:=hr4.keep hbc
  have hsc:=Stp.of_below (R:=R) hbc
  have hgR : g ≠ R:=by have:=hr4.rlow;omega
  refine hK _ _ ?_
  clear hK K
  refine wpAny_ready (rs:=[18]) (by kernel_rfl) (by simp) ?_
  refine AllReady.cons rfl (fun K hK=>?_) AllReady.nil
  go_simp
  refine (un _ _ hrc).mono ?_
  rintro e w5 ⟨hs5,hv5⟩
  cases hm5 : nbF all y4.2 with
  | error x =>
    have hfin : M = .error x:=by rw [hM.out];simp only [secF,Except.bind,hm1,hm2,hm3,hm4,hm5]
    rw [hm5] at hv5
    subst hv5
    exact ⟨rfl,((((((hs0).trans hs1).trans hs2).trans hs3).trans hs4).trans hsc).trans hs5,by rw [hfin]⟩
  | ok y5 =>
  rw [hm5] at hv5
  obtain ⟨v5,rfl,rfl,hr5⟩:=hv5
  refine hK _ _ ?_
  clear hK K
  have hsA : Stp R ((w.alloc (.cells #[.string ⟨#[]⟩,.int .i64 0,.int .i64 0,.slice none 0 0,.int .i64 0] 66)).drewN 1) w5:=((((hs1.trans hs2).trans hs3).trans hs4).trans hsc).trans hs5
  have hb5:=hsA.blk hlow hb0
  have hz4 : w.heap.size < w4.heap.size:=(Array.getElem?_eq_some_iff.1 ((((hs1.trans hs2).trans hs3).trans hs4).blk hlow hb0)).1
  have c0 : w5.cell? ⟨w.heap.size,0,none⟩ = some (.string ⟨#[]⟩):=by simp [World.cell?,hb5]
  have c1 : w5.cell? ⟨w.heap.size,1,none⟩ = some (.int .i64 0):=by simp [World.cell?,hb5]
  have c2 : w5.cell? ⟨w.heap.size,2,none⟩ = some (.int .i64 0):=by simp [World.cell?,hb5]
  have c3 : w5.cell? ⟨w.heap.size,3,none⟩ = some (.slice none 0 0):=by simp [World.cell?,hb5]
  have c4 : w5.cell? ⟨w.heap.size,4,none⟩ = some (.int .i64 0):=by simp [World.cell?,hb5]
  have f0 : ∀ i,w5.frozen? ⟨w.heap.size,i,none⟩ = false:=fun i=>by simp [World.frozen?,hb5]
  have hsB:=hs0.trans hsA
  have hob5:=Lib.hid (hob.stp hs5 hgR)
  clear hob hs1 hs2 hs3 hs4 hsc hs5 hsA hb0 hr1 hr2 hr3 hr4 hrc hbc hs0 hr0 ut un us uc
  refine wpAny_take (i:=19) (v:=?_) rfl (by kernel_rfl) (by kernel_rfl) (by kernel_rfl) (fun _ _ _ h=>h) (Or.inl ⟨by rfl,?_⟩) ?_
  case refine_2=>(intro w;go_simp;(try with_reducible rfl))
  refine wpAny_ready (rs:=[20]) (by kernel_rfl) (by simp) ?_
  refine AllReady.cons rfl (fun K hK=>?_) AllReady.nil
  go_simp
  have hb6:=set5 (v0:=.string y1.1) (v1:=.int .i64 (y2.1 : Int)) (v2:=.int .i64 (y3.1 : Int)) (v3:=.slice (some ⟨g,0,none⟩) y4.1.length cap) (v4:=.int .i64 (y5.1 : Int)) hb5
  have hb:=h.low
  have hgw : g ≠ w.heap.size:=by omega
  have hs6:=Lib.hid (((((hsB.far 0 (.string y1.1)).far 1 (.int .i64 (y2.1 : Int))).far 2 (.int .i64 (y3.1 : Int))).far 3 (.slice (some ⟨g,0,none⟩) y4.1.length cap)).far 4 (.int .i64 (y5.1 : Int)))
  have hr6:=Lib.hid (((((hr5.far hlow hb 0 (.string y1.1)).far hlow hb 1 (.int .i64 (y2.1 : Int))).far hlow hb 2 (.int .i64 (y3.1 : Int))).far hlow hb 3 (.slice (some ⟨g,0,none⟩) y4.1.length cap)).far hlow hb 4 (.int .i64 (y5.1 : Int)))
  have hob6:=Lib.hid (((((hob5.out.far hgw 0 (.string y1.1)).far hgw 1 (.int .i64 (y2.1 : Int))).far hgw 2 (.int .i64 (y3.1 : Int))).far hgw 3 (.slice (some ⟨g,0,none⟩) y4.1.length cap)).far hgw 4 (.int .i64 (y5.1 : Int)))
  generalize (((((w5.setCell ⟨w.heap.size,0,none⟩ (.string y1.1)).setCell ⟨w.heap.size,1,none⟩ (.int .i64 (y2.1 : Int))).setCell ⟨w.heap.size,2,none⟩ (.int .i64 (y3.1 : Int))).setCell ⟨w.heap.size,3,none⟩ (.slice (some ⟨g,0,none⟩) y4.1.length cap)).setCell ⟨w.heap.size,4,none⟩ (.int .i64 (y5.1 : Int))) = w6 at hb6 hs6 hr6 hob6 ⊢
  clear c0 c1 c2 c3 c4 f0 hb5 hsB hob5 hr5
  have c0 : w6.cell? ⟨w.heap.size,0,none⟩ = some (.string y1.1):=by simp [World.cell?,hb6]
  have c1 : w6.cell? ⟨w.heap.size,1,none⟩ = some (.int .i64 (y2.1 : Int)):=by simp [World.cell?,hb6]
  have c2 : w6.cell? ⟨w.heap.size,2,none⟩ = some (.int .i64 (y3.1 : Int)):=by simp [World.cell?,hb6]
  have c3 : w6.cell? ⟨w.heap.size,3,none⟩ = some (.slice (some ⟨g,0,none⟩) y4.1.length cap):=by simp [World.cell?,hb6]
  have c4 : w6.cell? ⟨w.heap.size,4,none⟩ = some (.int .i64 (y5.1 : Int)):=by simp [World.cell?,hb6]
  have hfin:=Lib.hid (show M = .ok (⟨y1.1,y2.1,y3.1,y4.1,y5.1⟩,y5.2) by rw [hM.out];simp only [secF,Except.bind,hm1,hm2,hm3,hm4,hm5])
  refine hK _ _ ?_
  clear hK K hb6
  refine wpAny_done (by kernel_rfl) ?_ _
  go_wp2
  rw [hfin.out]
  refine ⟨rfl,_,?_,hs6.out,_,rfl,⟨g,cap,rfl,hob6.out⟩,hr6.out⟩
  simp [results,Tryz.results176,Tryz.f176,go_sem,c0,c1,c2,c3,c4]
end Go.Ev

