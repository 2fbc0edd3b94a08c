import Derived.Test.YtepopmplcjhfbaaGreatObG03
set_option linter.unusedSectionVars false
set_option linter.unusedVariables false
set_option linter.unusedSimpArgs false
set_option linter.unnecessarySimpa false
namespace Go.Ev
open Go.RowKit Go.Proofs Go.Rw
theorem wrap_in {z : Int} (h0 : -9223372036854775808 ≤ z) (h1 : z ≤ 9223372036854775807) : wrap64 z = z:=by unfold wrap64;omega
def AllAt (W : World) (b o n : Nat) (all : List Nat) : Prop:=all.length = n ∧ (∀ x ∈ all,x < 256) ∧ ∀ j,j < n → W.cell? ⟨b,o + j,none⟩ = some (.int .u8 ((all.getD j 0 : Nat) : Int))
def NumR (M p : Nat) (r : Option (Nat × Nat)) (w : World) (e : Ending) (w' : World) : Prop :=
  (r = none ∧ ∃ x y : Int,e = .panicked [fltV x y] ∧ ∃ k,w' = w.drewN k) ∨ (∃ x s : Nat,r = some (x,s) ∧ e = .returned (.int .i64 (x : Int)) ∧ ∃ k,w' = (w.setCell ⟨M,1,none⟩ (.int .i64 ((p + s : Nat) : Int))).drewN k)
theorem leadF_le {l : List Nat} {x s : Nat} (h : leadF l = some (x,s)) : 0 < s ∧ s ≤ l.length ∧ x ≤ 4294967295:=by
  have:=leadGo_le l 0 0 x s h
  omega
set_option maxRecDepth 100000 in
set_option maxHeartbeats 400000 in
theorem upTo_c {w : World} {M b o n c p : Nat} {v : LineT} {tv : Value} {all : List Nat} (h : MacB w M (some ⟨b,o,none⟩) n c (p : Int) v tv) (hA : AllAt w b o n all) (hbM : b ≠ M) (hp : p ≤ n) (hnc : n ≤ c) (hc : n ≤ 140737488351232) :
    Calls Tryz.prog 227 #[.pointer (some ⟨M,0,none⟩),.int .i64 4294967295] w (NumR M p (leadF (all.drop p)) w):=by
  obtain ⟨c0,c1,-⟩:=h.cells
  have f1:=h.frozen 1
  obtain ⟨a1,a2,a3⟩:=hA
  obtain ⟨R,hR⟩ : ∃ R,R = leadF (all.drop p):=⟨_,rfl⟩
  rw [← hR]
  have hl:=fun (W : World) (a : Option Addr) (c2 : Nat) (hb : BytesAt W a (all.drop p).length (fun j=>(((all.drop p).getD j 0 : Nat) : Int))) (hc2 : (all.drop p).length ≤ c2)=>lead_c (all.drop p) hb (fun x hx=>a2 x (List.mem_of_mem_drop hx)) (by rw [List.length_drop];omega) hc2
  have hlen : (all.drop p).length = n - p:=by rw [List.length_drop,a1]
  rw [← hR,hlen] at hl
  have hpn : (p : Int) ≤ (n : Int):=by omega
  by_cases hcp : c = p
  · subst hcp
    have hnc2 : n = c:=by omega
    subst hnc2
    rw [Nat.sub_self] at hl hlen
    obtain rfl : R = none:=by rw [hR,List.drop_eq_nil_of_le (by omega)];rfl
    have hcl:=show Calls Tryz.prog 238 #[.slice (some ⟨b,o,none⟩) 0 0] w fun e w'=>e = .returned (.tuple #[.int .i64 0,.int .i64 0]) ∧ ∃ k,w' = w.drewN k from hl w _ 0 (.inr ⟨b,o,rfl,fun j hj=>by omega⟩) (Nat.le_refl _)
    clear a2 a3 hR hl
    go_enter Tryz.func227,Tryz.ntmps227
    go_wp2_with fail
    refine hcl.mono ?_
    rintro e w1 ⟨rfl,q1,rfl⟩
    go_wp2_with (go_at_call 172;refine (must_no _ _).mono ?_;rintro e w2 ⟨rfl,rfl⟩)
    exact ⟨rfl,.inl ⟨rfl,_,_,rfl,_,rfl⟩⟩
  · have ha3 : ∀ j,j < n - p → w.cell? ⟨b,o + p + j,none⟩ = some (.int .u8 (((all.drop p).getD j 0 : Nat) : Int)):=fun j hj=>by
      have:=a3 (p + j) (by omega)
      rw [← Nat.add_assoc] at this
      rw [this]
      simp [List.getD,List.getElem?_drop]
    cases R with
    | none =>
      have hcl:=show Calls Tryz.prog 238 #[.slice (some ⟨b,o + p,none⟩) (n - p) (c - p)] w fun e w'=>e = .returned (.tuple #[.int .i64 0,.int .i64 0]) ∧ ∃ k,w' = w.drewN k from hl w _ _ (.inr ⟨b,o + p,rfl,ha3⟩) (by omega)
      clear a2 a3 hR hl ha3
      go_enter Tryz.func227,Tryz.ntmps227
      go_wp2_with fail
      refine hcl.mono ?_
      rintro e w1 ⟨rfl,q1,rfl⟩
      go_wp2_with (go_at_call 172;refine (must_no _ _).mono ?_;rintro e w2 ⟨rfl,rfl⟩)
      exact ⟨rfl,.inl ⟨rfl,_,_,rfl,_,rfl⟩⟩
    | some r =>
      obtain ⟨x,s⟩:=r
      have hcl:=show Calls Tryz.prog 238 #[.slice (some ⟨b,o + p,none⟩) (n - p) (c - p)] w fun e w'=>e = .returned (.tuple #[.int .i64 (x : Int),.int .i64 (s : Int)]) ∧ ∃ k,w' = w.drewN k from hl w _ _ (.inr ⟨b,o + p,rfl,ha3⟩) (by omega)
      obtain ⟨hs0,hs1,hx⟩:=leadF_le hR.symm
      rw [hlen] at hs1
      have hsd : decide ((0 : Int) < (s : Int)) = true:=decide_eq_true (by omega)
      have hsd2 : decide (0 < s) = true:=decide_eq_true (by omega)
      have hxd : decide ((x : Int) ≤ 4294967295) = true:=decide_eq_true (by omega)
      obtain ⟨q,hq⟩ : ∃ q : Nat,q = p + s:=⟨_,rfl⟩
      have hw3 : wrap64 ((p : Int) + (s : Int)) = (q : Int):=by rw [wrap_in (by omega) (by omega)];omega
      have hw4 : (p : Int) + (s : Int) = (q : Int):=by omega
      have hq2:=Lib.hid hq
      clear hq
      clear a2 a3 hR hl ha3
      go_enter Tryz.func227,Tryz.ntmps227
      go_wp2_with fail
      refine hcl.mono ?_
      rintro e w1 ⟨rfl,q1,rfl⟩
      go_wp2_with (go_at_call 172;refine (must_yes _ _).mono ?_;rintro e w2 ⟨rfl,rfl⟩)
      go_ret
      exact .inr ⟨x,s,rfl,rfl,q1,by rw [← hq2.out];rfl⟩
theorem rnumber_c {w : World} {M b o n c p : Nat} {v : LineT} {tv : Value} {all : List Nat} (h : MacB w M (some ⟨b,o,none⟩) n c (p : Int) v tv) (hA : AllAt w b o n all) (hbM : b ≠ M) (hp : p ≤ n) (hnc : n ≤ c) (hc : n ≤ 140737488351232) :
    Calls Tryz.prog 191 #[.pointer (some ⟨M,0,none⟩)] w (NumR M p (leadF (all.drop p)) w):=by
  have hu:=upTo_c h hA hbM hp hnc hc
  generalize leadF (all.drop p) = R at hu
  clear hA
  go_enter Tryz.func191,Tryz.ntmps191
  go_wp2_with fail
  refine hu.mono ?_
  rintro e w1 (⟨rfl,x,y,rfl,k,rfl⟩ | ⟨x,s,rfl,rfl,k,rfl⟩)
  · go_wp2
    exact ⟨rfl,.inl ⟨rfl,_,_,rfl,_,rfl⟩⟩
  · go_wp2
    go_ret
    exact .inr ⟨x,s,rfl,rfl,k,rfl⟩
def SigR (M p : Nat) (r : Option (Nat × Nat)) (w : World) (e : Ending) (w' : World) : Prop :=
  (r = none ∧ ∃ x y : Int,e = .panicked [fltV x y] ∧ ∃ k,w' = w.drewN k) ∨ (∃ x s : Nat,r = some (x,s) ∧ e = .returned (.int .i64 (unzig x)) ∧ ∃ k,w' = (w.setCell ⟨M,1,none⟩ (.int .i64 ((p + s : Nat) : Int))).drewN k)
set_option maxRecDepth 100000 in
theorem rsigned_c {w : World} {M b o n c p : Nat} {v : LineT} {tv : Value} {all : List Nat} (h : MacB w M (some ⟨b,o,none⟩) n c (p : Int) v tv) (hA : AllAt w b o n all) (hbM : b ≠ M) (hp : p ≤ n) (hnc : n ≤ c) (hc : n ≤ 140737488351232) :
    Calls Tryz.prog 192 #[.pointer (some ⟨M,0,none⟩)] w (SigR M p (leadF (all.drop p)) w):=by
  have hu:=rnumber_c h hA hbM hp hnc hc
  have hx:=fun x s (e : leadF (all.drop p) = some (x,s))=>(leadF_le e).2.2
  generalize leadF (all.drop p) = R at hu hx
  clear hA
  go_enter Tryz.func192,Tryz.ntmps192
  go_wp2_with fail
  refine hu.mono ?_
  rintro e w1 (⟨rfl,x,y,rfl,k,rfl⟩ | ⟨x,s,rfl,rfl,k,rfl⟩)
  · go_wp2
    exact ⟨rfl,.inl ⟨rfl,_,_,rfl,_,rfl⟩⟩
  · have hx:=hx x s rfl
    have e0 : (x : Int).tmod 2 = (x : Int) % 2:=Int.tmod_eq_emod_of_nonneg (by omega)
    obtain ⟨z,hz⟩ : ∃ z : Int,z = unzig x:=⟨_,rfl⟩
    by_cases hm : x % 2 = 1
    · have e1 : ((x : Int) % 2 == 1) = true:=beq_iff_eq.2 (by omega)
      have hz1 : z = -(((x + 1) / 2 : Nat) : Int):=by rw [hz];exact if_pos hm
      have e3 : (-((x : Int) + 1)).tdiv 2 = z:=by
        rw [Int.neg_tdiv,Int.tdiv_eq_ediv_of_nonneg (by omega)];omega
      have e4 : wrap64 ((x : Int) + 1) = (x : Int) + 1:=wrap_in (by omega) (by omega)
      have e5 : wrap64 (-((x : Int) + 1)) = -((x : Int) + 1):=wrap_in (by omega) (by omega)
      have e6 : wrap64 z = z:=wrap_in (by omega) (by omega)
      have hz:=Lib.hid hz
      clear hz1
      go_wp2
      go_ret
      exact .inr ⟨x,s,rfl,by rw [← hz.out];first | rfl | (show Ending.returned (Value.int IntKind.i64 (wrap64 z)) = _;rw [e6]),k,rfl⟩
    · have e1 : ((x : Int) % 2 == 1) = false:=beq_eq_false_iff_ne.2 (by omega)
      have hz1 : z = ((x / 2 : Nat) : Int):=by rw [hz];exact if_neg hm
      have e3 : (x : Int).tdiv 2 = z:=by rw [Int.tdiv_eq_ediv_of_nonneg (by omega)];omega
      have e6 : wrap64 z = z:=wrap_in (by omega) (by omega)
      have hz:=Lib.hid hz
      clear hz1
      go_wp2
      go_ret
      exact .inr ⟨x,s,rfl,by rw [← hz.out];first | rfl | (show Ending.returned (Value.int IntKind.i64 (wrap64 z)) = _;rw [e6]),k,rfl⟩
end Go.Ev

namespace Go.Ev
open Go.RowKit Go.Proofs Go.Rw
def TkR (M b o p : Nat) (w : World) (e : Ending) (w' : World) : Prop:=e = .returned (.slice (some ⟨b,o + p,none⟩) 1 1) ∧ ∃ k,w' = (w.setCell ⟨M,1,none⟩ (.int .i64 ((p + 1 : Nat) : Int))).drewN k
set_option maxRecDepth 100000 in
set_option maxHeartbeats 400000 in
theorem take1_c {w : World} {M b o n c p : Nat} {v : LineT} {tv : Value} (h : MacB w M (some ⟨b,o,none⟩) n c (p : Int) v tv) (hp : p < n) (hnc : n ≤ c) (hc : n ≤ 140737488351232) :
    Calls Tryz.prog 174 #[.pointer (some ⟨M,0,none⟩),.int .i64 1] w (TkR M b o p w):=by
  obtain ⟨c0,c1,-⟩:=h.cells
  have f1:=h.frozen 1
  obtain ⟨q,hq⟩ : ∃ q : Nat,q = p + 1:=⟨_,rfl⟩
  have e1 : (p : Int) + 1 = (q : Int):=by omega
  have e2 : wrap64 ((p : Int) + 1) = (q : Int):=by rw [wrap_in (by omega) (by omega)];omega
  have e3 : decide ((1 : Int) ≤ (n : Int) - (p : Int)) = true:=decide_eq_true (by omega)
  have hq2:=Lib.hid hq
  have hpq : p < q:=by omega
  have hqc : q ≤ c:=by omega
  have hqc' : (q : Int) ≤ (c : Int):=by omega
  have hpq' : (p : Int) ≤ (q : Int):=by omega
  have hqp : q - p = 1:=by omega
  have hqn : ¬ q = p:=by omega
  clear hq
  go_enter Tryz.func174,Tryz.ntmps174
  go_wp2_with (go_at_call 172;refine (must_yes _ _).mono ?_;rintro e w2 ⟨rfl,rfl⟩)
  go_quiet (fail)
  go_wp2
  go_ret
  exact ⟨rfl,_,by rw [← hq2.out]⟩
def flat (tab : List LineT) : List Value:=tab.flatMap LineT.cells
theorem flat_get : ∀ (tab : List LineT) (k : Nat) (x : LineT),tab[k]? = some x → ∀ (j : Nat) (u : Value),x.cells[j]? = some u → (flat tab)[k * 4 + j]? = some u
  | [],k,x,h,_,_,_=>by simp at h
  | y :: l,0,x,h,j,u,hj=>by
    cases h
    unfold flat
    rw [List.flatMap_cons,Nat.zero_mul,Nat.zero_add,List.getElem?_append_left (by have:=(List.getElem?_eq_some_iff.1 hj).1;simpa using this)]
    exact hj
  | y :: l,k + 1,x,h,j,u,hj=>by
    have:=flat_get l k x (by simpa using h) j u hj
    unfold flat at *
    rw [List.flatMap_cons,List.getElem?_append_right (by simp [LineT.cells];omega)]
    rw [show (k + 1) * 4 + j - (LineT.cells y).length = k * 4 + j by simp [LineT.cells];omega]
    exact this
theorem flat_snoc (tab : List LineT) (x : LineT) : flat (tab ++ [x]) = flat tab ++ x.cells:=by simp [flat]
theorem rows_of_own {W : World} {base : Nat} {tv : Value} {tab : List LineT} (h : W.ownsRow base 48 4 tv tab.length (flat tab)) : RowsAt W tv LineT.cells 4 tab:=by
  rcases h.2 with ⟨rfl,h0⟩ | ⟨g,cap,cur,rfl,_,hg,_⟩
  · have : tab = []:=List.eq_nil_of_length_eq_zero h0
    subst this
    exact ⟨none,0,rfl,.inl rfl⟩
  · refine ⟨_,cap,rfl,.inr ⟨g,0,rfl,fun k x hk j u hj=>?_⟩⟩
    have:=h.cells (g:=g) rfl (k * 4 + j) u (flat_get tab k x hk j u hj)
    rw [cell_add] at this
    rw [Nat.add_assoc]
    exact this
set_option maxRecDepth 100000 in
set_option maxHeartbeats 1000000 in
theorem canApp_c {w : World} {M n c : Nat} {ba : Option Addr} {p : Int} {v : LineT} {tv : Value} {tab : List LineT} (h : MacB w M ba n c p v tv) (hT : RowsAt w tv LineT.cells 4 tab) (hr : ∀ x ∈ tab,RngOk x) (hl : tab.length ≤ 4000) :
    Calls Tryz.prog 193 #[.pointer (some ⟨M,0,none⟩)] w fun e w'=>e = .returned (.bool (canAppB tab v)) ∧ Below w.heap.size w w':=by
  obtain ⟨-, -,c2,c3,c4,c5,c6⟩:=h.cells
  obtain ⟨ta,tc,rfl⟩:=rows_slice hT
  have t2:=fun d os=>cell_regrown c2 d os
  have t3:=fun d os=>cell_regrown c3 d os
  have t4:=fun d os=>cell_regrown c4 d os
  have t5:=fun d os=>cell_regrown c5 d os
  have t6:=fun d os=>cell_regrown c6 d os
  clear h
  obtain ⟨vs,vo,vf,vl⟩:=v
  dsimp only at c2 c3 c4 c5 t2 t3 t4 t5
  obtain ⟨R,hR⟩ : ∃ R,R = canAppB tab ⟨vs,vo,vf,vl⟩:=⟨_,rfl⟩
  rw [← hR]
  by_cases k1 : tab.length < 4000
  · have hd1 : decide ((tab.length : Int) < 4000) = true:=decide_eq_true (by omega)
    have hent:=fun W=>entry_c (w:=W) vs vo vf vl
    by_cases k2 : EntOk ⟨vs,vo,vf,vl⟩
    · rw [decide_eq_true k2] at hent
      by_cases k3 : tab.length = 0
      · have hRt : R = true:=by
          have : tab = []:=List.eq_nil_of_length_eq_zero k3
          rw [hR,this]
          unfold canAppB aheadB
          simp [k2]
        have hRt:=Lib.hid hRt
        have hd3 : ((tab.length : Int) == 0) = true:=beq_iff_eq.2 (by omega)
        clear hR k2 k3
        go_enter Tryz.func193,Tryz.ntmps193
        go_wp2_with fail
        refine wp_region_quiet_below (by kernel_rfl) (by kernel_rfl) ?_
        repeat (go_big_quiet_step (exact Calls.regrown_of (hent _)))
        refine wpQuiet_nil ?_
        intro _ hw'
        obtain ⟨⟨dq,osq⟩,hw''⟩:=hw'
        subst hw''
        have hb2:=below_regrown w dq osq
        go_wp2
        go_ret
        exact ⟨by rw [hRt.out];rfl,hb2⟩
      · obtain ⟨y,hy⟩ : ∃ y,tab[tab.length - 1]? = some y:=⟨tab[tab.length - 1],List.getElem?_eq_getElem (by omega)⟩
        have hlast : tab.getLast? = some y:=by rw [List.getLast?_eq_getElem?];exact hy
        have hyr:=hr y (List.mem_of_getElem? hy)
        obtain ⟨b,of,rfl⟩:=rows_some2 hT (k:=tab.length - 1) (by omega)
        obtain ⟨p0,p1,p2,p3⟩:=rows_line hT hy
        have hd3 : ((tab.length : Int) == 0) = false:=beq_eq_false_iff_ne.2 (by omega)
        have hk1 : (0 : Int) < (tab.length : Int):=by omega
        have hkw : wrap64 ((tab.length : Int) - 1) = ((tab.length - 1 : Nat) : Int):=by rw [wrap_in (by omega) (by omega)];omega
        have hki : (tab.length : Int) - 1 = ((tab.length - 1 : Nat) : Int):=by omega
        have hkl : ((tab.length - 1 : Nat) : Int) < (tab.length : Int):=by omega
        obtain ⟨ys,yo,yf,yl⟩:=y
        unfold RngOk at hyr
        have hvr:=k2.1
        unfold RngOk at hvr
        dsimp only at p0 p1 p2 p3 hyr hvr
        have u0:=fun d os=>cell_regrown p0 d os
        have u1:=fun d os=>cell_regrown p1 d os
        have u2:=fun d os=>cell_regrown p2 d os
        have u3:=fun d os=>cell_regrown p3 d os
        by_cases k4 : ys < vs ∨ (ys = vs ∧ yo + 1 ≤ vo)
        · have hRt : R = true:=by
            rw [hR]
            unfold canAppB aheadB
            rw [hlast]
            simp only [Bool.and_eq_true,decide_eq_true_eq]
            exact ⟨k1,k2,by omega⟩
          have hRt:=Lib.hid hRt
          clear hR k2 hlast hy
          go_enter Tryz.func193,Tryz.ntmps193
          go_wp2_with fail
          refine wp_region_quiet_below (by kernel_rfl) (by kernel_rfl) ?_
          repeat (go_big_quiet_step (first | exact Calls.regrown_of (hent _) | exact Calls.regrown_of (startOf_c _ _ _ _) | exact Calls.regrown_of (ahead_yes k4 (by omega) (by omega))))
          refine wpQuiet_nil ?_
          intro _ hw'
          obtain ⟨⟨dq,osq⟩,hw''⟩:=hw'
          subst hw''
          have hb2:=below_regrown w dq osq
          go_wp2
          go_ret
          exact ⟨by rw [hRt.out];rfl,hb2⟩
        · have hRt : R = false:=by
            rw [hR]
            unfold canAppB aheadB
            rw [hlast]
            rw [← Bool.not_eq_true]
            simp only [Bool.and_eq_true,decide_eq_true_eq]
            rintro ⟨_,_,h⟩
            exact k4 (by omega)
          have hRt:=Lib.hid hRt
          clear hR k2 hlast hy
          go_enter Tryz.func193,Tryz.ntmps193
          go_wp2_with fail
          refine wp_region_quiet_below (by kernel_rfl) (by kernel_rfl) ?_
          repeat (go_big_quiet_step (first | exact Calls.regrown_of (hent _) | exact Calls.regrown_of (startOf_c _ _ _ _) | exact Calls.regrown_of (ahead_no k4 (by omega) (by omega))))
          refine wpQuiet_nil ?_
          intro _ hw'
          obtain ⟨⟨dq,osq⟩,hw''⟩:=hw'
          subst hw''
          have hb2:=below_regrown w dq osq
          go_wp2
          go_ret
          exact ⟨by rw [hRt.out];rfl,hb2⟩
    · rw [decide_eq_false k2] at hent
      have hRt:=Lib.hid (show R = false by rw [hR];unfold canAppB;simp [k2])
      clear hR k2
      go_enter Tryz.func193,Tryz.ntmps193
      go_wp2_with fail
      refine wp_region_quiet_below (by kernel_rfl) (by kernel_rfl) ?_
      repeat (go_big_quiet_step (exact Calls.regrown_of (hent _)))
      refine wpQuiet_nil ?_
      intro _ hw'
      obtain ⟨⟨dq,osq⟩,hw''⟩:=hw'
      subst hw''
      have hb2:=below_regrown w dq osq
      go_wp2
      go_ret
      exact ⟨by rw [hRt.out];rfl,hb2⟩
  · have hd1 : decide ((tab.length : Int) < 4000) = false:=decide_eq_false (by omega)
    have hRt:=Lib.hid (show R = false by rw [hR];unfold canAppB;simp [k1])
    clear hR
    go_enter Tryz.func193,Tryz.ntmps193
    go_wp2_with fail
    refine wp_region_quiet_below (by kernel_rfl) (by kernel_rfl) ?_
    repeat (go_big_quiet_step (fail))
    refine wpQuiet_nil ?_
    intro _ hw'
    obtain ⟨⟨dq,osq⟩,hw''⟩:=hw'
    subst hw''
    have hb2:=below_regrown w dq osq
    go_wp2
    go_ret
    exact ⟨by rw [hRt.out];rfl,hb2⟩
end Go.Ev

namespace Go.Ev
open Go.RowKit Go.Proofs Go.Rw
def lastOf (tab : List LineT) : LineT:=tab.getLast?.getD default
theorem lastOf_snoc (tab : List LineT) (x : LineT) : lastOf (tab ++ [x]) = x:=by simp [lastOf]
theorem tab_nil : TabOk []:=⟨by simp,by simp,fun j x y h=>by simp at h⟩
theorem tab_snoc {tab : List LineT} {x : LineT} (h : TabOk tab) (hc : canAppB tab x = true) : TabOk (tab ++ [x]):=by
  unfold canAppB aheadB at hc
  simp only [Bool.and_eq_true,decide_eq_true_eq] at hc
  obtain ⟨h1,h2,h3⟩:=hc
  refine ⟨by simp;omega,fun y hy=>?_,fun j a b ha hb=>?_⟩
  · rcases List.mem_append.1 hy with hy | hy
    · exact h.2.1 y hy
    · rw [List.mem_singleton.1 hy];exact h2
  · have hbl:=(List.getElem?_eq_some_iff.1 hb).1
    simp only [List.length_append,List.length_singleton] at hbl
    rw [List.getElem?_append_left (by omega)] at ha
    by_cases hj : j + 1 < tab.length
    · rw [List.getElem?_append_left hj] at hb
      exact h.2.2 j a b ha hb
    · have e : j + 1 = tab.length:=by omega
      rw [e,List.getElem?_append_right (Nat.le_refl _),Nat.sub_self] at hb
      cases hb
      have hl : tab.getLast? = some a:=by
        rw [List.getLast?_eq_getElem?,show tab.length - 1 = j by omega]
        exact ha
      rw [hl] at h3
      exact of_decide_eq_true h3
theorem step_need {now v v' : LineT} {tab tab' : List LineT} {b : Nat} {bs r' : List Nat} (h : stepF v tab (b :: bs) = some (v',tab',r')) (h0 : RngOk now) (h1 : RngOk v) (hs : now.sec ≤ v.sec) (ho : v.sec = now.sec → now.off ≤ v.off) (hb : b < 256) :
    (∀ y ∈ r',y ∈ bs) ∧ ((tab' = tab ∧ RngOk v' ∧ now.sec ≤ v'.sec ∧ (v'.sec = now.sec → now.off ≤ v'.off) ∧ need now v' + r'.length ≤ need now v + (bs.length + 1)) ∨
    (tab' = tab ++ [v'] ∧ r' = bs ∧ canAppB tab v' = true ∧ RngOk v' ∧ (entryL now v').length ≤ need now v + 1)):=by
  have hsub : ∀ {l r : List Nat} {n : Nat},numF l = some (n,r) → ∀ y ∈ r,y ∈ l:=fun h y hy=>by
    obtain ⟨_,_,s,_,e,_⟩:=numF_len h
    rw [e] at hy
    exact List.mem_of_mem_drop hy
  have hod : 0 ≤ offD now v:=by
    unfold offD
    unfold RngOk at h1
    split
    · have:=ho (by assumption);omega
    · omega
  rw [stepF] at h
  by_cases b1 : b = 1
  · rw [if_pos b1] at h
    cases hn : numF bs with
    | none=>rw [hn] at h;cases h
    | some q =>
      obtain ⟨n,r⟩:=q
      rw [hn] at h
      obtain ⟨g1,rfl,rfl,rfl⟩:=chkF_some h
      have hnb:=numF_nb hn
      refine ⟨hsub hn,.inl ⟨rfl,g1,hs,fun e=>by have:=ho e;dsimp only;omega,?_⟩⟩
      have e1 : offD now ⟨v.sec,v.off + n,v.file,v.line⟩ = offD now v + n:=by unfold offD;dsimp only;omega
      have:=offNeed_add (n:=n) hod
      unfold need
      rw [e1]
      dsimp only
      omega
  · rw [if_neg b1] at h
    by_cases b2 : b = 2
    · rw [if_pos b2] at h
      cases hn : numF bs with
      | none=>rw [hn] at h;cases h
      | some q =>
        obtain ⟨n,r⟩:=q
        rw [hn] at h
        obtain ⟨g1,rfl,rfl,rfl⟩:=chkF_some h
        have hnb:=numF_nb hn
        refine ⟨hsub hn,.inl ⟨rfl,g1,hs,ho,?_⟩⟩
        have e1 : offD now ⟨v.sec,v.off,v.file,v.line + unzig n⟩ = offD now v:=rfl
        have e2 : v.line + unzig n - now.line = (v.line - now.line) + unzig n:=by omega
        have:=lineNeed_add (v.line - now.line) (unzig n)
        rw [zig_unzig] at this
        unfold need
        rw [e1]
        dsimp only
        rw [e2]
        omega
    · rw [if_neg b2] at h
      by_cases b3 : b = 3
      · rw [if_pos b3] at h
        cases hn : numF bs with
        | none=>rw [hn] at h;cases h
        | some q =>
          obtain ⟨n,r⟩:=q
          rw [hn] at h
          obtain ⟨g1,rfl,rfl,rfl⟩:=chkF_some h
          have hnb:=numF_nb hn
          have:=nb_pos n
          refine ⟨hsub hn,.inl ⟨rfl,g1,hs,ho,?_⟩⟩
          have e1 : offD now ⟨v.sec,v.off,(n : Int),v.line⟩ = offD now v:=rfl
          unfold need
          rw [e1]
          dsimp only
          split <;> split <;> split <;> omega
      · rw [if_neg b3] at h
        by_cases b4 : b = 4
        · rw [if_pos b4] at h
          cases hn : numF bs with
          | none=>rw [hn] at h;cases h
          | some q =>
            obtain ⟨n,r⟩:=q
            rw [hn] at h
            dsimp only [Option.bind] at h
            by_cases hn0 : n = 0
            · rw [if_pos hn0] at h;cases h
            · rw [if_neg hn0] at h
              obtain ⟨g1,rfl,rfl,rfl⟩:=chkF_some h
              have hnb:=numF_nb hn
              have:=nb_pos n
              have hne : ¬ (v.sec + (n : Int) = now.sec):=by omega
              refine ⟨hsub hn,.inl ⟨rfl,g1,by dsimp only;omega,fun e=>absurd e hne,?_⟩⟩
              have e1 : offD now ⟨v.sec + n,0,v.file,v.line⟩ = 0:=by unfold offD;dsimp only;rw [if_neg hne];rfl
              have e2 : offNeed 0 = 0:=rfl
              unfold need
              rw [e1,e2]
              dsimp only
              rw [if_neg hne]
              split <;> omega
        · rw [if_neg b4] at h
          by_cases b5 : 64 ≤ b
          · rw [if_pos b5] at h
            obtain ⟨g0,g1,rfl,rfl,rfl⟩:=emitF_some h
            exact ⟨fun y hy=>hy,.inr ⟨rfl,rfl,g0,g1,entry_need now v _ h0 g1 hs hod rfl rfl (((b - 64) / 16 * 4 : Nat) : Int) ((((b - 64) % 16 : Nat) : Int) - 4) (by omega) (by omega) (by omega) (by omega) (by omega) rfl rfl⟩⟩
          · rw [if_neg b5] at h
            by_cases b6 : b = 5
            · rw [if_pos b6] at h
              obtain ⟨g0,g1,rfl,rfl,rfl⟩:=emitF_some h
              exact ⟨fun y hy=>hy,.inr ⟨rfl,rfl,g0,g1,entry_need now v' v' h0 g1 hs hod rfl rfl 0 0 (by omega) (by omega) (by omega) (by omega) (by omega) (by omega) (by omega)⟩⟩
            · rw [if_neg b6] at h;cases h
theorem run_short : ∀ (k : Nat) (now v : LineT) (tab : List LineT) (bs : List Nat) (p : List LineT),runF k v tab bs = some p → (∀ y ∈ bs,y < 256) → RngOk now → RngOk v → now.sec ≤ v.sec → (v.sec = now.sec → now.off ≤ v.off) → TabOk tab →
    ∃ l',p = tab ++ l' ∧ TabOk p ∧ (packL now l').length ≤ need now v + bs.length
  | k,now,v,tab,[],p,h,_,h0,h1,hs,ho,ht=>by
    have e : p = tab:=by cases k <;> (unfold runF at h;cases h;rfl)
    subst e
    exact ⟨[],by simp,ht,by simp [packL]⟩
  | 0,now,v,tab,b :: bs,p,h,_,_,_,_,_,_=>by unfold runF at h;cases h
  | k + 1,now,v,tab,b :: bs,p,h,hby,h0,h1,hs,ho,ht=>by
    unfold runF at h
    cases hst : stepF v tab (b :: bs) with
    | none=>rw [hst] at h;cases h
    | some q =>
      obtain ⟨v',tab',r'⟩:=q
      rw [hst] at h
      dsimp only [Option.bind] at h
      obtain ⟨hsu,hst⟩:=step_need hst h0 h1 hs ho (hby b (List.mem_cons_self ..))
      rcases hst with ⟨rfl,g1,g2,g3,g4⟩ | ⟨rfl,rfl,g1,g2,g3⟩
      · obtain ⟨l',e1,e2,e3⟩:=run_short k now v' tab' r' p h (fun y hy=>hby y (List.mem_cons_of_mem _ (hsu y hy))) h0 g1 g2 g3 ht
        exact ⟨l',e1,e2,by rw [List.length_cons];omega⟩
      · obtain ⟨l',e1,e2,e3⟩:=run_short k v' v' _ r' p h (fun y hy=>hby y (List.mem_cons_of_mem _ hy)) g2 g2 (Int.le_refl _) (fun _=>Int.le_refl _) (tab_snoc ht g1)
        refine ⟨v' :: l',by rw [e1];simp,e2,?_⟩
        rw [need_self] at e3
        rw [packL,List.length_append,List.length_cons]
        omega
theorem unpack_short {bs : List Nat} {p : List LineT} (h : unpackF bs = some p) (hb : ∀ y ∈ bs,y < 256) : TabOk p ∧ (packL default p).length ≤ bs.length:=by
  obtain ⟨l',e1,e2,e3⟩:=run_short _ default default [] bs p h hb rng_default rng_default (Int.le_refl _) (fun _=>Int.le_refl _) tab_nil
  rw [List.nil_append] at e1
  subst e1
  rw [need_self] at e3
  exact ⟨e2,by omega⟩
def toN (l : List Int) : List Nat:=l.map Int.toNat
theorem toN_append (a b : List Int) : toN (a ++ b) = toN a ++ toN b:=by simp [toN]
theorem lead_num : ∀ (n i acc : Nat) (rest : List Nat),i + nbs n ≤ 5 → acc + n * 128 ^ i ≤ 4294967295 → (0 < i → 0 < n) → leadGo i acc (toN (numL n) ++ rest) = some (acc + n * 128 ^ i,i + nbs n):=by
  intro n
  induction n using Nat.strongRecOn with
  | ind n ih =>
    intro i acc rest h1 h2 h3
    have hp:=nb_pos n
    by_cases hn : n < 128
    · have e : nbs n = 1:=by unfold nbs;rw [numL_lt hn];rfl
      have e2 : n % 128 = n:=by omega
      rw [numL_lt hn]
      simp only [toN,List.map_cons,List.map_nil,List.cons_append,List.nil_append,Int.toNat_natCast]
      rw [leadGo,if_neg (by omega),if_pos hn,e2,if_neg (by omega),e]
    · have e : nbs n = nbs (n / 128) + 1:=by unfold nbs;rw [numL_ge hn,List.length_cons]
      have e2 : (n % 128 + 128) % 128 = n % 128:=by omega
      have e3 : acc + n % 128 * 128 ^ i + n / 128 * 128 ^ (i + 1) = acc + n * 128 ^ i:=by
        rw [Nat.pow_succ,Nat.add_assoc]
        congr 1
        rw [Nat.mul_comm (128 ^ i) 128,← Nat.mul_assoc,← Nat.add_mul]
        congr 1
        omega
      rw [numL_ge hn]
      simp only [toN,List.map_cons,List.cons_append,Int.toNat_natCast]
      rw [leadGo,if_neg (by omega),if_neg (by omega),e2]
      have:=ih (n / 128) (by omega) (i + 1) (acc + n % 128 * 128 ^ i) rest (by omega) (by rw [e3];exact h2) (fun _=>by omega)
      unfold toN at this
      rw [this,e3,e]
      congr 2
      omega
theorem toN_len (l : List Int) : (toN l).length = l.length:=by simp [toN]
theorem numF_num {n : Nat} (h : n ≤ 4294967295) (rest : List Nat) : numF (toN (numL n) ++ rest) = some (n,rest):=by
  have h5 : nbs n ≤ 5:=numL_len 4 n (by omega)
  have:=lead_num n 0 0 rest (by omega) (by omega) (by omega)
  unfold numF leadF
  rw [this]
  simp only [Option.map,Nat.zero_add,Nat.pow_zero,Nat.mul_one]
  congr 2
  have e : (toN (numL n)).length = nbs n:=toN_len _
  rw [← e,List.drop_left]
def Runs (v : LineT) (tab : List LineT) (bs : List Nat) (p : List LineT) : Prop:=∀ k,bs.length ≤ k → runF k v tab bs = some p
theorem runs_nil (v : LineT) (tab : List LineT) : Runs v tab [] tab:=fun k _=>by cases k <;> rfl
theorem runs_step {v v' : LineT} {tab tab' : List LineT} {b : Nat} {bs r' : List Nat} {p : List LineT} (h : stepF v tab (b :: bs) = some (v',tab',r')) (hl : r'.length ≤ bs.length) (hr : Runs v' tab' r' p) : Runs v tab (b :: bs) p:=fun k hk=>by
  cases k with
  | zero=>simp at hk
  | succ k =>
    rw [runF,h]
    exact hr k (by simp at hk;omega)
theorem chkF_ok {v : LineT} {tab : List LineT} {r : List Nat} (h : RngOk v) : chkF v tab r = some (v,tab,r):=if_pos h
theorem runs_off {v : LineT} {tab : List LineT} {rest : List Nat} {p : List LineT} {n : Nat} (hn : n ≤ 4294967295) (h : RngOk ⟨v.sec,v.off + n,v.file,v.line⟩) (hr : Runs ⟨v.sec,v.off + n,v.file,v.line⟩ tab rest p) : Runs v tab (1 :: (toN (numL n) ++ rest)) p :=
  runs_step (by rw [stepF,if_pos rfl,numF_num hn];exact chkF_ok h) (by simp) hr
theorem runs_line {v : LineT} {tab : List LineT} {rest : List Nat} {p : List LineT} {n : Nat} (hn : n ≤ 4294967295) (h : RngOk ⟨v.sec,v.off,v.file,v.line + unzig n⟩) (hr : Runs ⟨v.sec,v.off,v.file,v.line + unzig n⟩ tab rest p) : Runs v tab (2 :: (toN (numL n) ++ rest)) p :=
  runs_step (by rw [stepF,if_neg (by decide),if_pos rfl,numF_num hn];exact chkF_ok h) (by simp) hr
theorem runs_file {v : LineT} {tab : List LineT} {rest : List Nat} {p : List LineT} {n : Nat} (hn : n ≤ 4294967295) (h : RngOk ⟨v.sec,v.off,n,v.line⟩) (hr : Runs ⟨v.sec,v.off,n,v.line⟩ tab rest p) : Runs v tab (3 :: (toN (numL n) ++ rest)) p :=
  runs_step (by rw [stepF,if_neg (by decide),if_neg (by decide),if_pos rfl,numF_num hn];exact chkF_ok h) (by simp) hr
theorem runs_sec {v : LineT} {tab : List LineT} {rest : List Nat} {p : List LineT} {n : Nat} (hn : n ≤ 4294967295) (h0 : n ≠ 0) (h : RngOk ⟨v.sec + n,0,v.file,v.line⟩) (hr : Runs ⟨v.sec + n,0,v.file,v.line⟩ tab rest p) : Runs v tab (4 :: (toN (numL n) ++ rest)) p :=
  runs_step (by rw [stepF,if_neg (by decide),if_neg (by decide),if_neg (by decide),if_pos rfl,numF_num hn];dsimp only [Option.bind];rw [if_neg h0];exact chkF_ok h) (by simp) hr
theorem unzig_zig (z : Int) : unzig (zig z) = z:=by
  unfold unzig zig
  split
  · rw [if_pos (by omega)];omega
  · rw [if_neg (by omega)];omega
theorem runs_last {v x : LineT} {tab : List LineT} {rest : List Nat} {p : List LineT} {z : Nat} (hz : 64 ≤ z) (hx : x = ⟨v.sec,v.off + ((z - 64) / 16 * 4 : Nat),v.file,v.line + (((z - 64) % 16 : Nat) - 4)⟩) (hc : canAppB tab x = true) (h : RngOk x) (hr : Runs x (tab ++ [x]) rest p) : Runs v tab (z :: rest) p :=
  runs_step (by
    rw [stepF,if_neg (by omega),if_neg (by omega),if_neg (by omega),if_neg (by omega),if_pos hz,← hx]
    unfold emitF
    rw [if_pos hc]
    exact chkF_ok h) (Nat.le_refl _) hr
end Go.Ev

namespace Go.Ev
open Go.RowKit Go.Proofs Go.Rw
theorem runs_entry {now x : LineT} {tab : List LineT} {rest : List Nat} {p : List LineT} (h0 : RngOk now) (h1 : RngOk x) (hs : now.sec ≤ x.sec) (ho : now.sec = x.sec → now.off ≤ x.off) (hc : canAppB tab x = true) (hr : Runs x (tab ++ [x]) rest p) : Runs now tab (toN (entryL now x) ++ rest) p:=by
  obtain ⟨ns,no,nf,nl⟩:=now
  obtain ⟨xs,xo,xf,xl⟩:=x
  unfold RngOk at h0 h1
  dsimp only at h0 h1 hs ho
  obtain ⟨o0,ho0⟩ : ∃ o0 : Int,o0 = if xs = ns then no else 0:=⟨_,rfl⟩
  have hd : offD ⟨ns,no,nf,nl⟩ ⟨xs,xo,xf,xl⟩ = xo - o0:=by rw [ho0];rfl
  have ho1 : 0 ≤ o0 ∧ o0 ≤ xo:=by
    rw [ho0]
    split
    · have:=ho (by omega);omega
    · omega
  obtain ⟨d,hdd⟩ : ∃ d : Int,d = xo - o0:=⟨_,rfl⟩
  obtain ⟨e,hee⟩ : ∃ e : Int,e = xl - nl:=⟨_,rfl⟩
  have hB:=offB_in (d:=d) (by omega) (by omega)
  have hL:=lineB_in (d:=e) (by omega) (by omega)
  have hq : (d - offB d) % 4 = 0:=by unfold offB at hB ⊢;split at * <;> omega
  unfold entryL
  rw [hd,← hdd,toN_append,toN_append,toN_append,toN_append,List.append_assoc,List.append_assoc,List.append_assoc,List.append_assoc]
  dsimp only
  rw [← hee]
  -- the last byte
  have k5 : Runs ⟨xs,o0 + offB d,xf,nl + lineB e⟩ tab (toN [lastP d e] ++ rest) p:=by
    obtain ⟨j,hj⟩ : ∃ j : Nat,d - offB d = 4 * (j : Int):=⟨((d - offB d) / 4).toNat,by omega⟩
    obtain ⟨m,hm⟩ : ∃ m : Nat,e - lineB e + 4 = (m : Int):=⟨(e - lineB e + 4).toNat,by omega⟩
    have hz : lastP d e = ((64 + 16 * j + m : Nat) : Int):=by unfold lastP;rw [hj];omega
    have h1' : (64 + 16 * j + m - 64) / 16 = j:=by omega
    have h2' : (64 + 16 * j + m - 64) % 16 = m:=by omega
    rw [hz]
    refine runs_last (x:=⟨xs,xo,xf,xl⟩) (z:=64 + 16 * j + m) (by omega) ?_ hc (by unfold RngOk;exact h1) hr
    rw [h1',h2']
    congr 1
    · dsimp only
      omega
    · dsimp only
      omega
  -- the lines
  have hlm : -1048576 ≤ nl + lineB e ∧ 0 ≤ nl + lineB e ∧ nl + lineB e ≤ 1048576:=by
    unfold lineB at hL ⊢
    repeat' split
    all_goals omega
  have k4 : Runs ⟨xs,o0 + offB d,xf,nl⟩ tab (toN (lineP e) ++ (toN [lastP d e] ++ rest)) p:=by
    unfold lineP
    by_cases hz : lineB e = 0
    · rw [if_pos hz]
      rw [hz,Int.add_zero] at k5
      exact k5
    · rw [if_neg hz]
      refine runs_line (v:=⟨xs,o0 + offB d,xf,nl⟩) (n:=zig (lineB e)) (by unfold zig;split <;> omega) ?_ ?_
      · rw [unzig_zig];unfold RngOk;dsimp only;omega
      · rw [unzig_zig];exact k5
  have k3 : Runs ⟨xs,o0,xf,nl⟩ tab (toN (offP d) ++ (toN (lineP e) ++ (toN [lastP d e] ++ rest))) p:=by
    unfold offP
    by_cases hz : offB d = 0
    · rw [if_pos hz]
      rw [hz,Int.add_zero] at k4
      exact k4
    · rw [if_neg hz]
      have e1 : ((offB d).toNat : Int) = offB d:=by omega
      refine runs_off (v:=⟨xs,o0,xf,nl⟩) (n:=(offB d).toNat) (by omega) ?_ ?_
      · rw [e1];unfold RngOk;dsimp only;omega
      · rw [e1];exact k4
  have k2 : Runs ⟨xs,o0,nf,nl⟩ tab (toN (fileP ⟨ns,no,nf,nl⟩ ⟨xs,xo,xf,xl⟩) ++ (toN (offP d) ++ (toN (lineP e) ++ (toN [lastP d e] ++ rest)))) p:=by
    unfold fileP
    dsimp only
    by_cases hz : xf = nf
    · rw [if_pos hz]
      rw [hz] at k3
      exact k3
    · rw [if_neg hz]
      have e1 : (xf.toNat : Int) = xf:=by omega
      refine runs_file (v:=⟨xs,o0,nf,nl⟩) (n:=xf.toNat) (by omega) ?_ ?_
      · rw [e1];unfold RngOk;dsimp only;omega
      · rw [e1];exact k3
  unfold secP
  dsimp only
  by_cases hz : xs = ns
  · rw [if_pos hz]
    rw [if_pos hz] at ho0
    rw [ho0,hz] at k2
    rw [hz]
    exact k2
  · rw [if_neg hz]
    rw [if_neg hz] at ho0
    have e1 : ((xs - ns).toNat : Int) = xs - ns:=by omega
    have e2 : ns + (xs - ns) = xs:=by omega
    refine runs_sec (v:=⟨ns,no,nf,nl⟩) (n:=(xs - ns).toNat) (by omega) (by omega) ?_ ?_
    · rw [e1];unfold RngOk;dsimp only;omega
    · rw [e1]
      dsimp only
      rw [e2]
      rw [ho0] at k2
      exact k2
theorem runs_pack : ∀ (l : List LineT) (now : LineT) (tab : List LineT),now = lastOf tab → RngOk now → TabOk (tab ++ l) → Runs now tab (toN (packL now l)) (tab ++ l)
  | [],now,tab,_,_,_=>by
    rw [List.append_nil]
    exact runs_nil now tab
  | x :: l,now,tab,e,h0,ht=>by
    have hx : (tab ++ x :: l)[tab.length]? = some x:=by rw [List.getElem?_append_right (Nat.le_refl _),Nat.sub_self];rfl
    have hxe:=ht.2.1 x (List.mem_of_getElem? hx)
    have hlen:=ht.1
    rw [List.length_append,List.length_cons] at hlen
    have hlast : ∀ y,tab.getLast? = some y → y.sec < x.sec ∨ (y.sec = x.sec ∧ y.off < x.off):=fun y hy=>by
      have h1 : 0 < tab.length:=by
        cases tab with
        | nil=>simp at hy
        | cons a b=>simp
      rw [List.getLast?_eq_getElem?] at hy
      have h2:=ht.2.2 (tab.length - 1) y x (by rw [List.getElem?_append_left (by omega)];exact hy) (by rw [show tab.length - 1 + 1 = tab.length by omega];exact hx)
      exact h2
    have hord : now.sec ≤ x.sec ∧ (now.sec = x.sec → now.off ≤ x.off):=by
      rw [e]
      unfold lastOf
      cases hy : tab.getLast? with
      | none =>
        have:=hxe.1
        unfold RngOk at this
        exact ⟨this.1.1,fun _=>this.2.1.1⟩
      | some y =>
        have:=hlast y hy
        dsimp only [Option.getD]
        omega
    have hc : canAppB tab x = true:=by
      unfold canAppB aheadB
      simp only [Bool.and_eq_true,decide_eq_true_eq]
      refine ⟨by omega,hxe,?_⟩
      cases hy : tab.getLast? with
      | none=>rfl
      | some y=>exact decide_eq_true (hlast y hy)
    rw [packL,toN_append]
    refine runs_entry h0 hxe.1 hord.1 hord.2 hc ?_
    have:=runs_pack l x (tab ++ [x]) (lastOf_snoc tab x).symm hxe.1 (by simpa using ht)
    simpa using this
theorem unpack_pack {l : List LineT} (h : TabOk l) : unpackF (toN (packL default l)) = some l:=by
  have:=runs_pack l default [] rfl rng_default (by simpa using h)
  rw [List.nil_append] at this
  exact this _ (Nat.le_refl _)
end Go.Ev

