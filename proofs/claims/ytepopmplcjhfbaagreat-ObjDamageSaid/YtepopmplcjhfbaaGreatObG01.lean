import Derived.Test.YtepopmplcjhfbaaGreatObG00
import Derived.BigQuiet
import Derived.Lib.Hide
import Derived.Deep.DeepAppendRoom
import Derived.Deep.WholeRow
import Derived.Laws.Rows
set_option linter.unusedSectionVars false
set_option linter.unusedVariables false
set_option linter.unusedSimpArgs false
set_option linter.unnecessarySimpa false
namespace Go.Ev
open Go.RowKit Go.Proofs Go.Rw
def LineT.ok (x : LineT) : Prop:=0 ≤ x.sec ∧ x.sec ≤ 15 ∧ 0 ≤ x.off ∧ x.off ≤ 65535 ∧ 0 ≤ x.file ∧ 0 ≤ x.line
def Steps (l : List LineT) : Prop:=∀ (j : Nat) (x y : LineT),l[j]? = some x → l[j + 1]? = some y → x.sec < y.sec ∨ (x.sec = y.sec ∧ x.off < y.off)
def TabR (l : List LineT) (w : World) (e : Ending) (w' : World) : Prop:=∃ r : Bool,e = .returned (.bool r) ∧ Below w.heap.size w w' ∧ (r = true → l.length ≤ 4000 ∧ (∀ x ∈ l,x.ok) ∧ Steps l)
end Go.Ev

namespace Go.Ev
open Go.RowKit Go.Proofs Go.Rw
noncomputable def dec (p : Prop) : Bool:=@decide p (Classical.propDecidable p)
theorem dec_yes {p : Prop} (h : p) : dec p = true:=by unfold dec;exact @decide_eq_true _ (Classical.propDecidable p) h
theorem dec_no {p : Prop} (h : ¬ p) : dec p = false:=by unfold dec;exact @decide_eq_false _ (Classical.propDecidable p) h
theorem dec_iff {p : Prop} : dec p = true ↔ p:=by unfold dec;exact @decide_eq_true_iff p (Classical.propDecidable p)
def TabOk (l : List LineT) : Prop:=l.length ≤ 4000 ∧ (∀ x ∈ l,EntOk x) ∧ Steps l
theorem enters187 : ∀ args w,(callFunc 187 args).run Tryz.prog w = .ok (.enter 187 args) w:=enters_of Tryz.func187 (by kernel_rfl) rfl
theorem enters132 : ∀ args w,(callFunc 132 args).run Tryz.prog w = .ok (.enter 132 args) w:=enters_of Tryz.func132 (by kernel_rfl) rfl
set_option maxRecDepth 100000 in
set_option maxHeartbeats 1000000 in
theorem apart_line {w : World} {s : Value} {l : List LineT} (h : RowsAt w s LineT.cells 4 l) (hl : l.length ≤ 140737488351232) (hr : ∀ x ∈ l,RngOk x) :
    Calls Tryz.prog 188 #[s,.func (.func 132) #[] #[]] w fun e w'=>e = .returned (.bool (dec (Steps l))) ∧ Below w.heap.size w w':=by
  obtain ⟨a,c,rfl⟩:=rows_slice h
  obtain ⟨r,hrr⟩ : ∃ r,r = dec (Steps l):=⟨_,rfl⟩
  rw [← hrr]
  have hrr:=Lib.hid hrr
  have e132:=enters132
  go_enter Tryz.func188,Tryz.ntmps188
  go_wp2
  go_loopw [8] (fun i wr=>∃ k : Nat,k ≤ l.length ∧ i = .int .i64 k ∧ Below w.heap.size w wr ∧ (∀ (j : Nat) (x y : LineT),j + 1 < k → l[j]? = some x → l[j + 1]? = some y → x.sec < y.sec ∨ (x.sec = y.sec ∧ x.off < y.off))) (fun i _=>l.length - (intOf i).toNat)
  case atStart=>exact ⟨0,by omega,rfl,Below.refl _ _,fun j x y hj=>by omega⟩
  case round =>
    obtain ⟨k,hk,rfl,hbl,hA⟩:=hrel
    have hA:=Lib.hid hA
    by_cases hlt : k < l.length
    · obtain ⟨b,of,rfl⟩:=rows_some2 h hlt
      have hlt' : (k : Int) < (l.length : Int):=by omega
      have hB:=hbl.size
      by_cases hk0 : 0 < k
      · obtain ⟨x,hx⟩ : ∃ x,l[k]? = some x:=⟨l[k],by simp [hlt]⟩
        obtain ⟨y,hy⟩ : ∃ y,l[k - 1]? = some y:=⟨l[k - 1],List.getElem?_eq_getElem (by omega)⟩
        have hxr:=hr x (List.mem_of_getElem? hx)
        have hyr:=hr y (List.mem_of_getElem? hy)
        obtain ⟨g0,g1,g2,g3⟩:=rows_line (h.below hbl) hx
        obtain ⟨p0,p1,p2,p3⟩:=rows_line (h.below hbl) hy
        have hx:=Lib.hid hx
        have hy:=Lib.hid hy
        obtain ⟨xs,xo,xf,xl⟩:=x
        obtain ⟨ys,yo,yf,yl⟩:=y
        unfold RngOk at hxr hyr
        dsimp only at g0 g1 g2 g3 p0 p1 p2 p3 hxr hyr
        have t0:=fun d os=>cell_regrown g0 d os
        have t1:=fun d os=>cell_regrown g1 d os
        have t2:=fun d os=>cell_regrown g2 d os
        have t3:=fun d os=>cell_regrown g3 d os
        have u0:=fun d os=>cell_regrown p0 d os
        have u1:=fun d os=>cell_regrown p1 d os
        have u2:=fun d os=>cell_regrown p2 d os
        have u3:=fun d os=>cell_regrown p3 d os
        have hk1 : (0 : Int) < (k : Int):=by omega
        have hkd : decide ((0 : Int) < (k : Int)) = true:=decide_eq_true hk1
        have hkd2 : decide (0 < k) = true:=decide_eq_true hk0
        have hki : (k : Int) - 1 = ((k - 1 : Nat) : Int):=by omega
        have hkw : wrap64 ((k : Int) - 1) = ((k - 1 : Nat) : Int):=by unfold wrap64;omega
        have hkl : ((k - 1 : Nat) : Int) < (l.length : Int):=by omega
        by_cases hc : ys < xs ∨ (ys = xs ∧ yo + 1 ≤ xo)
        · go_wp2_with fail
          refine wp_region_quiet_below (by kernel_rfl) (by kernel_rfl) ?_
          repeat (go_big_quiet_step (first | exact Calls.regrown_of (startOf_c _ _ _ _) | exact Calls.regrown_of (ahead_yes hc (by omega) (by omega))))
          refine wpQuiet_nil ?_
          intro _ hw'
          obtain ⟨⟨dq,osq⟩,hw''⟩:=hw'
          subst hw''
          have hb2:=below_regrown wr dq osq
          go_wp2
          go_roundw
          case rel =>
            refine ⟨k + 1,by omega,by go_num,bel_then hbl (Nat.le_refl _) hb2,fun j x' y' hj hx' hy'=>?_⟩
            by_cases hjk : j + 1 < k
            · exact hA.out j x' y' hjk hx' hy'
            · obtain rfl : k = j + 1:=by omega
              rw [hx.out] at hy'
              have hy2:=hy.out
              rw [Nat.add_sub_cancel,hx'] at hy2
              cases hy'
              cases hy2
              dsimp only
              omega
          case measure=>simp [intOf];omega
        · have hf:=Lib.hid (show r = false by
            rw [hrr.out]
            refine dec_no fun hS=>hc ?_
            have:=hS (k - 1) _ _ hy.out (by rw [show k - 1 + 1 = k from by omega];exact hx.out)
            dsimp only at this
            omega)
          go_wp2_with fail
          refine wp_region_quiet_below (by kernel_rfl) (by kernel_rfl) ?_
          repeat (go_big_quiet_step (first | exact Calls.regrown_of (startOf_c _ _ _ _) | exact Calls.regrown_of (ahead_no hc (by omega) (by omega))))
          refine wpQuiet_nil ?_
          intro _ hw'
          obtain ⟨⟨dq,osq⟩,hw''⟩:=hw'
          subst hw''
          have hb2:=below_regrown wr dq osq
          go_wp2
          go_ret
          exact ⟨by rw [hf.out];rfl,bel_then hbl (Nat.le_refl _) hb2⟩
      · obtain rfl : k = 0:=by omega
        have hkd : decide ((0 : Int) < 0) = false:=decide_eq_false (by omega)
        go_wp2_with fail
        go_quiet (fail)
        go_wp2
        go_roundw
        case rel=>exact ⟨1,by omega,by go_num,below_drewN hbl _,fun j x' y' hj=>by omega⟩
        case measure=>simp [intOf];omega
    · have : k = l.length:=by omega
      subst this
      have hf:=Lib.hid (show r = true by
        rw [hrr.out]
        exact dec_yes fun j x y hx hy=>hA.out j x y (List.getElem?_eq_some_iff.1 hy).1 hx hy)
      go_wp2
      go_ret
      exact ⟨by rw [hf.out];rfl,hbl⟩
set_option maxRecDepth 100000 in
theorem isTable_c {w : World} {s : Value} {l : List LineT} (h : RowsAt w s LineT.cells 4 l) (hl : l.length ≤ 140737488351232) :
    Calls Tryz.prog 101 #[s] w fun e w'=>e = .returned (.bool (dec (TabOk l))) ∧ Below w.heap.size w w':=by
  have hev:=every_line h hl 4000 187 #[] enters187 (fun x=>decide (EntOk x)) (fun W hW x hx=>entry_c _ _ _ _)
  by_cases c0 : (l.length : Int) ≤ 4000 ∧ ∀ x ∈ l,EntOk x
  · have hap:=fun W (hW : Below w.heap.size w W)=>apart_line (h.below hW) hl (fun x hx=>(c0.2 x hx).1)
    rw [show (decide ((l.length : Int) ≤ 4000) && l.all fun x=>decide (EntOk x)) = true by simp;exact ⟨by omega,c0.2⟩] at hev
    have c0:=Lib.hid c0
    obtain ⟨r,hr⟩ : ∃ r,r = dec (Steps l):=⟨_,rfl⟩
    have hrt : dec (TabOk l) = r:=by
      rw [hr]
      unfold dec
      congr 1
      exact propext ⟨fun h=>h.2.2,fun h=>⟨by have:=c0.out.1;omega,c0.out.2,h⟩⟩
    rw [hrt]
    rw [← hr] at hap
    clear hr hrt
    go_enter Tryz.func101,Tryz.ntmps101
    go_wp2_with fail
    refine hev.mono ?_
    rintro e w1 ⟨rfl,hb1⟩
    go_wp2_with fail
    refine (hap w1 hb1).mono ?_
    rintro e w2 ⟨rfl,hb2⟩
    go_wp2
    go_ret
    exact ⟨rfl,bel_then hb1 (Nat.le_refl _) hb2⟩
  · rw [show (decide ((l.length : Int) ≤ 4000) && l.all fun x=>decide (EntOk x)) = false by
      rw [← Bool.not_eq_true]
      simp only [Bool.and_eq_true,decide_eq_true_eq,List.all_eq_true]
      exact c0] at hev
    rw [show dec (TabOk l) = false from dec_no fun h=>c0 ⟨by have:=h.1;omega,h.2.1⟩]
    clear c0
    go_enter Tryz.func101,Tryz.ntmps101
    go_wp2_with fail
    refine hev.mono ?_
    rintro e w1 ⟨rfl,hb1⟩
    go_wp2
    go_ret
    exact ⟨rfl,hb1⟩
end Go.Ev

namespace Go.Ev
open Go.RowKit Go.Proofs Go.Rw
section
variable {P : Program}
theorem run_append_fresh (w : World) (base : Nat) (t ty e : TypeId) (i : TypeInfo) (z : Value) (size bytes : Nat) (ht : P.underlying t = some (.slice e)) (hi : P.info? e = some i) (hz : i.zero = some z)
    (hsize : i.size = size) (hby : i.bytes = bytes) (hzs : z.cells.size = size) (hsz : 0 < size)
    (v : Value) (n : Nat) (xs : List Value) (hown : w.ownsRow base e size v n xs)
    (a : Addr) (m c : Nat) (news : List Value) (hl : news.length = m * size) (hnews : ∀ j u,news[j]? = some u → w.cell? (a.add j) = some u) (h1 : ∀ u ∈ news,u.oneCell' = true)
    (h63 : n + m ≤ maxLen) (hbytes : (n + m) * bytes ≤ 140737488355328) (hbase : base ≤ w.heap.size) :
    ∃ v' w',(Builtin.append_ #[t,t] ty #[v,.slice (some a) m c]).run P w = .ok v' w' ∧ w'.ownsRow base e size v' (n + m) (xs ++ news) ∧ w.grownBy w' v.ownBlock ∧
      (v'.ownBlock = v.ownBlock ∨ ∃ k,v'.ownBlock = some k ∧ w.heap.size ≤ k):=by
  obtain ⟨v',w',hr,h2,h3,h4⟩:=run_append_own (P:=P) w base t ty e i z size bytes ht hi hz hsize hby hzs hsz v n xs hown a m c news hl hnews h1 h63 hbytes hbase
  refine ⟨v',w',hr,h2,h3,?_⟩
  rcases hown.2 with ⟨rfl,rfl⟩ | ⟨g,cap,cur,rfl,hbg,hg,hnc,hcm,hcs,htake⟩
  · have hx : xs = []:=List.eq_nil_of_length_eq_zero (by simpa using hown.1)
    subst hx
    obtain ⟨v'',w'',hr',h2', -,-⟩:=run_append_own (P:=P) w w.heap.size t ty e i z size bytes ht hi hz hsize hby hzs hsz _ 0 [] (World.ownsRow_nil w _ e size) a m c news hl hnews h1 h63 hbytes (Nat.le_refl _)
    rw [hr] at hr'
    cases hr'
    cases hob : v'.ownBlock with
    | none=>exact .inl rfl
    | some k=>exact .inr ⟨k,rfl,(h2'.lt k hob).1⟩
  · by_cases hroom : n + m ≤ cap
    · obtain ⟨w'',hr', -,-⟩:=run_append_own_spare (P:=P) w base t ty e i size ht hi hsize g n cap xs hown a m c news hl hnews h1 hroom
      rw [hr] at hr'
      cases hr'
      exact .inl rfl
    · subst hsize
      subst hby
      have hsmall : n + m ≤ 9223372036854775807:=by simp only [maxLen] at h63;omega
      have holds : ∀ j u,xs[j]? = some u → w.cell? ((⟨g,0,none⟩ : Addr).add j) = some u:=hown.cells (g:=g) rfl
      have hr':=run_append_grow (P:=P) w t ty e i z ht hi hz ⟨g,0,none⟩ n cap xs hown.1 holds a m c news hl hnews (by omega) (by omega) (growslice_fits (by omega) hbytes)
      rw [hr] at hr'
      cases hr'
      exact .inr ⟨w.heap.size,rfl,Nat.le_refl _⟩
theorem wpList_append_fresh {w : World} {ops : Array Oper} {rest : List Oper} {o : Oper} {a : Act} {Q : Exit → Act → World → Prop} (hgd : o.guard = none) (s x : Operand) (t : TypeId)
    (ho : o.op = .call { callee:=.builtin .append,args:=#[s,x],argTypes:=#[t,t] })
    (base : Nat) (e : TypeId) (i : TypeInfo) (z : Value) (size bytes : Nat) (ht : P.underlying t = some (.slice e)) (hi : P.info? e = some i) (hz : i.zero = some z)
    (hsize : i.size = size) (hby : i.bytes = bytes) (hzs : z.cells.size = size) (hsz : 0 < size)
    (v : Value) (n : Nat) (xs : List Value) (hs : a.eval s = v) (hown : w.ownsRow base e size v n xs)
    (ad : Addr) (m c : Nat) (news : List Value) (hx : a.eval x = .slice (some ad) m c) (hl : news.length = m * size) (hnews : ∀ j u,news[j]? = some u → w.cell? (ad.add j) = some u) (h1 : ∀ u ∈ news,u.oneCell' = true)
    (h63 : n + m ≤ maxLen) (hbytes : (n + m) * bytes ≤ 140737488355328) (hbase : base ≤ w.heap.size)
    (h : ∀ v' w',w'.ownsRow base e size v' (n + m) (xs ++ news) → w.grownBy w' v.ownBlock → (v'.ownBlock = v.ownBlock ∨ ∃ k,v'.ownBlock = some k ∧ w.heap.size ≤ k) → wpList P ops Q rest (a.put o.dst v') w') : wpList P ops Q (o :: rest) a w:=by
  refine wpList_plain hgd fun _ hK=>?_
  obtain ⟨v',w',hr,h2,h3,h4⟩:=run_append_fresh (P:=P) w base t o.type e i z size bytes ht hi hz hsize hby hzs hsz v n xs hown ad m c news hl hnews h1 h63 hbytes hbase
  unfold Oper.wp execOp
  simp only [ho,resolve,invoke,builtin,Sem.run_bind,Sem.run_pure,Result.andThen_ok,List.map_toArray,List.map_cons,List.map_nil,hs,hx,hr]
  exact hK _ _ (h v' w' h2 h3 h4)
end
end Go.Ev

namespace Go.Ev
open Go.RowKit Go.Proofs Go.Rw
structure Wst (w w' : World) (g : Nat) (ob ob' : Option Nat) : Prop where
  os : w'.os = w.os
  tape : w'.tape = w.tape
  output : w'.output = w.output
  size : w.heap.size ≤ w'.heap.size
  block : ∀ k,k < w.heap.size → k ≠ g → ob ≠ some k → w'.heap[k]? = w.heap[k]?
  fresh : ob' = ob ∨ ∃ k,ob' = some k ∧ w.heap.size ≤ k
theorem Wst.refl (w : World) (g : Nat) (ob : Option Nat) : Wst w w g ob ob:=⟨rfl,rfl,rfl,Nat.le_refl _,fun _ _ _ _=>rfl,.inl rfl⟩
theorem Wst.trans {w w1 w2 : World} {g : Nat} {o o1 o2 : Option Nat} (h : Wst w w1 g o o1) (h' : Wst w1 w2 g o1 o2) : Wst w w2 g o o2:=by
  refine ⟨h'.os.trans h.os,h'.tape.trans h.tape,h'.output.trans h.output,Nat.le_trans h.size h'.size,fun k hk hg ho=>?_,?_⟩
  · refine (h'.block k (Nat.lt_of_lt_of_le hk h.size) hg ?_).trans (h.block k hk hg ho)
    rcases h.fresh with e | ⟨j,e,hj⟩
    · rw [e];exact ho
    · rw [e];intro e';cases e';omega
  · rcases h'.fresh with e | ⟨j,e,hj⟩
    · rcases h.fresh with e1 | ⟨i,e1,hi⟩
      · exact .inl (e.trans e1)
      · exact .inr ⟨i,e.trans e1,hi⟩
    · exact .inr ⟨j,e,Nat.le_trans h.size hj⟩
theorem Wst.alloc {w w' : World} {g : Nat} {o o' : Option Nat} (h : Wst w w' g o o') (A : Obj) : Wst w (w'.alloc A) g o o' :=
  ⟨h.os,h.tape,h.output,Nat.le_trans h.size (by simp),fun k hk hg ho=>(heap_alloc_old w' A (Nat.lt_of_lt_of_le hk h.size)).trans (h.block k hk hg ho),h.fresh⟩
theorem Wst.setCell {w w' : World} {g : Nat} {o o' : Option Nat} (h : Wst w w' g o o') {p : Addr} (hp : w.heap.size ≤ p.block) (v : Value) : Wst w (w'.setCell p v) g o o' :=
  ⟨h.os,h.tape,h.output,Nat.le_trans h.size (by simp),fun k hk hg ho=>(heap_setCell_other w' p k v (by omega)).trans (h.block k hk hg ho),h.fresh⟩
def WrS (W : World) (base g : Nat) (ob : Option Nat) (xs : List Value) : Prop:=∃ v,W.heap[g]? = some (.cells #[v] 98 (0,0)) ∧ W.ownsRow base 5 1 v xs.length xs ∧ v.ownBlock = ob ∧ ob ≠ some g
theorem WrS.lt {W : World} {base g : Nat} {ob : Option Nat} {xs : List Value} (h : WrS W base g ob xs) : g < W.heap.size ∧ ∀ k,ob = some k → base ≤ k ∧ k < W.heap.size:=by
  obtain ⟨v,h1,h2,rfl,h4⟩:=h
  exact ⟨(Array.getElem?_eq_some_iff.1 h1).1,h2.lt⟩
theorem WrS.alloc {W : World} {base g : Nat} {ob : Option Nat} {xs : List Value} (h : WrS W base g ob xs) (A : Obj) : WrS (W.alloc A) base g ob xs:=by
  obtain ⟨v,h1,h2,h3,h4⟩:=h
  exact ⟨v,(heap_alloc_old W A (Array.getElem?_eq_some_iff.1 h1).1).trans h1,h2.alloc A,h3,h4⟩
theorem WrS.setCell {W : World} {base g : Nat} {ob : Option Nat} {xs : List Value} (h : WrS W base g ob xs) {p : Addr} (hg : p.block ≠ g) (ho : ob ≠ some p.block) (u : Value) : WrS (W.setCell p u) base g ob xs:=by
  obtain ⟨v,h1,h2,rfl,h4⟩:=h
  refine ⟨v,(heap_setCell_other W p g u (Ne.symm hg)).trans h1,?_,rfl,h4⟩
  refine h2.kept (w':=W.setCell p u) (row:=some p.block) ⟨rfl,rfl,rfl,by simp,fun k _ hne=>heap_setCell_other W p k u (fun e=>hne (by rw [e]))⟩ ?_
  exact .inr ho
theorem Wst.cell {w w' : World} {g : Nat} {o o' : Option Nat} (h : Wst w w' g o o') {p : Addr} {v : Value} (hc : w.cell? p = some v) (hg : p.block ≠ g) (ho : o ≠ some p.block) : w'.cell? p = some v:=by
  rw [World.cell?_of_block (h.block p.block (low_of_cell hc) hg ho)]
  exact hc
def WrR (base g : Nat) (ob : Option Nat) (ys : List Value) (w : World) (e : Ending) (w' : World) : Prop:=e = .returned (.tuple #[]) ∧ ∃ ob',WrS w' base g ob' ys ∧ Wst w w' g ob ob'
theorem infoW : (Tryz.prog.info? 5).map (fun i=>(i.zero,i.size,i.bytes)) = some (some (Value.int .u8 0),1,1):=by kernel_rfl
set_option maxRecDepth 100000 in
set_option maxHeartbeats 1000000 in
theorem bytes1_c {w : World} {base g b : Nat} {ob : Option Nat} {xs : List Value} {u : Value} (h : WrS w base g ob xs) (hb : w.cell? ⟨b,0,none⟩ = some u) (hu : u.oneCell' = true) (hbase : base ≤ w.heap.size) (hn : xs.length ≤ 10000000) :
    Calls Tryz.prog 76 #[.pointer (some ⟨g,0,none⟩),.slice (some ⟨b,0,none⟩) 1 1] w (WrR base g ob (xs ++ [u]) w):=by
  have hlt:=h.lt
  obtain ⟨v,hg,hown,hob,hne⟩:=h
  have c0 : w.cell? ⟨g,0,none⟩ = some v:=by simp [World.cell?,hg]
  obtain ⟨i0,hi,hz0,hz1,hz2⟩:=info_parts infoW
  go_enter Tryz.func76,Tryz.ntmps76
  go_wp2_with (at_builtin;refine wpList_append_fresh rfl _ _ 34 rfl base 5 i0 (.int .u8 0) 1 1 Tryz.underlying34 hi hz0 hz1 hz2 rfl (by decide) v xs.length xs rfl hown ⟨b,0,none⟩ 1 1 [u] rfl rfl (fun j y hj=>by
      match j,hj with
      | 0,hj=>cases hj;rw [cell_add];exact hb
      | j + 1,hj=>cases hj) (fun y hy=>by cases hy with
      | head=>exact hu
      | tail _ h=>cases h) (by unfold maxLen;omega) (by omega) hbase ?_)
  intro v' w1 hown1 hgr hfr
  have hg1 : w1.heap[g]? = some (.cells #[v] 98 (0,0)):=(hgr.block g hlt.1 (by first | (rw [hob];exact fun e=>hne e.symm) | exact fun e=>hne e.symm)).trans hg
  have c1 : w1.cell? ⟨g,0,none⟩ = some v:=by simp [World.cell?,hg1]
  have f1 : w1.frozen? ⟨g,0,none⟩ = false:=by simp [World.frozen?,hg1]
  have hgg : v'.ownBlock ≠ some g:=by
    rcases hfr with e | ⟨k,e,hk⟩
    · rw [e];simpa [hob] using hne
    · rw [e];intro e';cases e';omega
  have hst : Wst w (w1.setCell ⟨g,0,none⟩ v') g ob v'.ownBlock:=⟨hgr.os,hgr.tape,hgr.output,Nat.le_trans hgr.size (by simp),fun k hk hkg hko=>(heap_setCell_other w1 ⟨g,0,none⟩ k v' hkg).trans (hgr.block k hk (fun e=>hko (by first | (rw [hob] at e;exact e.symm) | exact e.symm))),by simpa [hob] using hfr⟩
  have hwr : WrS (w1.setCell ⟨g,0,none⟩ v') base g v'.ownBlock (xs ++ [u]):=by
    refine ⟨v',heap_setCell_same _ _ 0 _ _ _ hg1,?_,rfl,hgg⟩
    rw [List.length_append,List.length_singleton]
    exact hown1.kept (w':=w1.setCell ⟨g,0,none⟩ v') (row:=some g) ⟨rfl,rfl,rfl,by simp,fun k _ hne=>heap_setCell_other w1 ⟨g,0,none⟩ k v' (fun e=>hne (by rw [e]))⟩ (.inr hgg)
  obtain ⟨a',c',rfl⟩ : ∃ a' c',v' = .slice a' (xs.length + 1) c':=by
    rcases hown1.2 with ⟨_,h0⟩ | ⟨g',cap,cur,rfl,_⟩
    · omega
    · exact ⟨_,_,rfl⟩
  have hst:=Lib.hid hst
  have hwr:=Lib.hid hwr
  go_wp2
  refine bodyPost_ret (results_none rfl _ _ _) rfl ?_
  exact ⟨rfl,_,hwr.out,hst.out⟩
end Go.Ev

namespace Go.Ev
open Go.RowKit Go.Proofs Go.Rw
def numL (n : Nat) : List Int:=if n < 128 then [(n : Int)] else ((n % 128 + 128 : Nat) : Int) :: numL (n / 128)
termination_by n
decreasing_by omega
theorem numL_lt {n : Nat} (h : n < 128) : numL n = [(n : Int)]:=by rw [numL];exact if_pos h
theorem numL_ge {n : Nat} (h : ¬ n < 128) : numL n = ((n % 128 + 128 : Nat) : Int) :: numL (n / 128):=by rw [numL];exact if_neg h
theorem numL_len : ∀ (j n : Nat),n < 128 ^ (j + 1) → (numL n).length ≤ j + 1
  | 0,n,h=>by rw [numL_lt (by simpa using h)];simp
  | j + 1,n,h=>by
    by_cases h1 : n < 128
    · rw [numL_lt h1];simp
    · rw [numL_ge h1,List.length_cons]
      have:=numL_len j (n / 128) (by
        rw [Nat.pow_succ] at h
        exact Nat.div_lt_of_lt_mul (by rw [Nat.mul_comm];exact h))
      omega
theorem numL_pos (n : Nat) : 1 ≤ (numL n).length:=by
  by_cases h : n < 128
  · rw [numL_lt h];simp
  · rw [numL_ge h];simp
def byL (l : List Int) : List Value:=l.map (Value.int .u8)
theorem or128_fin : ∀ m : Nat,m < 256 → bits .or .u8 (m : Int) 128 = ((m % 128 + 128 : Nat) : Int):=by decide +kernel
theorem or128 (k : Nat) : bits .or .u8 ((k : Int) % 256) 128 = ((k % 128 + 128 : Nat) : Int):=by
  have:=or128_fin (k % 256) (by omega)
  rw [show ((k : Int) % 256) = ((k % 256 : Nat) : Int) by omega,this]
  omega
theorem byL_one (l : List Int) (z : Int) : byL (l ++ [z]) = byL l ++ [.int .u8 z]:=by simp [byL]
set_option maxRecDepth 100000 in
set_option maxHeartbeats 1000000 in
theorem number_c {w : World} {base g : Nat} {ob : Option Nat} {xs : List Value} {n : Nat} (h : WrS w base g ob xs) (hbase : base ≤ w.heap.size) (hn : xs.length ≤ 5000000) (hn2 : n ≤ 4611686018427387904) :
    Calls Tryz.prog 170 #[.pointer (some ⟨g,0,none⟩),.int .i64 (n : Int)] w (WrR base g ob (xs ++ byL (numL n)) w):=by
  have h:=Lib.hid h
  go_enter Tryz.func170,Tryz.ntmps170
  go_wp2_with fail
  go_loopw [1] (fun i wr=>∃ (k : Nat) (ys : List Int) (ob' : Option Nat),i = .int .i64 k ∧ k ≤ n ∧ numL n = ys ++ numL k ∧ WrS wr base g ob' (xs ++ byL ys) ∧ Wst w wr g ob ob') (fun i _=>(intOf i).toNat)
  case atStart=>exact ⟨n,[],ob,rfl,Nat.le_refl _,rfl,by simpa [byL] using h.out,Wst.refl _ _ _⟩
  case round =>
    obtain ⟨k,ys,ob',rfl,hk,hys,hW,hS⟩:=hrel
    have hyl : ys.length ≤ 9:=by
      have h1:=numL_len 8 n (by omega)
      rw [hys,List.length_append] at h1
      omega
    have hz:=hS.size
    by_cases hlt : k < 128
    · have hW:=Lib.hid hW
      have hys:=Lib.hid hys
      go_wp2_with (go_at_call 76;refine (bytes1_c (hW.out.alloc _) (new_cell wr _ 5 0 _ rfl) rfl (by simp;omega) (by simp [byL];omega)).mono ?_;rintro e w1 ⟨rfl,ob1,hW1,hS1⟩)
      refine bodyPost_ret (results_none rfl _ _ _) rfl ?_
      refine ⟨rfl,ob1,?_,(hS.alloc _).trans hS1⟩
      rw [hys.out,numL_lt hlt,byL_one,← List.append_assoc]
      exact hW1
    · have hor:=or128 k
      have hW:=Lib.hid hW
      have hys:=Lib.hid hys
      go_wp2_with (go_at_call 76;refine (bytes1_c (hW.out.alloc _) (new_cell wr _ 5 0 _ rfl) rfl (by simp;omega) (by simp [byL];omega)).mono ?_;rintro e w1 ⟨rfl,ob1,hW1,hS1⟩)
      go_roundw
      case rel=>exact ⟨k / 128,ys ++ [((k % 128 + 128 : Nat) : Int)],ob1,by go_num,by omega,by rw [hys.out,numL_ge hlt];simp,by rw [byL_one,← List.append_assoc];exact hW1,(hS.alloc _).trans hS1⟩
      case measure=>simp [intOf];omega
end Go.Ev

namespace Go.Ev
open Go.RowKit Go.Proofs Go.Rw
def LineT.v (x : LineT) : Value:=.agg #[.int .i64 x.sec,.int .i64 x.off,.int .i64 x.file,.int .i64 x.line]
def LineB (W : World) (B : Nat) (x : LineT) : Prop:=W.heap[B]? = some (.cells #[.int .i64 x.sec,.int .i64 x.off,.int .i64 x.file,.int .i64 x.line] 48 (0,0))
theorem LineB.cells {W : World} {B : Nat} {x : LineT} (h : LineB W B x) : W.cell? ⟨B,0,none⟩ = some (.int .i64 x.sec) ∧ W.cell? ⟨B,1,none⟩ = some (.int .i64 x.off) ∧ W.cell? ⟨B,2,none⟩ = some (.int .i64 x.file) ∧ W.cell? ⟨B,3,none⟩ = some (.int .i64 x.line):=by
  unfold LineB at h
  refine ⟨?_,?_,?_,?_⟩ <;> simp [World.cell?,h]
theorem LineB.below {W W' : World} {B : Nat} {x : LineT} (h : LineB W B x) (hb : Below W.heap.size W W') : LineB W' B x:=(hb.block B (Array.getElem?_eq_some_iff.1 h).1).trans h
theorem lineB_new (W : World) (x : LineT) : LineB (W.alloc (.cells #[.int .i64 x.sec,.int .i64 x.off,.int .i64 x.file,.int .i64 x.line] 48)) W.heap.size x:=by
  unfold LineB
  exact heap_alloc_new W _
theorem LineB.frozen {W : World} {B : Nat} {x : LineT} (h : LineB W B x) (i : Nat) : W.frozen? ⟨B,i,none⟩ = false:=by
  unfold LineB at h
  simp [World.frozen?,h]
theorem lineB_set {W : World} {B : Nat} {x : LineT} (h : LineB W B x) (y : LineT) : LineB ((((W.setCell ⟨B,0,none⟩ (.int .i64 y.sec)).setCell ⟨B,1,none⟩ (.int .i64 y.off)).setCell ⟨B,2,none⟩ (.int .i64 y.file)).setCell ⟨B,3,none⟩ (.int .i64 y.line)) B y:=by
  unfold LineB at *
  exact heap_setCell_same _ _ 3 _ _ _ (heap_setCell_same _ _ 2 _ _ _ (heap_setCell_same _ _ 1 _ _ _ (heap_setCell_same _ _ 0 _ _ _ h)))
theorem LineB.alloc {W : World} {B : Nat} {x : LineT} (h : LineB W B x) (o : Obj) : LineB (W.alloc o) B x:=h.below ((Below.refl _ _).alloc (Nat.le_refl _) o)
theorem below_set4 {N : Nat} {w W : World} (h : Below N w W) {C : Nat} (hC : N ≤ C) (a b c d : Value) : Below N w ((((W.setCell ⟨C,0,none⟩ a).setCell ⟨C,1,none⟩ b).setCell ⟨C,2,none⟩ c).setCell ⟨C,3,none⟩ d) :=
  (((h.setCell (p:=⟨C,0,none⟩) hC _).setCell (p:=⟨C,1,none⟩) hC _).setCell (p:=⟨C,2,none⟩) hC _).setCell (p:=⟨C,3,none⟩) hC _
end Go.Ev

namespace Go.Ev
open Go.RowKit Go.Proofs Go.Rw
theorem number_i {w : World} {base g : Nat} {ob : Option Nat} {xs : List Value} {z : Int} (h : WrS w base g ob xs) (hbase : base ≤ w.heap.size) (hn : xs.length ≤ 5000000) (h0 : 0 ≤ z) (h1 : z ≤ 4611686018427387904) :
    Calls Tryz.prog 170 #[.pointer (some ⟨g,0,none⟩),.int .i64 z] w (WrR base g ob (xs ++ byL (numL z.toNat)) w):=by
  obtain ⟨n,rfl⟩:=Int.eq_ofNat_of_zero_le h0
  rw [Int.toNat_natCast]
  exact number_c h hbase hn (by omega)
def zig (z : Int) : Nat:=if z < 0 then (-2 * z - 1).toNat else (2 * z).toNat
theorem signed_c {w : World} {base g : Nat} {ob : Option Nat} {xs : List Value} {z : Int} (h : WrS w base g ob xs) (hbase : base ≤ w.heap.size) (hn : xs.length ≤ 5000000) (h0 : -1000000000 ≤ z) (h1 : z ≤ 1000000000) :
    Calls Tryz.prog 171 #[.pointer (some ⟨g,0,none⟩),.int .i64 z] w (WrR base g ob (xs ++ byL (numL (zig z))) w):=by
  have h:=Lib.hid h
  by_cases c : z < 0
  · rw [show zig z = (-2 * z - 1).toNat from if_pos c]
    have e1 : wrap64 (-2 * z) = -2 * z:=by unfold wrap64;omega
    have e2 : wrap64 (-2 * z - 1) = -2 * z - 1:=by unfold wrap64;omega
    go_enter Tryz.func171,Tryz.ntmps171
    go_wp2_with (go_at_call 170;refine (number_i h.out hbase hn (by omega) (by omega)).mono ?_;rintro e w1 ⟨rfl,hr⟩)
    refine bodyPost_ret (results_none rfl _ _ _) rfl ?_
    exact ⟨rfl,hr⟩
  · rw [show zig z = (2 * z).toNat from if_neg c]
    have e1 : wrap64 (2 * z) = 2 * z:=by unfold wrap64;omega
    go_enter Tryz.func171,Tryz.ntmps171
    go_wp2_with (go_at_call 170;refine (number_i h.out hbase hn (by omega) (by omega)).mono ?_;rintro e w1 ⟨rfl,hr⟩)
    refine bodyPost_ret (results_none rfl _ _ _) rfl ?_
    exact ⟨rfl,hr⟩
def offB (d : Int) : Int:=if 44 < d then d - 44 else d % 4
def lineB (e : Int) : Int:=if 11 < e then e - 11 else if e < -4 then e + 4 else 0
theorem offB_c {w : World} {d : Int} (h0 : 0 ≤ d) (h1 : d ≤ 1000000000) : Calls Tryz.prog 189 #[.int .i64 d] w fun e w'=>e = .returned (.int .i64 (offB d)) ∧ w' = w:=by
  by_cases c : 44 < d
  · rw [show offB d = d - 44 from if_pos c]
    have e1 : wrap64 (d - 44) = d - 44:=by unfold wrap64;omega
    go_enter Tryz.func189,Tryz.ntmps189
    go_wp2
    go_ret
    exact ⟨rfl,rfl⟩
  · rw [show offB d = d % 4 from if_neg c]
    have e1 : d.tmod 4 = d % 4:=Int.tmod_eq_emod_of_nonneg h0
    have e2 : wrap64 (d % 4) = d % 4:=by unfold wrap64;omega
    go_enter Tryz.func189,Tryz.ntmps189
    go_wp2
    go_ret
    exact ⟨rfl,rfl⟩
theorem lineB_c {w : World} {d : Int} (h0 : -1000000000 ≤ d) (h1 : d ≤ 1000000000) : Calls Tryz.prog 190 #[.int .i64 d] w fun e w'=>e = .returned (.int .i64 (lineB d)) ∧ w' = w:=by
  by_cases c : 11 < d
  · rw [show lineB d = d - 11 from if_pos c]
    have e1 : wrap64 (d - 11) = d - 11:=by unfold wrap64;omega
    go_enter Tryz.func190,Tryz.ntmps190
    go_wp2
    go_ret
    exact ⟨rfl,rfl⟩
  · by_cases c2 : d < -4
    · rw [show lineB d = d + 4 from (if_neg c).trans (if_pos c2)]
      have e1 : wrap64 (d - -4) = d + 4:=by unfold wrap64;omega
      have e2 : wrap64 (d + 4) = d + 4:=by unfold wrap64;omega
      go_enter Tryz.func190,Tryz.ntmps190
      go_wp2
      go_ret
      exact ⟨rfl,rfl⟩
    · rw [show lineB d = 0 from (if_neg c).trans (if_neg c2)]
      have c3 : -4 ≤ d:=by omega
      go_enter Tryz.func190,Tryz.ntmps190
      go_wp2
      go_ret
      exact ⟨rfl,rfl⟩
structure EnvE (cur : World) (g : Nat) (ob : Option Nat) (B : Nat) (now next : LineT) : Prop where
  now : LineB cur B now
  next : LineB cur (B + 1) next
  o1 : ob ≠ some B
  o2 : ob ≠ some (B + 1)
  g1 : B ≠ g
  g2 : B + 1 ≠ g
theorem LineB.low {W : World} {B : Nat} {x : LineT} (h : LineB W B x) : B < W.heap.size:=(Array.getElem?_eq_some_iff.1 h).1
theorem EnvE.step {cur cur' : World} {g : Nat} {ob ob' : Option Nat} {B : Nat} {now next : LineT} (h : EnvE cur g ob B now next) (hs : Wst cur cur' g ob ob') : EnvE cur' g ob' B now next:=by
  refine ⟨(hs.block B h.now.low h.g1 h.o1).trans h.now,(hs.block (B + 1) h.next.low h.g2 h.o2).trans h.next,?_,?_,h.g1,h.g2⟩
  · rcases hs.fresh with e | ⟨k,e,hk⟩
    · rw [e];exact h.o1
    · rw [e];intro e';cases e';have:=h.now.low;omega
  · rcases hs.fresh with e | ⟨k,e,hk⟩
    · rw [e];exact h.o2
    · rw [e];intro e';cases e';have:=h.next.low;omega
theorem EnvE.alloc {cur : World} {g : Nat} {ob : Option Nat} {B : Nat} {now next : LineT} (h : EnvE cur g ob B now next) (A : Obj) : EnvE (cur.alloc A) g ob B now next :=
  ⟨h.now.alloc A,h.next.alloc A,h.o1,h.o2,h.g1,h.g2⟩
theorem EnvE.zero {cur : World} {g : Nat} {ob : Option Nat} {B : Nat} {now next : LineT} (h : EnvE cur g ob B now next) : EnvE (cur.setCell ⟨B,1,none⟩ (.int .i64 0)) g ob B ⟨now.sec,0,now.file,now.line⟩ next :=
  ⟨heap_setCell_same _ _ 1 _ _ _ h.now,(heap_setCell_other _ _ _ _ (by simp)).trans h.next,h.o1,h.o2,h.g1,h.g2⟩
end Go.Ev

