import Derived.Test.YtepopmplcjhfbaaGreatObG00
import Derived.Lib.SmallJoins
import Derived.WalkKit
import Derived.ProofKit
import Derived.OpenShut
import Derived.Carry
import Derived.HandedShaped
import Derived.Lay
import Derived.SevenTiedAt
import Derived.SizedLaws
import Derived.ChangeSlices
import Derived.Test.YtepopmplcjhfbaaGreatObG08
import Derived.Deep.LoopGhost
import Derived.Test.YtepopmplcjhfbaaGreatObG06
import Derived.Test.YtepopmplcjhfbaaGreatObG01
import Derived.Lib.QuietBelow
import Derived.Test.YtepopmplcjhfbaaGreatObG07
import Derived.Test.YtepopmplcjhfbaaGreatObG05
import Derived.Test.YtepopmplcjhfbaaGreatObG04
import Derived.Deep.RegionLaw
set_option linter.unusedSectionVars false
set_option linter.unusedVariables false
set_option linter.unusedSimpArgs false
set_option linter.unnecessarySimpa false
namespace Go.Ev
open Go.ChangeShapes Go.WideShapes Go.ChangeAt Go.RowKit Go.Proofs
theorem cells5 : Tryz.prog.cellsOf 5 = 1:=by kernel_rfl
theorem laidOutT : laidOutB Tryz.prog = true:=by kernel_rfl
theorem ownT : ownKnob Tryz.prog.godebug = none:=by kernel_rfl
theorem handed_and_sized {H : Type} {enc : TypeId × Value → H} {a : Assume} {C : Checked} {os : Os} {f : FuncId} {fn : Func} {s : ChangeSpec} {conds : List PathCond} {apart fresh handsOn again : Bool}
    (own : ownKnob C.prog.godebug = none) (started : os.Started) (noInit : C.prog.inits.idxOf? f = none) (hfn : C.prog.funcs[f]? = some fn)
    (witness : ∃ (w : World) (tape : Tape) (i : Input),w.os = os ∧ (w.forCall tape i).Shaped C.prog ∧ i.vars = [] ∧ Input.okWide C.prog (w.forCall tape i) .any w.heap.size f i ∧
      ((s.pre enc C.prog fn conds apart (w.forCall tape i).memory i.args ∧ True) ∧ sizedMet enc C.prog fn (OpenSpec.ofChange s) apart (w.forCall tape i).memory i.args) ∧ a.holds C.prog (lone (Frame.enter C.prog f i.args .normal) [] (w.forCall tape i)))
    (contract : ∀ (W : World) (base : Nat) (args : Array Value) (ds gs : List (DataW H)) (before : List MemPlace),
      (∀ (j : Nat) t v,fn.params[j]? = some t → args[j]? = some v → Value.okWide C.prog W .any base t v) →
      DataW.Whole enc C.prog fn.params.toList s.vars apart W args.toList ds gs before → W.ShapedOpen C.prog →
      (DataW.weightsEach C.prog (fn.params.toList ++ s.plain.varTypes C.prog) (ds ++ gs)).all (· ≤ reachBytes) = true →
      Calls C.prog f args W fun e W'=>∃ v,e = .returned v ∧ s.post enc C.prog fn apart fresh handsOn again W args v W') :
    ReturnsInHanded a C os f .any (s.pre6 enc C.prog fn conds apart) (s.post enc C.prog fn apart fresh handsOn again):=by
  refine returnsInHanded_of_calls own started noInit (by obtain ⟨w,tape,i,h1,h2,h3,h4,⟨⟨h5,_⟩,h6⟩,h7⟩:=witness;exact ⟨w,tape,i,h1,h2,h3,h4,⟨h5,h6⟩,h7⟩) ?_
  intro w tape i _ hsh _ hok hpre hholds
  obtain ⟨_,_,_,fn',hfn',_,_,_,_,hval⟩:=hok
  have e : fn' = fn:=Option.some.inj (hfn'.symm.trans hfn)
  subst e
  obtain ⟨⟨ds,gs,before,hw,hc⟩,hz⟩:=hpre
  have hw':=DataW.Whole.of_heap (w':=w.forCall tape i) (by rfl) hw
  refine (contract (w.forCall tape i) w.heap.size i.args ds gs before hval hw' hsh (hz.weights hw)).mono fun e W' ⟨v,he,hp⟩=>?_
  subst he
  exact ChangeSpec.post_blind hp
theorem bytes5 : Tryz.prog.bytesOf 5 = 1:=by kernel_rfl
theorem trodAll_below {H : Type} {enc : TypeId × Value → H} {P : Program} (hl : laidOutB P = true) {W W' : World} (hb : Below W.heap.size W W') :
    ∀ {ts : List TypeId} {vs : List Value} {ds : List (DataW H)} {ps : List MemPlace},(ts.all fun t=>P.readableRec t && decide (t < P.types.size)) = true → DataW.TrodAll enc P W 0 (fun _=>true) true ts vs ds ps →
      DataW.TrodAll enc P W' 0 (fun b=>decide (b < W.heap.size)) true ts vs ds ps
  | [],_,_,_,_,h=>by
    obtain ⟨rfl,rfl,rfl⟩:=trodAll_nil h
    exact trodAll_mk0
  | t :: ts,_,_,_,ht,h=>by
    have hlt:=DataW.TrodAll.lt h
    obtain ⟨v,vs,d,ds,p,q,rfl,rfl,rfl,h1,h2⟩:=trodAll_cons h
    simp only [List.all_cons,Bool.and_eq_true,decide_eq_true_eq] at ht
    exact trodAll_cons_mk (Below.trod hl ht.1.1 ht.1.2 h1 hb fun x hx=>hlt x (List.mem_append_left _ hx)) (trodAll_below hl hb (by simpa using ht.2) h2)
theorem law_end {H : Type} {enc : TypeId × Value → H} {f : Nat} {fn : Func} {s : ChangeSpec} {W : World} {args : Array Value} {ds gs : List (DataW H)} {before : List MemPlace} {again : Bool}
    (hv : s.vars = []) (hres : fn.resultTypes.toList = [4]) (hr1 : ∀ b,(Value.bool b).resultList fn.resultTypes.size = [.bool b])
    (hp : (fn.params.toList.all fun t=>Tryz.prog.readableRec t && decide (t < Tryz.prog.types.size)) = true)
    (hW : DataW.Whole enc Tryz.prog fn.params.toList s.vars false W args.toList ds gs before)
    (hs : s.fn H (ds ++ gs) = { results:=[.lit (.bool true)],args:=ds }) (hag : again = false)
    (hc : Calls Tryz.prog f args W fun e w'=>e = .returned (.bool true) ∧ Below W.heap.size W w') :
    Calls Tryz.prog f args W fun e W'=>∃ v,e = .returned v ∧ s.post enc Tryz.prog fn false true false again W args v W':=by
  refine hc.mono fun e W' ⟨he,hb⟩=>?_
  subst he
  have hW':=hW
  obtain ⟨p,q,hA,hV,rfl,_,_⟩:=hW
  rw [hv] at hV
  obtain ⟨rfl,rfl⟩:=trodVars_none hV
  refine ⟨_,rfl,ds,[],_,[],p,[],hW',?_,?_,?_,hb.frame _,fun h=>by rw [hag] at h;cases h⟩
  · rw [hs,hres,hr1]
    exact trodAll_mk1 (shut_bool Tryz.underlying4 true)
  · rw [hs]
    exact trodAll_below laidOutT hb hp hA
  · rw [hs,hv];rfl
end Go.Ev

namespace Go.Ev
open Go.RowKit Go.Proofs Go.Rw
def crc1 (z : Int) : Int:=if bits .and .u32 z 1 = 1 then bits .xor .u32 (z / 2) 3988292384 else z / 2
def crcN : Nat → Int → Int
  | 0,z=>z
  | j + 1,z=>crc1 (crcN j z)
def crcL (q : Nat → Int) : Nat → Int
  | 0=>4294967295
  | k + 1=>crcN 8 (bits .xor .u32 (crcL q k) (q k))
theorem bits_u32 (op : BinOp) (a b : Int) : 0 ≤ bits op .u32 a b ∧ bits op .u32 a b ≤ 4294967295:=by
  have h : ∀ n : Int,0 ≤ IntKind.u32.wrap n ∧ IntKind.u32.wrap n ≤ 4294967295:=fun n=>by
    rw [IntKind.wrap_u32]
    omega
  unfold bits
  cases op <;> exact h _
theorem crc1_in {z : Int} (h : 0 ≤ z ∧ z ≤ 4294967295) : 0 ≤ crc1 z ∧ crc1 z ≤ 4294967295:=by
  unfold crc1
  split
  · exact bits_u32 _ _ _
  · omega
theorem crcN_in {z : Int} (h : 0 ≤ z ∧ z ≤ 4294967295) : ∀ j,0 ≤ crcN j z ∧ crcN j z ≤ 4294967295
  | 0=>h
  | j + 1=>crc1_in (crcN_in h j)
theorem crcL_in (q : Nat → Int) : ∀ k,0 ≤ crcL q k ∧ crcL q k ≤ 4294967295
  | 0=>by simp [crcL]
  | k + 1=>crcN_in (bits_u32 _ _ _) 8
theorem shifted_c {w : World} (z : Int) (h0 : 0 ≤ z ∧ z ≤ 4294967295) : Calls Tryz.prog 91 #[.int .u32 z] w fun e w'=>e = .returned (.int .u32 (crc1 z)) ∧ w' = w:=by
  obtain ⟨h0,h1⟩:=h0
  unfold crc1
  by_cases h : bits .and .u32 z 1 = 1
  · rw [if_pos h]
    have h : (bits .and .u32 z 1 == 1) = true:=beq_iff_eq.2 h
    go_enter Tryz.func91,Tryz.ntmps91
    go_wp2
    go_ret
    exact ⟨rfl,rfl⟩
  · rw [if_neg h]
    have h : (bits .and .u32 z 1 == 1) = false:=beq_eq_false_iff_ne.2 h
    go_enter Tryz.func91,Tryz.ntmps91
    go_wp2
    go_ret
    exact ⟨rfl,rfl⟩
def sumV (q : Nat → Int) (n : Nat) : Int:=bits .xor .u32 IntKind.u32.max (crcL q n)
set_option maxRecDepth 100000 in
set_option maxHeartbeats 4000000 in
theorem psum_c {w : World} {a : Option Addr} {n c : Nat} {q : Nat → Int} (h : BytesAt w a n q) (hq : ∀ j,InB (q j)) (hn : n ≤ 140737488351232) :
    Calls Tryz.prog 24 #[.slice a n c] w fun e w'=>e = .returned (.int .u32 (sumV q n)) ∧ w' = w:=by
  go_enter Tryz.func24,Tryz.ntmps24
  go_wp2
  go_loopg [8,3] n (fun gn i c wr=>∃ k : Nat,gn + k = n ∧ k ≤ n ∧ i = .int .i64 k ∧ c = .int .u32 (crcL q k) ∧ wr = w)
  case atStart=>exact ⟨0,by omega,by omega,rfl,rfl,rfl⟩
  case round =>
    obtain ⟨k,hgk,hk,rfl,rfl,rfl⟩:=hrel
    by_cases hlt : k < n
    · obtain ⟨b,o,rfl,hc⟩ : ∃ b o,a = some ⟨b,o,none⟩ ∧ ∀ j,j < n → wr.cell? ⟨b,o + j,none⟩ = some (.int .u8 (q j)):=by
        rcases h with ⟨_,h⟩ | ⟨b,o,h,hc⟩
        · omega
        · exact ⟨b,o,h,hc⟩
      have hck:=hc k hlt
      have hlt' : (k : Int) < (n : Int):=by omega
      obtain ⟨q0,q1⟩:=hq k
      obtain ⟨z,hz⟩ : ∃ z,z = crcL q k:=⟨_,rfl⟩
      have hz2:=Lib.hid hz
      have hzi : 0 ≤ z ∧ z ≤ 4294967295:=by rw [hz];exact crcL_in q k
      rw [← hz]
      clear hz hc h
      generalize hqk : q k = y at hck q0 q1
      have hqk:=Lib.hid hqk
      obtain ⟨wo,rfl⟩ : ∃ wo : World,wo = wr:=⟨_,rfl⟩
      obtain ⟨gO,rfl⟩ : ∃ gO : Nat,gO = gk:=⟨_,rfl⟩
      go_wp2
      go_loopg [16,3] 8 (fun gn i c wr=>∃ j : Nat,gn + j = 8 ∧ j ≤ 8 ∧ i = .int .i64 j ∧ c = .int .u32 (crcN j (bits .xor .u32 z y)) ∧ wr = wo)
      case atStart=>exact ⟨0,by omega,by omega,rfl,rfl,rfl⟩
      case round =>
        obtain ⟨j,hgj,hj,rfl,rfl,rfl⟩:=hrel
        have hin:=crcN_in (bits_u32 .xor z y) j
        by_cases hj8 : j < 8
        · have hj8' : (j : Int) < 8:=by omega
          have hs:=fun W=>shifted_c (w:=W) (crcN j (bits .xor .u32 z y)) hin
          have hnext:=Lib.hid (show crc1 (crcN j (bits .xor .u32 z y)) = crcN (j + 1) (bits .xor .u32 z y) from rfl)
          generalize crcN j (bits .xor .u32 z y) = u at hin hs hnext
          go_wp2_with (go_at_call 91;refine (hs _).mono ?_;rintro e w1 ⟨rfl,rfl⟩)
          go_roundg (gk - 1)
          case measure=>omega
          case rel=>exact ⟨j + 1,by omega,by omega,by go_num,by rw [hnext.out],rfl⟩
        · obtain rfl : j = 8:=by omega
          have hnext:=Lib.hid (show crcN 8 (bits .xor .u32 z y) = crcL q (k + 1) by rw [hz2.out,← hqk.out];rfl)
          generalize crcN 8 (bits .xor .u32 z y) = u at hin hnext
          go_wp2
          go_roundg (gO - 1)
          case measure=>omega
          case rel=>exact ⟨k + 1,by omega,by omega,by go_num,by rw [hnext.out],rfl⟩
    · obtain rfl : k = n:=by omega
      go_wp2
      go_ret
      exact ⟨rfl,rfl⟩
end Go.Ev

namespace Go.Ev
open Go.RowKit Go.Proofs Go.Rw
end Go.Ev

namespace Go.Ev
open Go.RowKit Go.Proofs Go.Rw
end Go.Ev

namespace Go.Ev
open Go.RowKit Go.Proofs Go.Rw
theorem lens_nn : ∀ (l : List SecT),(∀ x ∈ l,SecOk x) → 0 ≤ lens l
  | [],_=>by simp [lens]
  | x :: l,h=>by
    have hx:=(h x (List.mem_cons_self ..)).2.2.2.2
    have e : lens (x :: l) = ((x.bn : Int) + x.zero) + lens l:=by simp [lens]
    have:=lens_nn l (fun z hz=>h z (List.mem_cons_of_mem _ hz))
    omega
theorem lens_mem : ∀ (l : List SecT),(∀ x ∈ l,SecOk x) → ∀ y ∈ l,(y.bn : Int) + y.zero ≤ lens l
  | [],_,y,hy=>by simp at hy
  | x :: l,h,y,hy=>by
    have hx:=(h x (List.mem_cons_self ..)).2.2.2.2
    have e : lens (x :: l) = ((x.bn : Int) + x.zero) + lens l:=by simp [lens]
    have hl:=lens_nn l (fun z hz=>h z (List.mem_cons_of_mem _ hz))
    rcases List.mem_cons.1 hy with rfl | hy
    · omega
    · have:=lens_mem l (fun z hz=>h z (List.mem_cons_of_mem _ hz)) y hy
      omega
end Go.Ev

namespace Go.Ev
open Go.RowKit Go.Proofs Go.Rw
structure MEnv (W : World) (base M b o n c : Nat) (all : List Nat) (tv : Value) (tab : List LineT) : Prop where
  own : W.ownsRow base 48 4 tv tab.length (flat tab)
  ne : tv.ownBlock ≠ some M
  bytes : AllAt W b o n all
  hb : b < base
  hM : base ≤ M
  hs : base ≤ W.heap.size
  hnc : n ≤ c
  hn : n ≤ 140737488351232
  rng : ∀ x ∈ tab,RngOk x
  len : tab.length ≤ 4000
structure MSt (W : World) (base M b o n c : Nat) (all : List Nat) (p : Nat) (v : LineT) (tv : Value) (tab : List LineT) : Prop where
  mac : MacB W M (some ⟨b,o,none⟩) n c (p : Int) v tv
  env : MEnv W base M b o n c all tv tab
section
variable {W : World} {base M b o n c : Nat} {all : List Nat} {p : Nat} {v : LineT} {tv : Value} {tab : List LineT}
theorem MEnv.set (h : MEnv W base M b o n c all tv tab) (i : Nat) (u : Value) : MEnv (W.setCell ⟨M,i,none⟩ u) base M b o n c all tv tab:=by
  have hne : b ≠ M:=by have:=h.hb;have:=h.hM;omega
  refine ⟨?_,h.ne,⟨h.bytes.1,h.bytes.2.1,fun j hj=>?_⟩,h.hb,h.hM,by rw [World.size_setCell];exact h.hs,h.hnc,h.hn,h.rng,h.len⟩
  · exact h.own.kept (w':=W.setCell ⟨M,i,none⟩ u) (row:=some M) ⟨rfl,rfl,rfl,by simp,fun k _ hk=>heap_setCell_other W ⟨M,i,none⟩ k u (fun e=>hk (by rw [e]))⟩ (.inr h.ne)
  · rw [World.cell?_of_block (w:=W) (heap_setCell_other W ⟨M,i,none⟩ b u hne)]
    exact h.bytes.2.2 j hj
theorem MEnv.drewN (h : MEnv W base M b o n c all tv tab) (k : Nat) : MEnv (W.drewN k) base M b o n c all tv tab:=⟨h.own,h.ne,h.bytes,h.hb,h.hM,h.hs,h.hnc,h.hn,h.rng,h.len⟩
theorem MEnv.below {W' : World} (h : MEnv W base M b o n c all tv tab) (hb : Below W.heap.size W W') : MEnv W' base M b o n c all tv tab:=by
  refine ⟨?_,h.ne,⟨h.bytes.1,h.bytes.2.1,fun j hj=>?_⟩,h.hb,h.hM,Nat.le_trans h.hs hb.size,h.hnc,h.hn,h.rng,h.len⟩
  · exact h.own.kept (w':=W') (row:=none) ⟨hb.os,hb.tape,hb.output,hb.size,fun k hk _=>hb.block k hk⟩ (by cases hv : tv.ownBlock <;> simp)
  · have:=h.bytes.2.2 j hj
    exact (hb.cell (low_of_cell this)).trans this
theorem MSt.setAt (h : MSt W base M b o n c all p v tv tab) (p' : Nat) : MSt (W.setCell ⟨M,1,none⟩ (.int .i64 (p' : Int))) base M b o n c all p' v tv tab:=⟨h.mac.setAt _,h.env.set _ _⟩
theorem MSt.setSec (h : MSt W base M b o n c all p v tv tab) (x : Int) : MSt (W.setCell ⟨M,2,none⟩ (.int .i64 x)) base M b o n c all p ⟨x,v.off,v.file,v.line⟩ tv tab:=⟨h.mac.setSec _,h.env.set _ _⟩
theorem MSt.setOff (h : MSt W base M b o n c all p v tv tab) (x : Int) : MSt (W.setCell ⟨M,3,none⟩ (.int .i64 x)) base M b o n c all p ⟨v.sec,x,v.file,v.line⟩ tv tab:=⟨h.mac.setOff _,h.env.set _ _⟩
theorem MSt.setFile (h : MSt W base M b o n c all p v tv tab) (x : Int) : MSt (W.setCell ⟨M,4,none⟩ (.int .i64 x)) base M b o n c all p ⟨v.sec,v.off,x,v.line⟩ tv tab:=⟨h.mac.setFile _,h.env.set _ _⟩
theorem MSt.setLine (h : MSt W base M b o n c all p v tv tab) (x : Int) : MSt (W.setCell ⟨M,5,none⟩ (.int .i64 x)) base M b o n c all p ⟨v.sec,v.off,v.file,x⟩ tv tab:=⟨h.mac.setLine _,h.env.set _ _⟩
theorem MSt.drewN (h : MSt W base M b o n c all p v tv tab) (k : Nat) : MSt (W.drewN k) base M b o n c all p v tv tab:=⟨h.mac,h.env.drewN k⟩
theorem MSt.below {W' : World} (h : MSt W base M b o n c all p v tv tab) (hb : Below W.heap.size W W') : MSt W' base M b o n c all p v tv tab:=⟨h.mac.below hb,h.env.below hb⟩
theorem MSt.ne (h : MSt W base M b o n c all p v tv tab) : b ≠ M:=by have:=h.env.hb;have:=h.env.hM;omega
end
def StR (base M b o n c : Nat) (all : List Nat) (p : Nat) (v : LineT) (tab : List LineT) (w : World) (e : Ending) (w' : World) : Prop :=
  Below base w w' ∧ ((stepF v tab (all.drop p) = none ∧ ∃ x y : Int,e = .panicked [fltV x y]) ∨
    (∃ v' tab' p' tv',stepF v tab (all.drop p) = some (v',tab',all.drop p') ∧ p < p' ∧ p' ≤ n ∧ e = .returned (.tuple #[]) ∧ MSt w' base M b o n c all p' v' tv' tab' ∧ RngOk v'))
theorem below_setM {base M : Nat} {w w' : World} (h : Below base w w') (hM : base ≤ M) (i : Nat) (u : Value) : Below base w (w'.setCell ⟨M,i,none⟩ u):=h.setCell (p:=⟨M,i,none⟩) hM u
theorem drop_op {all : List Nat} {p op : Nat} (h : all[p]? = some op) : all.drop p = op :: all.drop (p + 1):=by
  have hl:=(List.getElem?_eq_some_iff.1 h).1
  rw [List.drop_eq_getElem_cons hl,(List.getElem?_eq_some_iff.1 h).2]
theorem numF_none {l : List Nat} (h : leadF l = none) : numF l = none:=by unfold numF;rw [h];rfl
theorem numF_at {all : List Nat} {p x s : Nat} (h : leadF (all.drop p) = some (x,s)) : numF (all.drop p) = some (x,all.drop (p + s)):=by
  unfold numF
  rw [h]
  simp [List.drop_drop]
set_option maxRecDepth 100000 in
set_option maxHeartbeats 1000000 in
theorem step_3 {w : World} {base M b o n c : Nat} {all : List Nat} {p : Nat} {v : LineT} {tv : Value} {tab : List LineT} (h : MSt w base M b o n c all p v tv tab) (hv : RngOk v) (hp : p < n) (hop : all[p]? = some 3) : Calls Tryz.prog 105 #[.pointer (some ⟨M,0,none⟩)] w (StR base M b o n c all p v tab w):=by
  have hdrop:=drop_op hop
  have htk:=take1_c h.mac hp h.env.hnc h.env.hn
  have hbyte0:=h.env.bytes.2.2 p hp
  rw [show all.getD p 0 = 3 by simp [List.getD,hop]] at hbyte0
  have hbr:=h.ne
  have hs0:=h.env.hs
  have hvr:=hv
  unfold RngOk at hvr
  obtain ⟨i0,i1,i2,i3,i4,i5,i6⟩:=h.mac.cells
  go_enter Tryz.func105,Tryz.ntmps105
  go_wp2_with fail
  refine htk.mono ?_
  rintro e w1 ⟨rfl,k,hw1⟩
  have h1 : MSt w1 base M b o n c all (p + 1) v tv tab:=by rw [hw1];exact (h.setAt (p + 1)).drewN k
  have hb1 : Below base w w1:=by rw [hw1];exact below_drewN (below_setM (Below.refl _ _) h.env.hM _ _) _
  have hbyte : w1.cell? ⟨b,o + p,none⟩ = some (.int .u8 ((3 : Nat) : Int)):=by
    rw [hw1]
    show (w.setCell ⟨M,1,none⟩ _).cell? _ = _
    rw [World.cell?_of_block (w:=w) (heap_setCell_other w ⟨M,1,none⟩ b _ hbr)]
    exact hbyte0
  clear hw1 htk hbyte0 i0 i1 i2 i3 i4 i5 i6
  have hnum:=rnumber_c h1.mac h1.env.bytes h1.ne (by omega) h1.env.hnc h1.env.hn
  have hst : stepF v tab (all.drop p) = (numF (all.drop (p + 1))).bind fun q=>chkF ⟨v.sec,v.off,q.1,v.line⟩ tab q.2:=by
    rw [hdrop,stepF]
    rw [if_neg (by decide),if_neg (by decide),if_pos rfl]
  have hle:=fun x s (e : leadF (all.drop (p + 1)) = some (x,s))=>leadF_le e
  rw [List.length_drop,h1.env.bytes.1] at hle
  have hst:=Lib.hid hst
  obtain ⟨i0,i1,i2,i3,i4,i5,i6⟩:=h1.mac.cells
  go_wp2_with fail
  refine hnum.mono ?_
  rintro e w2 (⟨hR,x,y,rfl,k,hw2⟩ | ⟨x,s,hR,rfl,k,hw2⟩)
  · have hb2 : Below base w w2:=by rw [hw2];exact below_drewN hb1 _
    have hfin:=Lib.hid (show stepF v tab (all.drop p) = none by rw [hst.out,numF_none hR];rfl)
    clear hw2 hR i0 i1 i2 i3 i4 i5 i6
    go_wp2
    exact ⟨rfl,hb2,.inl ⟨hfin.out,x,y,rfl⟩⟩
  · have h2 : MSt w2 base M b o n c all (p + 1 + s) v tv tab:=by rw [hw2];exact (h1.setAt (p + 1 + s)).drewN k
    have hb2 : Below base w w2:=by rw [hw2];exact below_drewN (below_setM hb1 h.env.hM _ _) _
    have hle:=hle x s hR
    have hst2:=hst.out
    rw [numF_at hR] at hst2
    dsimp only [Option.bind] at hst2
    have hst2:=Lib.hid hst2
    clear hw2 hR hnum hst i0 i1 i2 i3 i4 i5 i6 hbyte
    obtain ⟨vs,vo,vf,vl⟩:=v
    dsimp only at hvr
    obtain ⟨i0,i1,i2,i3,i4,i5,i6⟩:=h2.mac.cells
    dsimp only at i2 i3 i4 i5
    have f2:=h2.mac.frozen 4
    obtain ⟨z,hz⟩ : ∃ z : Int,z = (x : Int):=⟨_,rfl⟩
    have hzw : wrap64 ((x : Int)) = z:=by rw [hz];exact wrap_in (by omega) (by omega)
    have hzp : (x : Int) = z:=hz.symm
    have h3:=h2.setFile z
    have hb3:=below_setM hb2 h.env.hM 4 (.int .i64 z)
    have hir:=fun W=>inRange_c (w:=W) vs vo z vl
    dsimp only at h3
    have h3:=Lib.hid h3
    have hb3:=Lib.hid hb3
    by_cases hrng : RngOk ⟨vs,vo,z,vl⟩
    · rw [decide_eq_true hrng] at hir
      have hfin:=Lib.hid (show stepF ⟨vs,vo,vf,vl⟩ tab (all.drop p) = some (⟨vs,vo,z,vl⟩,tab,all.drop (p + 1 + s)) by rw [hst2.out];rw [show ((x : Int)) = z from hz.symm];exact chkF_ok hrng)
      have hrng:=Lib.hid hrng
      clear hz hst2
      go_wp2_with fail
      refine (hir _).mono ?_
      rintro e w3 ⟨rfl,hb4⟩
      have h4:=h3.out.below hb4
      have hb5:=bel_then hb3.out hs0 hb4
      go_wp2_with (go_at_call 172;refine (must_yes _ _).mono ?_;rintro e w4 ⟨rfl,rfl⟩)
      exact ⟨rfl,_,results_none rfl _ _ _,hb5,.inr ⟨_,_,p + 1 + s,tv,hfin.out,by omega,by omega,rfl,h4,hrng.out⟩⟩
    · rw [decide_eq_false hrng] at hir
      have hfin:=Lib.hid (show stepF ⟨vs,vo,vf,vl⟩ tab (all.drop p) = none by rw [hst2.out];rw [show ((x : Int)) = z from hz.symm];exact if_neg hrng)
      clear hz hst2 hrng
      go_wp2_with fail
      refine (hir _).mono ?_
      rintro e w3 ⟨rfl,hb4⟩
      have hb5:=bel_then hb3.out hs0 hb4
      go_wp2_with (go_at_call 172;refine (must_no _ _).mono ?_;rintro e w4 ⟨rfl,rfl⟩)
      exact ⟨rfl,hb5,.inl ⟨hfin.out,_,_,rfl⟩⟩
set_option maxRecDepth 100000 in
set_option maxHeartbeats 1000000 in
theorem step_2 {w : World} {base M b o n c : Nat} {all : List Nat} {p : Nat} {v : LineT} {tv : Value} {tab : List LineT} (h : MSt w base M b o n c all p v tv tab) (hv : RngOk v) (hp : p < n) (hop : all[p]? = some 2) : Calls Tryz.prog 105 #[.pointer (some ⟨M,0,none⟩)] w (StR base M b o n c all p v tab w):=by
  have hdrop:=drop_op hop
  have htk:=take1_c h.mac hp h.env.hnc h.env.hn
  have hbyte0:=h.env.bytes.2.2 p hp
  rw [show all.getD p 0 = 2 by simp [List.getD,hop]] at hbyte0
  have hbr:=h.ne
  have hs0:=h.env.hs
  have hvr:=hv
  unfold RngOk at hvr
  obtain ⟨i0,i1,i2,i3,i4,i5,i6⟩:=h.mac.cells
  go_enter Tryz.func105,Tryz.ntmps105
  go_wp2_with fail
  refine htk.mono ?_
  rintro e w1 ⟨rfl,k,hw1⟩
  have h1 : MSt w1 base M b o n c all (p + 1) v tv tab:=by rw [hw1];exact (h.setAt (p + 1)).drewN k
  have hb1 : Below base w w1:=by rw [hw1];exact below_drewN (below_setM (Below.refl _ _) h.env.hM _ _) _
  have hbyte : w1.cell? ⟨b,o + p,none⟩ = some (.int .u8 ((2 : Nat) : Int)):=by
    rw [hw1]
    show (w.setCell ⟨M,1,none⟩ _).cell? _ = _
    rw [World.cell?_of_block (w:=w) (heap_setCell_other w ⟨M,1,none⟩ b _ hbr)]
    exact hbyte0
  clear hw1 htk hbyte0 i0 i1 i2 i3 i4 i5 i6
  have hnum:=rsigned_c h1.mac h1.env.bytes h1.ne (by omega) h1.env.hnc h1.env.hn
  have hst : stepF v tab (all.drop p) = (numF (all.drop (p + 1))).bind fun q=>chkF ⟨v.sec,v.off,v.file,v.line + unzig q.1⟩ tab q.2:=by
    rw [hdrop,stepF]
    rw [if_neg (by decide),if_pos rfl]
  have hle:=fun x s (e : leadF (all.drop (p + 1)) = some (x,s))=>leadF_le e
  rw [List.length_drop,h1.env.bytes.1] at hle
  have hst:=Lib.hid hst
  obtain ⟨i0,i1,i2,i3,i4,i5,i6⟩:=h1.mac.cells
  go_wp2_with fail
  refine hnum.mono ?_
  rintro e w2 (⟨hR,x,y,rfl,k,hw2⟩ | ⟨x,s,hR,he,k,hw2⟩)
  · have hb2 : Below base w w2:=by rw [hw2];exact below_drewN hb1 _
    have hfin:=Lib.hid (show stepF v tab (all.drop p) = none by rw [hst.out,numF_none hR];rfl)
    clear hw2 hR i0 i1 i2 i3 i4 i5 i6
    go_wp2
    exact ⟨rfl,hb2,.inl ⟨hfin.out,x,y,rfl⟩⟩
  · have h2 : MSt w2 base M b o n c all (p + 1 + s) v tv tab:=by rw [hw2];exact (h1.setAt (p + 1 + s)).drewN k
    have hb2 : Below base w w2:=by rw [hw2];exact below_drewN (below_setM hb1 h.env.hM _ _) _
    have hle:=hle x s hR
    obtain ⟨u,hu⟩ : ∃ u : Int,u = unzig x:=⟨_,rfl⟩
    have hub : -2147483648 ≤ u ∧ u ≤ 2147483647:=by rw [hu];unfold unzig;split <;> omega
    rw [← hu] at he
    subst he
    have hst2:=hst.out
    rw [numF_at hR] at hst2
    dsimp only [Option.bind] at hst2
    rw [← hu] at hst2
    clear hu
    have hst2:=Lib.hid hst2
    clear hw2 hR hnum hst i0 i1 i2 i3 i4 i5 i6 hbyte
    obtain ⟨vs,vo,vf,vl⟩:=v
    dsimp only at hvr
    obtain ⟨i0,i1,i2,i3,i4,i5,i6⟩:=h2.mac.cells
    dsimp only at i2 i3 i4 i5
    have f2:=h2.mac.frozen 5
    obtain ⟨z,hz⟩ : ∃ z : Int,z = vl + u:=⟨_,rfl⟩
    have hzw : wrap64 (vl + u) = z:=by rw [hz];exact wrap_in (by omega) (by omega)
    have hzp : vl + u = z:=hz.symm
    have h3:=h2.setLine z
    have hb3:=below_setM hb2 h.env.hM 5 (.int .i64 z)
    have hir:=fun W=>inRange_c (w:=W) vs vo vf z
    dsimp only at h3
    have h3:=Lib.hid h3
    have hb3:=Lib.hid hb3
    by_cases hrng : RngOk ⟨vs,vo,vf,z⟩
    · rw [decide_eq_true hrng] at hir
      have hfin:=Lib.hid (show stepF ⟨vs,vo,vf,vl⟩ tab (all.drop p) = some (⟨vs,vo,vf,z⟩,tab,all.drop (p + 1 + s)) by rw [hst2.out];rw [show (vl + u) = z from hz.symm];exact chkF_ok hrng)
      have hrng:=Lib.hid hrng
      clear hz hst2
      go_wp2_with fail
      refine (hir _).mono ?_
      rintro e w3 ⟨rfl,hb4⟩
      have h4:=h3.out.below hb4
      have hb5:=bel_then hb3.out hs0 hb4
      go_wp2_with (go_at_call 172;refine (must_yes _ _).mono ?_;rintro e w4 ⟨rfl,rfl⟩)
      exact ⟨rfl,_,results_none rfl _ _ _,hb5,.inr ⟨_,_,p + 1 + s,tv,hfin.out,by omega,by omega,rfl,h4,hrng.out⟩⟩
    · rw [decide_eq_false hrng] at hir
      have hfin:=Lib.hid (show stepF ⟨vs,vo,vf,vl⟩ tab (all.drop p) = none by rw [hst2.out];rw [show (vl + u) = z from hz.symm];exact if_neg hrng)
      clear hz hst2 hrng
      go_wp2_with fail
      refine (hir _).mono ?_
      rintro e w3 ⟨rfl,hb4⟩
      have hb5:=bel_then hb3.out hs0 hb4
      go_wp2_with (go_at_call 172;refine (must_no _ _).mono ?_;rintro e w4 ⟨rfl,rfl⟩)
      exact ⟨rfl,hb5,.inl ⟨hfin.out,_,_,rfl⟩⟩
set_option maxRecDepth 100000 in
set_option maxHeartbeats 1000000 in
theorem step_1 {w : World} {base M b o n c : Nat} {all : List Nat} {p : Nat} {v : LineT} {tv : Value} {tab : List LineT} (h : MSt w base M b o n c all p v tv tab) (hv : RngOk v) (hp : p < n) (hop : all[p]? = some 1) : Calls Tryz.prog 105 #[.pointer (some ⟨M,0,none⟩)] w (StR base M b o n c all p v tab w):=by
  have hdrop:=drop_op hop
  have htk:=take1_c h.mac hp h.env.hnc h.env.hn
  have hbyte0:=h.env.bytes.2.2 p hp
  rw [show all.getD p 0 = 1 by simp [List.getD,hop]] at hbyte0
  have hbr:=h.ne
  have hs0:=h.env.hs
  have hvr:=hv
  unfold RngOk at hvr
  obtain ⟨i0,i1,i2,i3,i4,i5,i6⟩:=h.mac.cells
  go_enter Tryz.func105,Tryz.ntmps105
  go_wp2_with fail
  refine htk.mono ?_
  rintro e w1 ⟨rfl,k,hw1⟩
  have h1 : MSt w1 base M b o n c all (p + 1) v tv tab:=by rw [hw1];exact (h.setAt (p + 1)).drewN k
  have hb1 : Below base w w1:=by rw [hw1];exact below_drewN (below_setM (Below.refl _ _) h.env.hM _ _) _
  have hbyte : w1.cell? ⟨b,o + p,none⟩ = some (.int .u8 ((1 : Nat) : Int)):=by
    rw [hw1]
    show (w.setCell ⟨M,1,none⟩ _).cell? _ = _
    rw [World.cell?_of_block (w:=w) (heap_setCell_other w ⟨M,1,none⟩ b _ hbr)]
    exact hbyte0
  clear hw1 htk hbyte0 i0 i1 i2 i3 i4 i5 i6
  have hnum:=rnumber_c h1.mac h1.env.bytes h1.ne (by omega) h1.env.hnc h1.env.hn
  have hst : stepF v tab (all.drop p) = (numF (all.drop (p + 1))).bind fun q=>chkF ⟨v.sec,v.off + q.1,v.file,v.line⟩ tab q.2:=by
    rw [hdrop,stepF]
    rw [if_pos rfl]
  have hle:=fun x s (e : leadF (all.drop (p + 1)) = some (x,s))=>leadF_le e
  rw [List.length_drop,h1.env.bytes.1] at hle
  have hst:=Lib.hid hst
  obtain ⟨i0,i1,i2,i3,i4,i5,i6⟩:=h1.mac.cells
  go_wp2_with fail
  refine hnum.mono ?_
  rintro e w2 (⟨hR,x,y,rfl,k,hw2⟩ | ⟨x,s,hR,rfl,k,hw2⟩)
  · have hb2 : Below base w w2:=by rw [hw2];exact below_drewN hb1 _
    have hfin:=Lib.hid (show stepF v tab (all.drop p) = none by rw [hst.out,numF_none hR];rfl)
    clear hw2 hR i0 i1 i2 i3 i4 i5 i6
    go_wp2
    exact ⟨rfl,hb2,.inl ⟨hfin.out,x,y,rfl⟩⟩
  · have h2 : MSt w2 base M b o n c all (p + 1 + s) v tv tab:=by rw [hw2];exact (h1.setAt (p + 1 + s)).drewN k
    have hb2 : Below base w w2:=by rw [hw2];exact below_drewN (below_setM hb1 h.env.hM _ _) _
    have hle:=hle x s hR
    have hst2:=hst.out
    rw [numF_at hR] at hst2
    dsimp only [Option.bind] at hst2
    have hst2:=Lib.hid hst2
    clear hw2 hR hnum hst i0 i1 i2 i3 i4 i5 i6 hbyte
    obtain ⟨vs,vo,vf,vl⟩:=v
    dsimp only at hvr
    obtain ⟨i0,i1,i2,i3,i4,i5,i6⟩:=h2.mac.cells
    dsimp only at i2 i3 i4 i5
    have f2:=h2.mac.frozen 3
    obtain ⟨z,hz⟩ : ∃ z : Int,z = vo + (x : Int):=⟨_,rfl⟩
    have hzw : wrap64 (vo + (x : Int)) = z:=by rw [hz];exact wrap_in (by omega) (by omega)
    have hzp : vo + (x : Int) = z:=hz.symm
    have h3:=h2.setOff z
    have hb3:=below_setM hb2 h.env.hM 3 (.int .i64 z)
    have hir:=fun W=>inRange_c (w:=W) vs z vf vl
    dsimp only at h3
    have h3:=Lib.hid h3
    have hb3:=Lib.hid hb3
    by_cases hrng : RngOk ⟨vs,z,vf,vl⟩
    · rw [decide_eq_true hrng] at hir
      have hfin:=Lib.hid (show stepF ⟨vs,vo,vf,vl⟩ tab (all.drop p) = some (⟨vs,z,vf,vl⟩,tab,all.drop (p + 1 + s)) by rw [hst2.out];rw [show (vo + (x : Int)) = z from hz.symm];exact chkF_ok hrng)
      have hrng:=Lib.hid hrng
      clear hz hst2
      go_wp2_with fail
      refine (hir _).mono ?_
      rintro e w3 ⟨rfl,hb4⟩
      have h4:=h3.out.below hb4
      have hb5:=bel_then hb3.out hs0 hb4
      go_wp2_with (go_at_call 172;refine (must_yes _ _).mono ?_;rintro e w4 ⟨rfl,rfl⟩)
      exact ⟨rfl,_,results_none rfl _ _ _,hb5,.inr ⟨_,_,p + 1 + s,tv,hfin.out,by omega,by omega,rfl,h4,hrng.out⟩⟩
    · rw [decide_eq_false hrng] at hir
      have hfin:=Lib.hid (show stepF ⟨vs,vo,vf,vl⟩ tab (all.drop p) = none by rw [hst2.out];rw [show (vo + (x : Int)) = z from hz.symm];exact if_neg hrng)
      clear hz hst2 hrng
      go_wp2_with fail
      refine (hir _).mono ?_
      rintro e w3 ⟨rfl,hb4⟩
      have hb5:=bel_then hb3.out hs0 hb4
      go_wp2_with (go_at_call 172;refine (must_no _ _).mono ?_;rintro e w4 ⟨rfl,rfl⟩)
      exact ⟨rfl,hb5,.inl ⟨hfin.out,_,_,rfl⟩⟩
end Go.Ev

namespace Go.Ev
open Go.RowKit Go.Proofs Go.Rw
set_option maxRecDepth 100000 in
set_option maxHeartbeats 1000000 in
theorem step_4 {w : World} {base M b o n c : Nat} {all : List Nat} {p : Nat} {v : LineT} {tv : Value} {tab : List LineT} (h : MSt w base M b o n c all p v tv tab) (hv : RngOk v) (hp : p < n) (hop : all[p]? = some 4) : Calls Tryz.prog 105 #[.pointer (some ⟨M,0,none⟩)] w (StR base M b o n c all p v tab w):=by
  have hdrop:=drop_op hop
  have htk:=take1_c h.mac hp h.env.hnc h.env.hn
  have hbyte0:=h.env.bytes.2.2 p hp
  rw [show all.getD p 0 = 4 by simp [List.getD,hop]] at hbyte0
  have hbr:=h.ne
  have hs0:=h.env.hs
  have hvr:=hv
  unfold RngOk at hvr
  obtain ⟨i0,i1,i2,i3,i4,i5,i6⟩:=h.mac.cells
  go_enter Tryz.func105,Tryz.ntmps105
  go_wp2_with fail
  refine htk.mono ?_
  rintro e w1 ⟨rfl,k,hw1⟩
  have h1 : MSt w1 base M b o n c all (p + 1) v tv tab:=by rw [hw1];exact (h.setAt (p + 1)).drewN k
  have hb1 : Below base w w1:=by rw [hw1];exact below_drewN (below_setM (Below.refl _ _) h.env.hM _ _) _
  have hbyte : w1.cell? ⟨b,o + p,none⟩ = some (.int .u8 ((4 : Nat) : Int)):=by
    rw [hw1]
    show (w.setCell ⟨M,1,none⟩ _).cell? _ = _
    rw [World.cell?_of_block (w:=w) (heap_setCell_other w ⟨M,1,none⟩ b _ hbr)]
    exact hbyte0
  clear hw1 htk hbyte0 i0 i1 i2 i3 i4 i5 i6
  have hnum:=rnumber_c h1.mac h1.env.bytes h1.ne (by omega) h1.env.hnc h1.env.hn
  have hst : stepF v tab (all.drop p) = (numF (all.drop (p + 1))).bind fun q=>if q.1 = 0 then none else chkF ⟨v.sec + q.1,0,v.file,v.line⟩ tab q.2:=by
    rw [hdrop,stepF]
    rw [if_neg (by decide),if_neg (by decide),if_neg (by decide),if_pos rfl]
  have hle:=fun x s (e : leadF (all.drop (p + 1)) = some (x,s))=>leadF_le e
  rw [List.length_drop,h1.env.bytes.1] at hle
  have hst:=Lib.hid hst
  obtain ⟨i0,i1,i2,i3,i4,i5,i6⟩:=h1.mac.cells
  go_wp2_with fail
  refine hnum.mono ?_
  rintro e w2 (⟨hR,x,y,rfl,k,hw2⟩ | ⟨x,s,hR,rfl,k,hw2⟩)
  · have hb2 : Below base w w2:=by rw [hw2];exact below_drewN hb1 _
    have hfin:=Lib.hid (show stepF v tab (all.drop p) = none by rw [hst.out,numF_none hR];rfl)
    clear hw2 hR i0 i1 i2 i3 i4 i5 i6
    go_wp2
    exact ⟨rfl,hb2,.inl ⟨hfin.out,x,y,rfl⟩⟩
  · have h2 : MSt w2 base M b o n c all (p + 1 + s) v tv tab:=by rw [hw2];exact (h1.setAt (p + 1 + s)).drewN k
    have hb2 : Below base w w2:=by rw [hw2];exact below_drewN (below_setM hb1 h.env.hM _ _) _
    have hle:=hle x s hR
    have hst2:=hst.out
    rw [numF_at hR] at hst2
    dsimp only [Option.bind] at hst2
    clear hw2 hR hnum hst i0 i1 i2 i3 i4 i5 i6 hbyte
    by_cases hx0 : x = 0
    · rw [if_pos hx0] at hst2
      have hst2:=Lib.hid hst2
      have hxd : decide ((1 : Int) ≤ (x : Int)) = false:=decide_eq_false (by omega)
      have hxd2 : decide (1 ≤ x) = false:=decide_eq_false (by omega)
      clear hx0
      go_wp2_with (go_at_call 172;refine (must_no _ _).mono ?_;rintro e w4 ⟨rfl,rfl⟩)
      exact ⟨rfl,hb2,.inl ⟨hst2.out,_,_,rfl⟩⟩
    · rw [if_neg hx0] at hst2
      have hst2:=Lib.hid hst2
      have hxd : decide ((1 : Int) ≤ (x : Int)) = true:=decide_eq_true (by omega)
      have hxd2 : decide (1 ≤ x) = true:=decide_eq_true (by omega)
      obtain ⟨vs,vo,vf,vl⟩:=v
      dsimp only at hvr
      obtain ⟨i0,i1,i2,i3,i4,i5,i6⟩:=h2.mac.cells
      dsimp only at i2 i3 i4 i5
      have f2:=h2.mac.frozen 2
      have f3:=h2.mac.frozen 3
      obtain ⟨z,hz⟩ : ∃ z : Int,z = vs + (x : Int):=⟨_,rfl⟩
      have hzw : wrap64 (vs + (x : Int)) = z:=by rw [hz];exact wrap_in (by omega) (by omega)
      have hzp : vs + (x : Int) = z:=hz.symm
      have h3:=(h2.setSec z).setOff 0
      have hb3:=below_setM (below_setM hb2 h.env.hM 2 (.int .i64 z)) h.env.hM 3 (.int .i64 0)
      have hir:=fun W=>inRange_c (w:=W) z 0 vf vl
      dsimp only at h3
      have h3:=Lib.hid h3
      have hb3:=Lib.hid hb3
      by_cases hrng : RngOk ⟨z,0,vf,vl⟩
      · rw [decide_eq_true hrng] at hir
        have hfin:=Lib.hid (show stepF ⟨vs,vo,vf,vl⟩ tab (all.drop p) = some (⟨z,0,vf,vl⟩,tab,all.drop (p + 1 + s)) by rw [hst2.out];rw [show (vs + (x : Int)) = z from hz.symm];exact chkF_ok hrng)
        have hrng:=Lib.hid hrng
        clear hz hst2
        go_wp2_with (first
          | (go_at_call 172;refine (must_yes _ _).mono ?_;rintro e w4 ⟨rfl,rfl⟩)
          | fail)
        refine (hir _).mono ?_
        rintro e w3 ⟨rfl,hb4⟩
        have h4:=h3.out.below hb4
        have hb5:=bel_then hb3.out hs0 hb4
        go_wp2_with (go_at_call 172;refine (must_yes _ _).mono ?_;rintro e w4 ⟨rfl,rfl⟩)
        exact ⟨rfl,_,results_none rfl _ _ _,hb5,.inr ⟨_,_,p + 1 + s,tv,hfin.out,by omega,by omega,rfl,h4,hrng.out⟩⟩
      · rw [decide_eq_false hrng] at hir
        have hfin:=Lib.hid (show stepF ⟨vs,vo,vf,vl⟩ tab (all.drop p) = none by rw [hst2.out];rw [show (vs + (x : Int)) = z from hz.symm];exact if_neg hrng)
        clear hz hst2 hrng
        go_wp2_with (first
          | (go_at_call 172;refine (must_yes _ _).mono ?_;rintro e w4 ⟨rfl,rfl⟩)
          | fail)
        refine (hir _).mono ?_
        rintro e w3 ⟨rfl,hb4⟩
        have hb5:=bel_then hb3.out hs0 hb4
        go_wp2_with (go_at_call 172;refine (must_no _ _).mono ?_;rintro e w4 ⟨rfl,rfl⟩)
        exact ⟨rfl,hb5,.inl ⟨hfin.out,_,_,rfl⟩⟩
set_option maxRecDepth 100000 in
set_option maxHeartbeats 1000000 in
theorem step_x {w : World} {base M b o n c : Nat} {all : List Nat} {p : Nat} {v : LineT} {tv : Value} {tab : List LineT} (h : MSt w base M b o n c all p v tv tab) (hv : RngOk v) (hp : p < n) {op : Nat} (hop : all[p]? = some op) (o1 : op ≠ 1) (o2 : op ≠ 2) (o3 : op ≠ 3) (o4 : op ≠ 4) (o5 : op ≠ 5) (o6 : op < 64) : Calls Tryz.prog 105 #[.pointer (some ⟨M,0,none⟩)] w (StR base M b o n c all p v tab w):=by
  have hdrop:=drop_op hop
  have htk:=take1_c h.mac hp h.env.hnc h.env.hn
  have hbyte0:=h.env.bytes.2.2 p hp
  rw [show all.getD p 0 = op by simp [List.getD,hop]] at hbyte0
  have hbr:=h.ne
  have hs0:=h.env.hs
  have hvr:=hv
  unfold RngOk at hvr
  obtain ⟨i0,i1,i2,i3,i4,i5,i6⟩:=h.mac.cells
  go_enter Tryz.func105,Tryz.ntmps105
  go_wp2_with fail
  refine htk.mono ?_
  rintro e w1 ⟨rfl,k,hw1⟩
  have h1 : MSt w1 base M b o n c all (p + 1) v tv tab:=by rw [hw1];exact (h.setAt (p + 1)).drewN k
  have hb1 : Below base w w1:=by rw [hw1];exact below_drewN (below_setM (Below.refl _ _) h.env.hM _ _) _
  have hbyte : w1.cell? ⟨b,o + p,none⟩ = some (.int .u8 (op : Int)):=by
    rw [hw1]
    show (w.setCell ⟨M,1,none⟩ _).cell? _ = _
    rw [World.cell?_of_block (w:=w) (heap_setCell_other w ⟨M,1,none⟩ b _ hbr)]
    exact hbyte0
  clear hw1 htk hbyte0 i0 i1 i2 i3 i4 i5 i6
  have hfin:=Lib.hid (show stepF v tab (all.drop p) = none by
    rw [hdrop,stepF,if_neg o1,if_neg o2,if_neg o3,if_neg o4,if_neg (by omega),if_neg o5])
  have b1 : ((op : Int) == 1) = false:=beq_eq_false_iff_ne.2 (by omega)
  have b2 : ((op : Int) == 2) = false:=beq_eq_false_iff_ne.2 (by omega)
  have b3 : ((op : Int) == 3) = false:=beq_eq_false_iff_ne.2 (by omega)
  have b4 : ((op : Int) == 4) = false:=beq_eq_false_iff_ne.2 (by omega)
  have b5 : ((op : Int) == 5) = false:=beq_eq_false_iff_ne.2 (by omega)
  have b6 : ¬ (64 : Int) ≤ (op : Int):=by omega
  have b7 : (op : Int) < 64:=by omega
  clear o1 o2 o3 o4 o5 hop hdrop
  obtain ⟨i0,i1,i2,i3,i4,i5,i6⟩:=h1.mac.cells
  go_wp2
  exact ⟨rfl,hb1,.inl ⟨hfin.out,_,_,rfl⟩⟩
end Go.Ev

