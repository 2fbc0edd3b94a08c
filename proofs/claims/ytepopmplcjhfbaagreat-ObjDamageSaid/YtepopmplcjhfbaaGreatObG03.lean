import Derived.Test.YtepopmplcjhfbaaGreatObPf
import Derived.Lib.EndianBits
import Derived.Lib.QuietBelow
import Derived.WalkLawsBesides
set_option linter.unusedSectionVars false
set_option linter.unusedVariables false
set_option linter.unusedSimpArgs false
set_option linter.unnecessarySimpa false
namespace Go.Ev
open Go.RowKit Go.Proofs Go.Rw
theorem wentry_c {w : World} {base g : Nat} {ob : Option Nat} {P : List Value} (now next : LineT) (h : WrS w base g ob P) (hbase : base ≤ w.heap.size) (hn : P.length ≤ 4000000) (hr1 : RngOk now) (hr2 : RngOk next) (hs : now.sec ≤ next.sec) (ho : now.sec = next.sec → now.off ≤ next.off) :
    Calls Tryz.prog 102 #[.pointer (some ⟨g,0,none⟩),.agg #[.int .i64 now.sec,.int .i64 now.off,.int .i64 now.file,.int .i64 now.line],.agg #[.int .i64 next.sec,.int .i64 next.off,.int .i64 next.file,.int .i64 next.line]] w (WrR base g ob (P ++ byL (entryL now next)) w):=by
  obtain ⟨ns,no,nf,nl⟩:=now
  obtain ⟨xs,xo,xf,xl⟩:=next
  dsimp only at hs ho ⊢
  by_cases cA : xs = ns
  · subst cA
    by_cases cF : xf = nf
    · subst cF
      by_cases cO : offB (xo - no) = 0
      · skip
        by_cases cL : lineB (xl - nl) = 0
        · skip
          exact entry_nnnn h hbase hn hr1 hr2 (ho rfl) cO cL
        · skip
          exact entry_nnny h hbase hn hr1 hr2 (ho rfl) cO cL
      · skip
        by_cases cL : lineB (xl - nl) = 0
        · skip
          exact entry_nnyn h hbase hn hr1 hr2 (ho rfl) cO cL
        · skip
          exact entry_nnyy h hbase hn hr1 hr2 (ho rfl) cO cL
    · skip
      by_cases cO : offB (xo - no) = 0
      · skip
        by_cases cL : lineB (xl - nl) = 0
        · skip
          exact entry_nynn h hbase hn hr1 hr2 (ho rfl) cF cO cL
        · skip
          exact entry_nyny h hbase hn hr1 hr2 (ho rfl) cF cO cL
      · skip
        by_cases cL : lineB (xl - nl) = 0
        · skip
          exact entry_nyyn h hbase hn hr1 hr2 (ho rfl) cF cO cL
        · skip
          exact entry_nyyy h hbase hn hr1 hr2 (ho rfl) cF cO cL
  · clear ho
    by_cases cF : xf = nf
    · subst cF
      by_cases cO : offB (xo - 0) = 0
      · skip
        by_cases cL : lineB (xl - nl) = 0
        · skip
          exact entry_ynnn h hbase hn hr1 hr2 (by omega) cA cO cL
        · skip
          exact entry_ynny h hbase hn hr1 hr2 (by omega) cA cO cL
      · skip
        by_cases cL : lineB (xl - nl) = 0
        · skip
          exact entry_ynyn h hbase hn hr1 hr2 (by omega) cA cO cL
        · skip
          exact entry_ynyy h hbase hn hr1 hr2 (by omega) cA cO cL
    · skip
      by_cases cO : offB (xo - 0) = 0
      · skip
        by_cases cL : lineB (xl - nl) = 0
        · skip
          exact entry_yynn h hbase hn hr1 hr2 (by omega) cA cF cO cL
        · skip
          exact entry_yyny h hbase hn hr1 hr2 (by omega) cA cF cO cL
      · skip
        by_cases cL : lineB (xl - nl) = 0
        · skip
          exact entry_yyyn h hbase hn hr1 hr2 (by omega) cA cF cO cL
        · skip
          exact entry_yyyy h hbase hn hr1 hr2 (by omega) cA cF cO cL
def packL : LineT → List LineT → List Int
  | _,[]=>[]
  | now,x :: l=>entryL now x ++ packL x l
theorem packL_snoc : ∀ (now : LineT) (l : List LineT) (x : LineT),packL now (l ++ [x]) = packL now l ++ entryL ((now :: l).getLast (by simp)) x
  | now,[],x=>by simp [packL]
  | now,y :: l,x=>by
    rw [List.cons_append,packL,packL,packL_snoc y l x,List.append_assoc]
    congr 2
theorem entryL_len (a b : LineT) (h1 : RngOk a) (h2 : RngOk b) : (entryL a b).length ≤ 41:=by
  unfold RngOk at h1 h2
  have l1 : (secP a b).length ≤ 10:=by
    unfold secP
    split
    · simp
    · have:=numL_le9 (n:=(b.sec - a.sec).toNat) (by omega)
      simp;omega
  have l2 : (fileP a b).length ≤ 10:=by
    unfold fileP
    split
    · simp
    · have:=numL_le9 (n:=b.file.toNat) (by omega)
      simp;omega
  have hd : -65535 ≤ offD a b ∧ offD a b ≤ 65535:=by unfold offD;split <;> omega
  have l3 : (offP (offD a b)).length ≤ 10:=by
    unfold offP
    split
    · simp
    · have:=numL_le9 (n:=(offB (offD a b)).toNat) (by unfold offB;split <;> omega)
      simp;omega
  have l4 : (lineP (b.line - a.line)).length ≤ 10:=by
    unfold lineP
    split
    · simp
    · have hb:=lineB_in (d:=b.line - a.line) (by omega) (by omega)
      have:=numL_le9 (zig_in hb.1 hb.2.1)
      simp;omega
  unfold entryL
  simp only [List.length_append,List.length_singleton]
  omega
def nowAt (l : List LineT) : Nat → LineT
  | 0=>default
  | k + 1=>l.getD k default
theorem nowAt_last (l : List LineT) (k : Nat) (hk : k ≤ l.length) : (default :: l.take k).getLast (by simp) = nowAt l k:=by
  cases k with
  | zero=>simp [nowAt]
  | succ k =>
    have h1 : k < l.length:=by omega
    rw [List.getLast_eq_getElem]
    simp only [List.length_cons,List.length_take]
    have : min (k + 1) l.length = k + 1:=by omega
    simp [this,nowAt,h1]
theorem pack_step {l : List LineT} {k : Nat} {x : LineT} (hx : l[k]? = some x) : packL default (l.take (k + 1)) = packL default (l.take k) ++ entryL (nowAt l k) x:=by
  have hk : k < l.length:=(List.getElem?_eq_some_iff.1 hx).1
  have hx' : l[k] = x:=(List.getElem?_eq_some_iff.1 hx).2
  rw [List.take_succ_eq_append_getElem hk,packL_snoc,nowAt_last l k (by omega),hx']
theorem rng_default : RngOk default:=by unfold RngOk;exact ⟨⟨by decide,by decide⟩,⟨by decide,by decide⟩,⟨by decide,by decide⟩,⟨by decide,by decide⟩⟩
theorem nowAt_rng {l : List LineT} (h : ∀ x ∈ l,RngOk x) {k : Nat} (hk : k ≤ l.length) : RngOk (nowAt l k):=by
  cases k with
  | zero=>exact rng_default
  | succ k =>
    have h1 : k < l.length:=by omega
    have : nowAt l (k + 1) = l[k]:=by simp [nowAt,h1]
    rw [this]
    exact h _ (List.getElem_mem _)
theorem packL_len : ∀ (now : LineT) (l : List LineT),RngOk now → (∀ x ∈ l,RngOk x) → (packL now l).length ≤ 41 * l.length
  | _,[],_,_=>by simp [packL]
  | now,x :: l,h0,h=>by
    have h1:=entryL_len now x h0 (h x (List.mem_cons_self ..))
    have h2:=packL_len x l (h x (List.mem_cons_self ..)) (fun y hy=>h y (List.mem_cons_of_mem _ hy))
    rw [packL,List.length_append,List.length_cons]
    omega
theorem Wst.below {w w' : World} {base g : Nat} {ob ob' : Option Nat} (h : Wst w w' g ob ob') (hb : base ≤ w.heap.size) (hg : base ≤ g) (ho : ∀ k,ob = some k → base ≤ k) : Below base w w' :=
  ⟨h.os,h.tape,h.output,h.size,fun k hk=>h.block k (by omega) (by omega) (fun e=>by have:=ho k e;omega)⟩
def PkR (l : List LineT) (w : World) (e : Ending) (w' : World) : Prop :=
  Below w.heap.size w w' ∧ ((¬ TabOk l ∧ e = .returned (.tuple #[.slice none 0 0,.int .i64 30])) ∨ (TabOk l ∧ ∃ v,e = .returned (.tuple #[v,.int .i64 0]) ∧ w'.ownsRow w.heap.size 5 1 v (packL default l).length (byL (packL default l))))
set_option maxRecDepth 100000 in
set_option maxHeartbeats 2000000 in
theorem pack_c {w : World} {s : Value} {l : List LineT} (h : RowsAt w s LineT.cells 4 l) (hl : l.length ≤ 140737488351232) :
    Calls Tryz.prog 28 #[s] w (PkR l w):=by
  have hT:=isTable_c h hl
  obtain ⟨a,c,rfl⟩:=rows_slice h
  by_cases ht : TabOk l
  · rw [dec_yes ht] at hT
    have h4 : l.length ≤ 4000:=ht.1
    have hent:=ht.2.1
    have hstep:=ht.2.2
    have ht:=Lib.hid ht
    go_enter Tryz.func28,Tryz.ntmps28
    go_wp2_with fail
    refine hT.mono ?_
    rintro e w1 ⟨rfl,hb1⟩
    have hB1:=hb1.size
    have hW0 : WrS ((w1.alloc (.cells #[.slice none 0 0] 98)).alloc (.cells #[.int .i64 0,.int .i64 0,.int .i64 0,.int .i64 0] 48)) w.heap.size w1.heap.size none []:=by
      refine ⟨.slice none 0 0,?_,?_,rfl,by simp⟩
      · rw [heap_alloc_old _ _ (by simp)]
        exact heap_alloc_new w1 _
      · exact World.ownsRow_nil _ _ _ _
    have hN0 : LineB ((w1.alloc (.cells #[.slice none 0 0] 98)).alloc (.cells #[.int .i64 0,.int .i64 0,.int .i64 0,.int .i64 0] 48)) (w1.heap.size + 1) default:=by
      have:=lineB_new (w1.alloc (.cells #[.slice none 0 0] 98)) default
      rwa [World.size_alloc] at this
    have hb2 : Below w.heap.size w ((w1.alloc (.cells #[.slice none 0 0] 98)).alloc (.cells #[.int .i64 0,.int .i64 0,.int .i64 0,.int .i64 0] 48)):=(hb1.alloc hB1 _).alloc (by rw [World.size_alloc];omega) _
    have hW0:=Lib.hid hW0
    have hN0:=Lib.hid hN0
    go_wp2_with fail
    go_loopw [16] (fun i wr=>∃ (k : Nat) (ob : Option Nat),k ≤ l.length ∧ i = .int .i64 k ∧ WrS wr w.heap.size w1.heap.size ob (byL (packL default (l.take k))) ∧ LineB wr (w1.heap.size + 1) (nowAt l k) ∧ ob ≠ some (w1.heap.size + 1) ∧ Below w.heap.size w wr) (fun i _=>l.length - (intOf i).toNat)
    case atStart=>exact ⟨0,none,by omega,rfl,hW0.out,hN0.out,by simp,hb2⟩
    case round =>
      obtain ⟨k,ob,hk,rfl,hWr,hN,hob,hbl⟩:=hrel
      have hlw:=hWr.lt
      have hB:=hbl.size
      by_cases hlt : k < l.length
      · obtain ⟨b,of,rfl⟩:=rows_some2 h hlt
        obtain ⟨x,hx⟩ : ∃ x,l[k]? = some x:=⟨l[k],by simp [hlt]⟩
        have hxR:=(hent x (List.mem_of_getElem? hx)).1
        have hord : (nowAt l k).sec ≤ x.sec ∧ ((nowAt l k).sec = x.sec → (nowAt l k).off ≤ x.off):=by
          cases k with
          | zero=>exact ⟨hxR.1.1,fun _=>hxR.2.1.1⟩
          | succ k =>
            have h1 : k < l.length:=by omega
            have e : nowAt l (k + 1) = l[k]:=by simp [nowAt,h1]
            have:=hstep k l[k] x (List.getElem?_eq_getElem h1) hx
            rw [e]
            omega
        have hlen:=packL_len default (l.take k) rng_default (fun y hy=>(hent y (List.mem_of_mem_take hy)).1)
        rw [List.length_take] at hlen
        have hcall:=wentry_c (w:=wr.alloc (.cells #[.int .i64 x.sec,.int .i64 x.off,.int .i64 x.file,.int .i64 x.line] 48)) (nowAt l k) x (hWr.alloc _) (by simp;omega) (by simp [byL];omega) (nowAt_rng (fun y hy=>(hent y hy).1) hk) hxR hord.1 hord.2
        have hnx : nowAt l (k + 1) = x:=by simp [nowAt,hx]
        have hap : byL (packL default (l.take k)) ++ byL (entryL (nowAt l k) x) = byL (packL default (l.take (k + 1))):=by rw [pack_step hx];simp [byL]
        rw [hap] at hcall
        have hnx:=Lib.hid hnx
        have hlt' : (k : Int) < (l.length : Int):=by omega
        obtain ⟨g0,g1,g2,g3⟩:=rows_line (h.below hbl) hx
        obtain ⟨y,hy⟩ : ∃ y,y = nowAt l k:=⟨_,rfl⟩
        rw [← hy] at hN hcall
        clear hord hy hap hx hlen hW0 hN0 hb2 hent hstep
        have hX:=lineB_new wr x
        obtain ⟨xs,xo,xf,xl⟩:=x
        obtain ⟨ys,yo,yf,yl⟩:=y
        dsimp only at hcall g0 g1 g2 g3 hX
        have hNa:=hN.alloc (.cells #[.int .i64 xs,.int .i64 xo,.int .i64 xf,.int .i64 xl] 48)
        obtain ⟨c0,c1,c2,c3⟩:=hNa.cells
        dsimp only at c0 c1 c2 c3
        have hWr:=Lib.hid hWr
        go_wp2_with fail
        refine hcall.mono ?_
        rintro e w2 ⟨rfl,ob2,hW2,hS2⟩
        have hN2 : LineB w2 (w1.heap.size + 1) ⟨ys,yo,yf,yl⟩:=(hS2.block _ hNa.low (by omega) hob).trans hNa
        have hX2 : LineB w2 wr.heap.size ⟨xs,xo,xf,xl⟩:=(hS2.block _ hX.low (by omega) (fun e=>by have:=(hlw.2 _ e).2;omega)).trans hX
        have hob2 : ob2 ≠ some (w1.heap.size + 1):=by
          rcases hS2.fresh with e | ⟨j,e,hj⟩
          · rw [e];exact hob
          · rw [e];intro e';cases e';have:=hNa.low;omega
        have hbl2:=(hbl.alloc hB (.cells #[.int .i64 xs,.int .i64 xo,.int .i64 xf,.int .i64 xl] 48)).trans (hS2.below (base:=w.heap.size) (by simp;omega) (by omega) (fun j e=>(hlw.2 j e).1))
        have hB2:=hbl2.size
        have hW3 : WrS ((((w2.setCell ⟨w1.heap.size + 1,0,none⟩ (.int .i64 xs)).setCell ⟨w1.heap.size + 1,1,none⟩ (.int .i64 xo)).setCell ⟨w1.heap.size + 1,2,none⟩ (.int .i64 xf)).setCell ⟨w1.heap.size + 1,3,none⟩ (.int .i64 xl)) w.heap.size w1.heap.size ob2 (byL (packL default (l.take (k + 1)))) :=
          (((hW2.setCell (by simp) hob2 _).setCell (by simp) hob2 _).setCell (by simp) hob2 _).setCell (by simp) hob2 _
        have hN3:=lineB_set hN2 ⟨xs,xo,xf,xl⟩
        have hbl3:=below_set4 hbl2 (C:=w1.heap.size + 1) (by omega) (.int .i64 xs) (.int .i64 xo) (.int .i64 xf) (.int .i64 xl)
        obtain ⟨p0,p1,p2,p3⟩:=hN2.cells
        obtain ⟨x0,x1,x2,x3⟩:=hX2.cells
        have f0:=hN2.frozen 0
        have f1:=hN2.frozen 1
        have f2:=hN2.frozen 2
        have f3:=hN2.frozen 3
        dsimp only at p0 p1 p2 p3 x0 x1 x2 x3 hN3
        have hW3:=Lib.hid hW3
        have hN3:=Lib.hid hN3
        have hbl3:=Lib.hid hbl3
        clear c0 c1 c2 c3 hcall hS2 hW2
        go_wp2
        go_roundw
        case rel=>exact ⟨k + 1,ob2,by omega,by go_num,hW3.out,by rw [hnx.out];exact hN3.out,hob2,hbl3.out⟩
        case measure=>simp [intOf];omega
      · have : k = l.length:=by omega
        subst this
        rw [List.take_length] at hWr
        obtain ⟨v,hv1,hv2,hv3,hv4⟩:=hWr
        have c0 : wr.cell? ⟨w1.heap.size,0,none⟩ = some v:=by simp [World.cell?,hv1]
        rw [show (byL (packL default l)).length = (packL default l).length by simp [byL]] at hv2
        have hv2:=Lib.hid hv2
        go_wp2
        go_ret2
        exact ⟨hbl,.inr ⟨ht.out,v,rfl,hv2.out⟩⟩
  · rw [dec_no ht] at hT
    have ht:=Lib.hid ht
    go_enter Tryz.func28,Tryz.ntmps28
    go_wp2_with fail
    refine hT.mono ?_
    rintro e w1 ⟨rfl,hb1⟩
    go_wp2
    go_ret2
    exact ⟨hb1,.inl ⟨ht.out,rfl⟩⟩
end Go.Ev

namespace Go.Ev
open Go.RowKit Go.Proofs Go.Rw
def leadGo : Nat → Nat → List Nat → Option (Nat × Nat)
  | _,_,[]=>none
  | i,acc,c :: r=>if 5 ≤ i then none else if c < 128 then (if (c = 0 ∧ 0 < i) ∨ 4294967295 < acc + c % 128 * 128 ^ i then none else some (acc + c % 128 * 128 ^ i,i + 1)) else leadGo (i + 1) (acc + c % 128 * 128 ^ i) r
def leadF (l : List Nat) : Option (Nat × Nat):=leadGo 0 0 l
def numF (l : List Nat) : Option (Nat × List Nat):=(leadF l).map fun r=>(r.1,l.drop r.2)
def unzig (n : Nat) : Int:=if n % 2 = 1 then -(((n + 1) / 2 : Nat) : Int) else ((n / 2 : Nat) : Int)
def chkF (v : LineT) (tab : List LineT) (r : List Nat) : Option (LineT × List LineT × List Nat):=if RngOk v then some (v,tab,r) else none
def aheadB (tab : List LineT) (v : LineT) : Bool:=match tab.getLast? with
  | none=>true
  | some y=>decide (y.sec < v.sec ∨ (y.sec = v.sec ∧ y.off < v.off))
def canAppB (tab : List LineT) (v : LineT) : Bool:=decide (tab.length < 4000) && (decide (EntOk v) && aheadB tab v)
def emitF (v : LineT) (tab : List LineT) (r : List Nat) : Option (LineT × List LineT × List Nat):=if canAppB tab v then chkF v (tab ++ [v]) r else none
def stepF (v : LineT) (tab : List LineT) : List Nat → Option (LineT × List LineT × List Nat)
  | []=>none
  | op :: r =>
    if op = 1 then (numF r).bind fun q=>chkF ⟨v.sec,v.off + q.1,v.file,v.line⟩ tab q.2
    else if op = 2 then (numF r).bind fun q=>chkF ⟨v.sec,v.off,v.file,v.line + unzig q.1⟩ tab q.2
    else if op = 3 then (numF r).bind fun q=>chkF ⟨v.sec,v.off,q.1,v.line⟩ tab q.2
    else if op = 4 then (numF r).bind fun q=>if q.1 = 0 then none else chkF ⟨v.sec + q.1,0,v.file,v.line⟩ tab q.2
    else if 64 ≤ op then emitF ⟨v.sec,v.off + ((op - 64) / 16 * 4 : Nat),v.file,v.line + (((op - 64) % 16 : Nat) - 4)⟩ tab r
    else if op = 5 then emitF v tab r
    else none
def runF : Nat → LineT → List LineT → List Nat → Option (List LineT)
  | _,_,tab,[]=>some tab
  | 0,_,_,_ :: _=>none
  | k + 1,v,tab,b :: bs=>(stepF v tab (b :: bs)).bind fun s=>runF k s.1 s.2.1 s.2.2
def unpackF (bs : List Nat) : Option (List LineT):=runF bs.length default [] bs
theorem leadGo_le : ∀ (l : List Nat) (i acc x s : Nat),leadGo i acc l = some (x,s) → i < s ∧ s ≤ i + l.length ∧ x ≤ 4294967295
  | [],i,acc,x,s,h=>by simp [leadGo] at h
  | c :: r,i,acc,x,s,h=>by
    rw [leadGo] at h
    by_cases h5 : 5 ≤ i
    · rw [if_pos h5] at h;cases h
    · rw [if_neg h5] at h
      by_cases h1 : c < 128
      · rw [if_pos h1] at h
        by_cases h2 : (c = 0 ∧ 0 < i) ∨ 4294967295 < acc + c % 128 * 128 ^ i
        · rw [if_pos h2] at h;cases h
        · rw [if_neg h2] at h
          cases h
          refine ⟨by omega,by simp,?_⟩
          have:=fun h=>h2 (.inr h)
          omega
      · rw [if_neg h1] at h
        have:=leadGo_le r (i + 1) _ x s h
        simp only [List.length_cons]
        omega
theorem numF_len {l r : List Nat} {n : Nat} (h : numF l = some (n,r)) : r.length < l.length ∧ n ≤ 4294967295 ∧ ∃ s,leadF l = some (n,s) ∧ r = l.drop s ∧ s + r.length = l.length:=by
  unfold numF at h
  cases hl : leadF l with
  | none=>rw [hl] at h;cases h
  | some q =>
    obtain ⟨x,s⟩:=q
    rw [hl] at h
    cases h
    have:=leadGo_le l 0 0 x s hl
    refine ⟨by rw [List.length_drop];omega,this.2.2,s,rfl,rfl,by rw [List.length_drop];omega⟩
theorem chkF_some {v v' : LineT} {tab tab' : List LineT} {r r' : List Nat} (h : chkF v tab r = some (v',tab',r')) : RngOk v ∧ v' = v ∧ tab' = tab ∧ r' = r:=by
  unfold chkF at h
  by_cases hv : RngOk v
  · rw [if_pos hv] at h;cases h;exact ⟨hv,rfl,rfl,rfl⟩
  · rw [if_neg hv] at h;cases h
theorem emitF_some {v v' : LineT} {tab tab' : List LineT} {r r' : List Nat} (h : emitF v tab r = some (v',tab',r')) : canAppB tab v = true ∧ RngOk v ∧ v' = v ∧ tab' = tab ++ [v] ∧ r' = r:=by
  unfold emitF at h
  by_cases hc : canAppB tab v = true
  · rw [if_pos hc] at h
    obtain ⟨h1,h2,h3,h4⟩:=chkF_some h
    exact ⟨hc,h1,h2,h3,h4⟩
  · rw [if_neg hc] at h;cases h
abbrev nbs (n : Nat) : Nat:=(numL n).length
theorem nb_mono : ∀ (a b : Nat),a ≤ b → nbs a ≤ nbs b:=by
  intro a
  induction a using Nat.strongRecOn with
  | ind a ih =>
    intro b hab
    by_cases ha : a < 128
    · have h1 : nbs a = 1:=by unfold nbs;rw [numL_lt ha];rfl
      have:=numL_pos b
      unfold nbs at *
      omega
    · have hb : ¬ b < 128:=by omega
      have:=ih (a / 128) (by omega) (b / 128) (by omega)
      unfold nbs at *
      rw [numL_ge ha,numL_ge hb,List.length_cons,List.length_cons]
      omega
theorem nb_up {c b : Nat} (h : c ≤ 128 * b + 127) : nbs c ≤ nbs b + 1:=by
  by_cases hc : c < 128
  · have h1 : nbs c = 1:=by unfold nbs;rw [numL_lt hc];rfl
    omega
  · have h1 : nbs c = nbs (c / 128) + 1:=by unfold nbs;rw [numL_ge hc,List.length_cons]
    have:=nb_mono (c / 128) b (by omega)
    omega
theorem nb_pos (n : Nat) : 1 ≤ nbs n:=numL_pos n
theorem nb_sum {a b c : Nat} (h : c ≤ a + b + 1) : nbs c ≤ nbs a + nbs b:=by
  have h1:=nb_pos a
  have h2:=nb_pos b
  rcases Nat.le_total a b with h3 | h3
  · have:=nb_up (c:=c) (b:=b) (by omega)
    omega
  · have:=nb_up (c:=c) (b:=a) (by omega)
    omega
theorem leadGo_nb : ∀ (l : List Nat) (i acc x s : Nat),leadGo i acc l = some (x,s) → ∃ n,x = acc + n * 128 ^ i ∧ nbs n + i ≤ s
  | [],i,acc,x,s,h=>by simp [leadGo] at h
  | c :: r,i,acc,x,s,h=>by
    rw [leadGo] at h
    by_cases h5 : 5 ≤ i
    · rw [if_pos h5] at h;cases h
    · rw [if_neg h5] at h
      by_cases h1 : c < 128
      · rw [if_pos h1] at h
        by_cases h2 : (c = 0 ∧ 0 < i) ∨ 4294967295 < acc + c % 128 * 128 ^ i
        · rw [if_pos h2] at h;cases h
        · rw [if_neg h2] at h
          cases h
          refine ⟨c % 128,rfl,?_⟩
          have : nbs (c % 128) = 1:=by unfold nbs;rw [numL_lt (by omega)];rfl
          omega
      · rw [if_neg h1] at h
        obtain ⟨n,hx,hn⟩:=leadGo_nb r (i + 1) _ x s h
        refine ⟨c % 128 + 128 * n,?_,?_⟩
        · rw [hx,Nat.pow_succ,Nat.add_mul,Nat.add_assoc]
          congr 2
          rw [Nat.mul_comm 128 n,Nat.mul_assoc,Nat.mul_comm 128]
        · have:=nb_up (c:=c % 128 + 128 * n) (b:=n) (by omega)
          omega
theorem numF_nb {l r : List Nat} {n : Nat} (h : numF l = some (n,r)) : nbs n + r.length ≤ l.length:=by
  obtain ⟨_,_,s,hl,_,hs⟩:=numF_len h
  obtain ⟨m,hm,hn⟩:=leadGo_nb l 0 0 n s hl
  rw [Nat.pow_zero,Nat.mul_one,Nat.zero_add] at hm
  subst hm
  omega
def offNeed (d : Int) : Nat:=if d = 0 then 0 else 1 + nbs d.toNat
def lineNeed (e : Int) : Nat:=if e = 0 then 0 else 1 + nbs (zig e)
def need (now v : LineT) : Nat:=(if v.sec = now.sec then 0 else 2) + (if v.file = now.file then 0 else 2) + offNeed (offD now v) + lineNeed (v.line - now.line)
theorem zig_unzig (n : Nat) : zig (unzig n) = n:=by
  unfold zig unzig
  by_cases h : n % 2 = 1
  · rw [if_pos h,if_pos (by omega)]
    omega
  · rw [if_neg h,if_neg (by omega)]
    omega
theorem zig_add (a b : Int) : zig (a + b) ≤ zig a + zig b + 1:=by
  unfold zig
  repeat' split
  all_goals omega
theorem offNeed_add {d : Int} {n : Nat} (h : 0 ≤ d) : offNeed (d + n) ≤ offNeed d + (1 + nbs n):=by
  unfold offNeed
  by_cases h1 : d + (n : Int) = 0
  · rw [if_pos h1];omega
  · rw [if_neg h1]
    by_cases h2 : d = 0
    · rw [if_pos h2]
      have : (d + (n : Int)).toNat = n:=by omega
      rw [this];omega
    · rw [if_neg h2]
      have : (d + (n : Int)).toNat = d.toNat + n:=by omega
      rw [this]
      have:=nb_sum (a:=d.toNat) (b:=n) (c:=d.toNat + n) (by omega)
      omega
theorem lineNeed_add (e z : Int) : lineNeed (e + z) ≤ lineNeed e + (1 + nbs (zig z)):=by
  unfold lineNeed
  by_cases h1 : e + z = 0
  · rw [if_pos h1];omega
  · rw [if_neg h1]
    by_cases h2 : e = 0
    · rw [if_pos h2,h2,Int.zero_add];omega
    · rw [if_neg h2]
      have:=nb_sum (a:=zig e) (b:=zig z) (c:=zig (e + z)) (zig_add e z)
      omega
theorem need_self (x : LineT) : need x x = 0:=by
  unfold need offD offNeed lineNeed
  simp
theorem entry_need (now v x : LineT) (h0 : RngOk now) (h1 : RngOk x) (hs : now.sec ≤ v.sec) (ho : 0 ≤ offD now v) (es : x.sec = v.sec) (ef : x.file = v.file)
    (dq dl : Int) (q0 : 0 ≤ dq) (q1 : dq ≤ 44) (q2 : dq % 4 = 0) (l0 : -4 ≤ dl) (l1 : dl ≤ 11) (eo : x.off = v.off + dq) (el : x.line = v.line + dl) : (entryL now x).length ≤ need now v + 1:=by
  have e1 : offD now x = offD now v + dq:=by unfold offD;rw [es,eo];omega
  have e2 : x.line - now.line = (v.line - now.line) + dl:=by omega
  have p1 : (secP now x).length ≤ if v.sec = now.sec then 0 else 2:=by
    unfold secP
    rw [es]
    split
    · simp
    · unfold RngOk at h0 h1
      rw [numL_lt (by omega)]
      simp
  have p2 : (fileP now x).length ≤ if v.file = now.file then 0 else 2:=by
    unfold fileP
    rw [ef]
    split
    · simp
    · unfold RngOk at h1
      rw [numL_lt (by omega)]
      simp
  have p3 : (offP (offD now x)).length ≤ offNeed (offD now v):=by
    rw [e1]
    generalize offD now v = d at ho
    unfold offP offNeed
    by_cases hz : offB (d + dq) = 0
    · rw [if_pos hz];simp
    · rw [if_neg hz]
      have hb : offB (d + dq) ≤ d ∧ 0 ≤ offB (d + dq):=by
        unfold offB
        split <;> omega
      rw [if_neg (by omega)]
      have:=nb_mono (offB (d + dq)).toNat d.toNat (by omega)
      simp only [List.length_cons]
      unfold nbs at this ⊢
      omega
  have p4 : (lineP (x.line - now.line)).length ≤ lineNeed (v.line - now.line):=by
    rw [e2]
    generalize v.line - now.line = e
    unfold lineP lineNeed
    by_cases hz : lineB (e + dl) = 0
    · rw [if_pos hz];simp
    · rw [if_neg hz]
      have hb : zig (lineB (e + dl)) ≤ zig e ∧ e ≠ 0:=by
        unfold lineB at hz ⊢
        unfold zig
        repeat' split
        all_goals omega
      rw [if_neg hb.2]
      have:=nb_mono _ _ hb.1
      simp only [List.length_cons]
      unfold nbs at this ⊢
      omega
  unfold entryL need
  simp only [List.length_append,List.length_singleton]
  omega
end Go.Ev

namespace Go.Ev
theorem wraps_i64 (n : Int) (h₀ : 0 ≤ n) (h₁ : n < 2 ^ 63) : IntKind.i64.wrap n = n:=by rw [IntKind.wrap_i64];omega
theorem or_i64_0 (y : Int) (h0 : 0 ≤ y) (h1 : y < 256) : bits .or .i64 0 y = y:=by
  have:=bits_join_low .i64 63 (by decide) wraps_i64 0 0 y (by decide) (by decide) (by decide) h0 (by omega) (by omega)
  omega
end Go.Ev

namespace Go.Ev
open Go.RowKit Go.Proofs Go.Rw
def MacB (W : World) (M : Nat) (ba : Option Addr) (n c : Nat) (p : Int) (v : LineT) (tv : Value) : Prop :=
  W.heap[M]? = some (.cells #[.slice ba n c,.int .i64 p,.int .i64 v.sec,.int .i64 v.off,.int .i64 v.file,.int .i64 v.line,tv] 139 (0,0))
section
variable {W : World} {M : Nat} {ba : Option Addr} {n c : Nat} {p : Int} {v : LineT} {tv : Value}
theorem MacB.cells (h : MacB W M ba n c p v tv) : W.cell? ⟨M,0,none⟩ = some (.slice ba n c) ∧ W.cell? ⟨M,1,none⟩ = some (.int .i64 p) ∧ W.cell? ⟨M,2,none⟩ = some (.int .i64 v.sec) ∧ W.cell? ⟨M,3,none⟩ = some (.int .i64 v.off) ∧ W.cell? ⟨M,4,none⟩ = some (.int .i64 v.file) ∧ W.cell? ⟨M,5,none⟩ = some (.int .i64 v.line) ∧ W.cell? ⟨M,6,none⟩ = some tv:=by
  unfold MacB at h
  refine ⟨?_,?_,?_,?_,?_,?_,?_⟩ <;> simp [World.cell?,h]
theorem MacB.frozen (h : MacB W M ba n c p v tv) (i : Nat) : W.frozen? ⟨M,i,none⟩ = false:=by
  unfold MacB at h
  simp [World.frozen?,h]
theorem MacB.low (h : MacB W M ba n c p v tv) : M < W.heap.size:=(Array.getElem?_eq_some_iff.1 h).1
theorem MacB.setAt (h : MacB W M ba n c p v tv) (p' : Int) : MacB (W.setCell ⟨M,1,none⟩ (.int .i64 p')) M ba n c p' v tv:=heap_setCell_same _ _ 1 _ _ _ h
theorem MacB.setSec (h : MacB W M ba n c p v tv) (x : Int) : MacB (W.setCell ⟨M,2,none⟩ (.int .i64 x)) M ba n c p ⟨x,v.off,v.file,v.line⟩ tv:=heap_setCell_same _ _ 2 _ _ _ h
theorem MacB.setOff (h : MacB W M ba n c p v tv) (x : Int) : MacB (W.setCell ⟨M,3,none⟩ (.int .i64 x)) M ba n c p ⟨v.sec,x,v.file,v.line⟩ tv:=heap_setCell_same _ _ 3 _ _ _ h
theorem MacB.setFile (h : MacB W M ba n c p v tv) (x : Int) : MacB (W.setCell ⟨M,4,none⟩ (.int .i64 x)) M ba n c p ⟨v.sec,v.off,x,v.line⟩ tv:=heap_setCell_same _ _ 4 _ _ _ h
theorem MacB.setLine (h : MacB W M ba n c p v tv) (x : Int) : MacB (W.setCell ⟨M,5,none⟩ (.int .i64 x)) M ba n c p ⟨v.sec,v.off,v.file,x⟩ tv:=heap_setCell_same _ _ 5 _ _ _ h
theorem MacB.setTab (h : MacB W M ba n c p v tv) (t : Value) : MacB (W.setCell ⟨M,6,none⟩ t) M ba n c p v t:=heap_setCell_same _ _ 6 _ _ _ h
theorem MacB.other (h : MacB W M ba n c p v tv) {a : Addr} (hne : a.block ≠ M) (x : Value) : MacB (W.setCell a x) M ba n c p v tv:=(heap_setCell_other W a M x (Ne.symm hne)).trans h
theorem MacB.alloc (h : MacB W M ba n c p v tv) (A : Obj) : MacB (W.alloc A) M ba n c p v tv:=(heap_alloc_old W A h.low).trans h
theorem MacB.below {W' : World} (h : MacB W M ba n c p v tv) (hb : Below W.heap.size W W') : MacB W' M ba n c p v tv:=(hb.block M h.low).trans h
end
def fltV (a b : Int) : PanicEntry:={ v:=.iface 119 (.agg #[.int .i64 a,.int .i64 b]),recovered:=false }
def Flt (base : Nat) (w : World) (e : Ending) (w' : World) : Prop:=∃ a b : Int,e = .panicked [fltV a b] ∧ Below base w w'
theorem must_yes {w : World} (a b : Int) : Calls Tryz.prog 172 #[.bool true,.int .i64 a,.int .i64 b] w fun e w'=>e = .returned (.tuple #[]) ∧ w' = w:=by
  go_enter Tryz.func172,Tryz.ntmps172
  go_wp2
  exact ⟨rfl,_,results_none rfl _ _ _,rfl,rfl⟩
theorem must_no {w : World} (a b : Int) : Calls Tryz.prog 172 #[.bool false,.int .i64 a,.int .i64 b] w fun e w'=>e = .panicked [fltV a b] ∧ w' = w:=by
  go_enter Tryz.func172,Tryz.ntmps172
  go_wp2
  exact ⟨rfl,rfl,rfl⟩
theorem isAtEnd_c {w : World} {M : Nat} {ba : Option Addr} {n c : Nat} {p : Int} {v : LineT} {tv : Value} (h : MacB w M ba n c p v tv) :
    Calls Tryz.prog 104 #[.pointer (some ⟨M,0,none⟩)] w fun e w'=>e = .returned (.bool (p == (n : Int))) ∧ ∃ k,w' = w.drewN k:=by
  obtain ⟨c0,c1,-⟩:=h.cells
  go_enter Tryz.func104,Tryz.ntmps104
  go_wp2_with fail
  go_quiet (fail)
  go_wp2
  go_ret
  exact ⟨rfl,_,rfl⟩
def leadV (r : Option (Nat × Nat)) : Value:=.tuple #[.int .i64 ((r.getD (0,0)).1 : Nat),.int .i64 ((r.getD (0,0)).2 : Nat)]
def LdR (r : Option (Nat × Nat)) (w : World) (e : Ending) (w' : World) : Prop:=e = .returned (leadV r) ∧ ∃ k,w' = w.drewN k
theorem leadGo_drop {l : List Nat} {i acc : Nat} (hi : i < 5) {c : Nat} (hc : l[i]? = some c) : leadGo i acc (l.drop i) = if c < 128 then (if (c = 0 ∧ 0 < i) ∨ 4294967295 < acc + c % 128 * 128 ^ i then none else some (acc + c % 128 * 128 ^ i,i + 1)) else leadGo (i + 1) (acc + c % 128 * 128 ^ i) (l.drop (i + 1)):=by
  have hl:=(List.getElem?_eq_some_iff.1 hc).1
  have e : l[i] = c:=(List.getElem?_eq_some_iff.1 hc).2
  rw [List.drop_eq_getElem_cons hl,e,leadGo,if_neg (by omega)]
theorem leadGo_end {l : List Nat} {i acc : Nat} (h : l.length ≤ i ∨ 5 ≤ i) : leadGo i acc (l.drop i) = none:=by
  cases hd : l.drop i with
  | nil=>rfl
  | cons c r =>
    rcases h with h | h
    · rw [List.drop_eq_nil_of_le h] at hd;cases hd
    · rw [leadGo,if_pos h]
theorem join_0 (y : Int) (h0 : 0 ≤ y) (h1 : y < 128) : bits .or .i64 0 y = y:=or_i64_0 y h0 (by omega)
theorem join_7 (lo hi : Int) (h0 : 0 ≤ lo) (h1 : lo < 128) (h2 : 0 ≤ hi) (h3 : hi < 128) : bits .or .i64 lo (hi * 128) = lo + hi * 128 :=
  bits_join_low .i64 63 (by decide) wraps_i64 7 lo (hi * 128) (by omega) (by omega) (by omega) (by omega) (by omega) (by omega)
theorem join_14 (lo hi : Int) (h0 : 0 ≤ lo) (h1 : lo < 16384) (h2 : 0 ≤ hi) (h3 : hi < 128) : bits .or .i64 lo (hi * 16384) = lo + hi * 16384 :=
  bits_join_low .i64 63 (by decide) wraps_i64 14 lo (hi * 16384) (by omega) (by omega) (by omega) (by omega) (by omega) (by omega)
theorem join_21 (lo hi : Int) (h0 : 0 ≤ lo) (h1 : lo < 2097152) (h2 : 0 ≤ hi) (h3 : hi < 128) : bits .or .i64 lo (hi * 2097152) = lo + hi * 2097152 :=
  bits_join_low .i64 63 (by decide) wraps_i64 21 lo (hi * 2097152) (by omega) (by omega) (by omega) (by omega) (by omega) (by omega)
theorem join_28 (lo hi : Int) (h0 : 0 ≤ lo) (h1 : lo < 268435456) (h2 : 0 ≤ hi) (h3 : hi < 128) : bits .or .i64 lo (hi * 268435456) = lo + hi * 268435456 :=
  bits_join_low .i64 63 (by decide) wraps_i64 28 lo (hi * 268435456) (by omega) (by omega) (by omega) (by omega) (by omega) (by omega)
theorem joinK {k A c : Nat} (hk : k < 5) (hA : A < 128 ^ k) : bits .or .i64 (A : Int) (wrap64 ((c : Int) % 128 * 2 ^ (7 * k))) = ((A + c % 128 * 128 ^ k : Nat) : Int):=by
  have hw : ∀ z : Int,0 ≤ z → z < 9223372036854775808 → wrap64 z = z:=fun z h0 h1=>by unfold wrap64;omega
  match k,hk with
  | 0,_ =>
    have : A = 0:=by simpa using hA
    subst this
    rw [show ((c : Int) % 128 * 2 ^ (7 * 0)) = (c : Int) % 128 by omega,hw _ (by omega) (by omega)]
    have:=join_0 ((c : Int) % 128) (by omega) (by omega)
    rw [show ((0 : Nat) : Int) = 0 by rfl,this]
    omega
  | 1,_ =>
    rw [show ((c : Int) % 128 * 2 ^ (7 * 1)) = (c : Int) % 128 * 128 by omega,hw _ (by omega) (by omega),join_7 _ _ (by omega) (by omega) (by omega) (by omega)]
    omega
  | 2,_ =>
    rw [show ((c : Int) % 128 * 2 ^ (7 * 2)) = (c : Int) % 128 * 16384 by omega,hw _ (by omega) (by omega),join_14 _ _ (by omega) (by omega) (by omega) (by omega)]
    omega
  | 3,_ =>
    rw [show ((c : Int) % 128 * 2 ^ (7 * 3)) = (c : Int) % 128 * 2097152 by omega,hw _ (by omega) (by omega),join_21 _ _ (by omega) (by omega) (by omega) (by omega)]
    omega
  | 4,_ =>
    rw [show ((c : Int) % 128 * 2 ^ (7 * 4)) = (c : Int) % 128 * 268435456 by omega,hw _ (by omega) (by omega),join_28 _ _ (by omega) (by omega) (by omega) (by omega)]
    omega
theorem joinK_lt {k A c : Nat} (hk : k < 5) (hA : A < 128 ^ k) : A + c % 128 * 128 ^ k < 128 ^ (k + 1):=by
  match k,hk with
  | 0,_=>omega
  | 1,_=>omega
  | 2,_=>omega
  | 3,_=>omega
  | 4,_=>omega
set_option maxRecDepth 100000 in
set_option maxHeartbeats 2000000 in
theorem lead_c {w : World} {a : Option Addr} {c2 : Nat} (l : List Nat) (hb : BytesAt w a l.length (fun j=>((l.getD j 0 : Nat) : Int))) (hl : ∀ x ∈ l,x < 256) (hn : l.length ≤ 140737488351232) (hc : l.length ≤ c2) :
    Calls Tryz.prog 238 #[.slice a l.length c2] w (LdR (leadF l) w):=by
  obtain ⟨R,hR0⟩ : ∃ R,R = leadF l:=⟨_,rfl⟩
  rw [← hR0]
  have hR:=Lib.hid (show leadGo 0 0 (l.drop 0) = R by rw [hR0];rfl)
  clear hR0
  by_cases h5 : l.length ≤ 5
  · have h5' : (l.length : Int) ≤ 5:=by omega
    go_enter Tryz.func238,Tryz.ntmps238
    go_wp2_with fail
    go_loopw [13,2] (fun i acc wr=>∃ (k A : Nat),k ≤ l.length ∧ k ≤ 5 ∧ i = .int .i64 k ∧ acc = .int .i64 A ∧ A < 128 ^ k ∧ wr = w ∧ leadGo k A (l.drop k) = R) (fun i _ _=>l.length - (intOf i).toNat)
    case atStart=>exact ⟨0,0,by omega,by omega,rfl,rfl,by decide,rfl,hR.out⟩
    case round =>
      obtain ⟨k,A,hk,hk5,rfl,rfl,hA,rfl,hRk⟩:=hrel
      have hRk:=Lib.hid hRk
      by_cases hlt : k < l.length
      · have hkl : k < l.length:=by omega
        obtain ⟨b,o,rfl,hcell⟩ : ∃ b o,a = some ⟨b,o,none⟩ ∧ ∀ j,j < l.length → wr.cell? ⟨b,o + j,none⟩ = some (.int .u8 ((l.getD j 0 : Nat) : Int)):=by
          rcases hb with ⟨_,h0⟩ | h
          · omega
          · exact h
        obtain ⟨c,hcx⟩ : ∃ c,l[k]? = some c:=⟨l[k],by simp [hkl]⟩
        have h0 : wr.cell? ⟨b,o + k,none⟩ = some (.int .u8 (c : Int)):=by
          have:=hcell k hkl
          rwa [show l.getD k 0 = c by simp [List.getD,hcx]] at this
        have hc256:=hl c (List.mem_of_getElem? hcx)
        have hdr:=leadGo_drop (acc:=A) (by omega) hcx
        have hj:=joinK (c:=c) (k:=k) (by omega) hA
        have hNl:=joinK_lt (c:=c) (k:=k) (by omega) hA
        obtain ⟨N,hN⟩ : ∃ N : Nat,N = A + c % 128 * 128 ^ k:=⟨_,rfl⟩
        rw [← hN] at hj hNl hdr
        rw [hRk.out] at hdr
        have hlt2 : (k : Int) < (l.length : Int):=by omega
        have hlt3 : (k : Int) < (l.length : Int):=by omega
        have hNl:=Lib.hid hNl
        have hz0:=Lib.hid (show k = 0 → c < 128 → A = 0 ∧ N = c from fun h h'=>by subst h;rw [hN];omega)
        clear hN hA hcell hcx hb hl
        by_cases hc1 : c < 128
        · rw [if_pos hc1] at hdr
          by_cases hc0 : c = 0 ∧ 0 < k
          · rw [if_pos (.inl hc0)] at hdr
            have hRn:=Lib.hid hdr
            clear hdr
            obtain ⟨rfl,hk0⟩:=hc0
            have hkd : decide (0 < k) = true:=decide_eq_true hk0
            have hkd2 : decide ((0 : Int) < (k : Int)) = true:=decide_eq_true (by omega)
            go_wp2
            go_ret2
            exact ⟨by rw [hRn.out];rfl,0,rfl⟩
          · have hcb : ((c : Int) == 0) = false ∨ k = 0:=by
              by_cases h : c = 0
              · exact .inr (by omega)
              · exact .inl (beq_eq_false_iff_ne.2 (by omega))
            by_cases hbig : 4294967295 < N
            · rw [if_pos (.inr hbig)] at hdr
              have hRn:=Lib.hid hdr
              clear hdr hc0
              have hbd : decide ((4294967295 : Int) < (N : Int)) = true:=decide_eq_true (by omega)
              rcases hcb with hcb | rfl
              · go_wp2
                all_goals go_ret2
                all_goals exact ⟨by rw [hRn.out];rfl,0,rfl⟩
              · exfalso
                obtain ⟨_,h2⟩:=hz0.out rfl hc1
                omega
            · rw [if_neg (fun h=>h.elim hc0 hbig)] at hdr
              have hRn:=Lib.hid hdr
              clear hdr hc0
              have hbd : decide ((4294967295 : Int) < (N : Int)) = false:=decide_eq_false (by omega)
              rcases hcb with hcb | rfl
              · go_wp2
                all_goals go_ret2
                all_goals exact ⟨by rw [hRn.out];rfl,0,rfl⟩
              · obtain ⟨rfl,rfl⟩:=hz0.out rfl hc1
                have h0' : wr.cell? ⟨b,o,none⟩ = some (.int .u8 (N : Int)):=h0
                have hl0 : (0 : Int) < (l.length : Int):=by omega
                by_cases hcz : N = 0
                · subst hcz
                  have h0' : wr.cell? ⟨b,o,none⟩ = some (.int .u8 0):=h0'
                  have e1 : bits .or .i64 0 0 = 0:=by decide +kernel
                  have e2 : bits .or .i64 0 (wrap64 0) = 0:=by decide +kernel
                  go_wp2
                  all_goals go_ret2
                  all_goals exact ⟨by rw [hRn.out];rfl,0,rfl⟩
                · have hcb : ((N : Int) == 0) = false:=beq_eq_false_iff_ne.2 (by omega)
                  have e1:=join_0 (N : Int) (by omega) (by omega)
                  have e2 : (N : Int) % 128 = (N : Int):=by omega
                  have e3 : wrap64 (N : Int) = (N : Int):=by unfold wrap64;omega
                  have e4 : wrap64 ((N : Int) % 128) = (N : Int):=by rw [e2];exact e3
                  have e5 : (N : Int) % 256 = (N : Int):=by omega
                  go_wp2
                  all_goals go_ret2
                  all_goals exact ⟨by rw [hRn.out];rfl,0,rfl⟩
        · rw [if_neg hc1] at hdr
          have hRn:=Lib.hid hdr
          clear hdr
          go_wp2
          go_roundw
          case rel=>exact ⟨k + 1,N,by omega,by omega,by go_num,rfl,hNl.out,by trivial,hRn.out.symm⟩
          case measure=>simp [intOf];omega
      · have hk6 : k = l.length:=by omega
        have hend:=leadGo_end (l:=l) (i:=k) (acc:=A) (by omega)
        have hRn:=Lib.hid (show R = none from hRk.out.symm.trans hend)
        go_wp2
        go_ret2
        exact ⟨by rw [hRn.out];rfl,0,rfl⟩
  · have h5' : ¬ (l.length : Int) ≤ 5:=by omega
    have h6 : (5 : Int) < (l.length : Int):=by omega
    go_enter Tryz.func238,Tryz.ntmps238
    go_wp2_with fail
    go_loopw [13,2] (fun i acc wr=>∃ (k A : Nat),k ≤ 5 ∧ k ≤ 5 ∧ i = .int .i64 k ∧ acc = .int .i64 A ∧ A < 128 ^ k ∧ wr = w ∧ leadGo k A (l.drop k) = R) (fun i _ _=>5 - (intOf i).toNat)
    case atStart=>exact ⟨0,0,by omega,by omega,rfl,rfl,by decide,rfl,hR.out⟩
    case round =>
      obtain ⟨k,A,hk,hk5,rfl,rfl,hA,rfl,hRk⟩:=hrel
      have hRk:=Lib.hid hRk
      by_cases hlt : k < 5
      · have hkl : k < l.length:=by omega
        obtain ⟨b,o,rfl,hcell⟩ : ∃ b o,a = some ⟨b,o,none⟩ ∧ ∀ j,j < l.length → wr.cell? ⟨b,o + j,none⟩ = some (.int .u8 ((l.getD j 0 : Nat) : Int)):=by
          rcases hb with ⟨_,h0⟩ | h
          · omega
          · exact h
        obtain ⟨c,hcx⟩ : ∃ c,l[k]? = some c:=⟨l[k],by simp [hkl]⟩
        have h0 : wr.cell? ⟨b,o + k,none⟩ = some (.int .u8 (c : Int)):=by
          have:=hcell k hkl
          rwa [show l.getD k 0 = c by simp [List.getD,hcx]] at this
        have hc256:=hl c (List.mem_of_getElem? hcx)
        have hdr:=leadGo_drop (acc:=A) (by omega) hcx
        have hj:=joinK (c:=c) (k:=k) (by omega) hA
        have hNl:=joinK_lt (c:=c) (k:=k) (by omega) hA
        obtain ⟨N,hN⟩ : ∃ N : Nat,N = A + c % 128 * 128 ^ k:=⟨_,rfl⟩
        rw [← hN] at hj hNl hdr
        rw [hRk.out] at hdr
        have hlt2 : (k : Int) < 5:=by omega
        have hlt3 : (k : Int) < (l.length : Int):=by omega
        have hNl:=Lib.hid hNl
        have hz0:=Lib.hid (show k = 0 → c < 128 → A = 0 ∧ N = c from fun h h'=>by subst h;rw [hN];omega)
        clear hN hA hcell hcx hb hl
        by_cases hc1 : c < 128
        · rw [if_pos hc1] at hdr
          by_cases hc0 : c = 0 ∧ 0 < k
          · rw [if_pos (.inl hc0)] at hdr
            have hRn:=Lib.hid hdr
            clear hdr
            obtain ⟨rfl,hk0⟩:=hc0
            have hkd : decide (0 < k) = true:=decide_eq_true hk0
            have hkd2 : decide ((0 : Int) < (k : Int)) = true:=decide_eq_true (by omega)
            go_wp2
            go_ret2
            exact ⟨by rw [hRn.out];rfl,0,rfl⟩
          · have hcb : ((c : Int) == 0) = false ∨ k = 0:=by
              by_cases h : c = 0
              · exact .inr (by omega)
              · exact .inl (beq_eq_false_iff_ne.2 (by omega))
            by_cases hbig : 4294967295 < N
            · rw [if_pos (.inr hbig)] at hdr
              have hRn:=Lib.hid hdr
              clear hdr hc0
              have hbd : decide ((4294967295 : Int) < (N : Int)) = true:=decide_eq_true (by omega)
              rcases hcb with hcb | rfl
              · go_wp2
                all_goals go_ret2
                all_goals exact ⟨by rw [hRn.out];rfl,0,rfl⟩
              · exfalso
                obtain ⟨_,h2⟩:=hz0.out rfl hc1
                omega
            · rw [if_neg (fun h=>h.elim hc0 hbig)] at hdr
              have hRn:=Lib.hid hdr
              clear hdr hc0
              have hbd : decide ((4294967295 : Int) < (N : Int)) = false:=decide_eq_false (by omega)
              rcases hcb with hcb | rfl
              · go_wp2
                all_goals go_ret2
                all_goals exact ⟨by rw [hRn.out];rfl,0,rfl⟩
              · obtain ⟨rfl,rfl⟩:=hz0.out rfl hc1
                have h0' : wr.cell? ⟨b,o,none⟩ = some (.int .u8 (N : Int)):=h0
                have hl0 : (0 : Int) < (l.length : Int):=by omega
                by_cases hcz : N = 0
                · subst hcz
                  have h0' : wr.cell? ⟨b,o,none⟩ = some (.int .u8 0):=h0'
                  have e1 : bits .or .i64 0 0 = 0:=by decide +kernel
                  have e2 : bits .or .i64 0 (wrap64 0) = 0:=by decide +kernel
                  go_wp2
                  all_goals go_ret2
                  all_goals exact ⟨by rw [hRn.out];rfl,0,rfl⟩
                · have hcb : ((N : Int) == 0) = false:=beq_eq_false_iff_ne.2 (by omega)
                  have e1:=join_0 (N : Int) (by omega) (by omega)
                  have e2 : (N : Int) % 128 = (N : Int):=by omega
                  have e3 : wrap64 (N : Int) = (N : Int):=by unfold wrap64;omega
                  have e4 : wrap64 ((N : Int) % 128) = (N : Int):=by rw [e2];exact e3
                  have e5 : (N : Int) % 256 = (N : Int):=by omega
                  go_wp2
                  all_goals go_ret2
                  all_goals exact ⟨by rw [hRn.out];rfl,0,rfl⟩
        · rw [if_neg hc1] at hdr
          have hRn:=Lib.hid hdr
          clear hdr
          go_wp2
          go_roundw
          case rel=>exact ⟨k + 1,N,by omega,by omega,by go_num,rfl,hNl.out,by trivial,hRn.out.symm⟩
          case measure=>simp [intOf];omega
      · have hk6 : k = 5:=by omega
        have hend:=leadGo_end (l:=l) (i:=k) (acc:=A) (by omega)
        have hRn:=Lib.hid (show R = none from hRk.out.symm.trans hend)
        go_wp2
        go_ret2
        exact ⟨by rw [hRn.out];rfl,0,rfl⟩
end Go.Ev

