import Derived.Test.YtepopmplcjhfbaaGreatObG17
import Derived.Lib.SmallJoins
import Derived.Laws.Rows
set_option linter.unusedSectionVars false
set_option linter.unusedVariables false
set_option linter.unusedSimpArgs false
set_option linter.unnecessarySimpa false
namespace Go.Ev
open Go.RowKit Go.Proofs Go.Rw
theorem zig_in5 {d : Int} (h0 : -1048576 ≤ d) (h1 : d ≤ 1048576) : zig d ≤ 4194304:=by
  unfold zig
  split <;> omega
theorem numL_le5 {n : Nat} (h : n ≤ 4294967295) : (numL n).length ≤ 5:=numL_len 4 n (by omega)
theorem entryL_len5 (a b : LineT) (h1 : RngOk a) (h2 : RngOk b) : (entryL a b).length ≤ 25:=by
  obtain ⟨h1a,h1b,h1c,h1d⟩:=h1
  obtain ⟨h2a,h2b,h2c,h2d⟩:=h2
  have l1 : (secP a b).length ≤ 6:=by
    unfold secP
    split
    · simp
    · have:=numL_le5 (n:=(b.sec - a.sec).toNat) (by omega)
      simp;omega
  have l2 : (fileP a b).length ≤ 6:=by
    unfold fileP
    split
    · simp
    · have:=numL_le5 (n:=b.file.toNat) (by omega)
      simp;omega
  have hd : -65535 ≤ offD a b ∧ offD a b ≤ 65535:=by unfold offD;split <;> omega
  have l3 : (offP (offD a b)).length ≤ 6:=by
    unfold offP
    split
    · simp
    · have:=numL_le5 (n:=(offB (offD a b)).toNat) (by unfold offB;split <;> omega)
      simp;omega
  have l4 : (lineP (b.line - a.line)).length ≤ 6:=by
    unfold lineP
    split
    · simp
    · have hb:=lineB_in (d:=b.line - a.line) (by omega) (by omega)
      have:=numL_le5 (n:=zig (lineB (b.line - a.line))) (by have:=zig_in5 hb.1 hb.2.1;omega)
      simp;omega
  unfold entryL
  simp only [List.length_append,List.length_singleton]
  omega
theorem packL_len5 : ∀ (now : LineT) (l : List LineT),RngOk now → (∀ x ∈ l,RngOk x) → (packL now l).length ≤ 25 * l.length
  | _,[],_,_=>by simp [packL]
  | now,x :: l,h0,h=>by
    have h1:=entryL_len5 now x h0 (h x (List.mem_cons_self ..))
    have h2:=packL_len5 x l (h x (List.mem_cons_self ..)) (fun y hy=>h y (List.mem_cons_of_mem _ hy))
    rw [packL,List.length_append,List.length_cons]
    omega
theorem crcL_congr {q q' : Nat → Int} : ∀ k,(∀ j,j < k → q j = q' j) → crcL q k = crcL q' k
  | 0,_=>rfl
  | k + 1,h=>by
    unfold crcL
    rw [crcL_congr k (fun j hj=>h j (by omega)),h k (by omega)]
def secMof (C : SecT → ByteArray) (x : SecT) : SecM:=⟨x.name,x.rights.toNat,x.align.toNat,toN (strI (C x)),x.zero.toNat⟩
def rawOf (o : ObjT) (C : SecT → ByteArray) : RawM:=⟨o.secs.map (secMof C),o.syms,o.rels,o.files,toN (packL default o.lines)⟩
theorem toN_flat {α : Type} (f : α → List Int) : ∀ l : List α,toN (l.flatMap f) = l.flatMap fun x=>toN (f x)
  | []=>rfl
  | x :: l=>by rw [List.flatMap_cons,List.flatMap_cons,toN_append,toN_flat f l]
theorem toN_listL {α : Type} (f : α → List Int) (l : List α) : toN (listL f l) = lstL (fun x=>toN (f x)) l:=by
  unfold listL lstL
  rw [toN_append,toN_flat]
theorem flatMap_congr2 {α β : Type} {f g : α → List β} : ∀ {l : List α},(∀ x ∈ l,f x = g x) → l.flatMap f = l.flatMap g
  | [],_=>rfl
  | x :: l,h=>by rw [List.flatMap_cons,List.flatMap_cons,h x (by simp),flatMap_congr2 (fun y hy=>h y (by simp [hy]))]
theorem toN_secL2 {C : SecT → ByteArray} {x : SecT} (hb : (C x).size = x.bn) : toN (secL2 C x) = secML (secMof C x):=by
  unfold secL2 secL secML secMof cntL
  simp only [toN_append]
  rw [toN_len,strI_len,hb]
theorem rawL_of {o : ObjT} {C : SecT → ByteArray} (hb : ∀ x ∈ o.secs,(C x).size = x.bn) : rawL (rawOf o C) = toN (bodyL o C):=by
  unfold rawL rawOf bodyL
  simp only [toN_append,toN_listL]
  have e1 : lstL secML (o.secs.map (secMof C)) = lstL (fun x=>toN (secL2 C x)) o.secs:=by
    unfold lstL
    rw [List.length_map,List.flatMap_map]
    congr 1
    exact flatMap_congr2 (fun x hx=>(toN_secL2 (hb x hx)).symm)
  rw [e1]
  unfold cntL magicL
  rw [toN_len]
  simp only [List.append_assoc]
  rfl
theorem toN_get {l : List Int} (h : ∀ z ∈ l,0 ≤ z ∧ z < 256) (j : Nat) : (((toN l).getD j 0 : Nat) : Int) = l.getD j 0:=by
  by_cases hj : j < l.length
  · have:=h l[j] (List.getElem_mem hj)
    have e1 : (toN l).getD j 0 = (l[j]).toNat:=by simp [toN,List.getD,hj]
    have e2 : l.getD j 0 = l[j]:=by simp [List.getD,hj]
    rw [e1,e2]
    omega
  · have e1 : (toN l).getD j 0 = 0:=by simp [toN,List.getD,hj]
    have e2 : l.getD j 0 = 0:=by simp [List.getD,hj]
    rw [e1,e2]
    rfl
theorem sumN_body {L M : List Int} (hL : ∀ z ∈ L,0 ≤ z ∧ z < 256) : sumN (toN (L ++ M)) L.length = sumL L:=by
  unfold sumN sumL sumV
  rw [crcL_congr L.length (fun j hj=>?_)]
  rw [← toN_get hL j,toN_append]
  congr 1
  simp [List.getD,List.getElem?_append_left (show j < (toN L).length by rw [toN_len];exact hj)]
theorem wrdF_word {all : List Nat} {p : Nat} {z : Int} (h0 : 0 ≤ z) (h1 : z ≤ 4294967295) (h : Beg all p (toN (wordL z)) (p + 4)) : wrdF all p = .ok (z.toNat,p + 4):=by
  unfold wrdF
  rw [tkF_fwd (k:=4) h rfl]
  show Except.ok (((z % 256).toNat + 256 * (z / 256 % 256).toNat + 65536 * (z / 65536 % 256).toNat + 16777216 * (z / 16777216).toNat,p + 4) : Nat × Nat) = _
  have e : (z % 256).toNat + 256 * (z / 256 % 256).toNat + 65536 * (z / 65536 % 256).toNat + 16777216 * (z / 16777216).toNat = z.toNat:=by omega
  rw [e]
theorem wrdF_back {all : List Nat} {p : Nat} {y : Nat × Nat} (hb : ∀ x ∈ all,x < 256) (hp : p ≤ all.length) (h : wrdF all p = .ok y) : Beg all p (toN (wordL (y.1 : Int))) y.2 ∧ y.2 = p + 4:=by
  obtain ⟨z,h1,h2⟩:=bind_ok h
  cases h2
  obtain ⟨h3,h4⟩:=tkF_back hp h1
  have hz : ∀ x ∈ z.1,x < 256:=fun x hx=>hb x (h3.mem x hx)
  obtain ⟨l,q⟩:=z
  dsimp only at h3 h4 hz ⊢
  match l,h4 with
  | [x0,x1,x2,x3],_ =>
    have g0:=hz x0 (by simp)
    have g1:=hz x1 (by simp)
    have g2:=hz x2 (by simp)
    have g3:=hz x3 (by simp)
    have e : toN (wordL (((([x0,x1,x2,x3] : List Nat).getD 0 0 + 256 * ([x0,x1,x2,x3] : List Nat).getD 1 0 + 65536 * ([x0,x1,x2,x3] : List Nat).getD 2 0 + 16777216 * ([x0,x1,x2,x3] : List Nat).getD 3 0 : Nat)) : Int)) = [x0,x1,x2,x3]:=by
      simp only [List.getD,List.getElem?_cons_zero,List.getElem?_cons_succ,Option.getD_some]
      unfold wordL toN
      simp only [List.map_cons,List.map_nil,List.cons.injEq,and_true]
      refine ⟨?_,?_,?_,?_⟩ <;> omega
    rw [e]
    exact ⟨h3,h3.1⟩
end Go.Ev

namespace Go.Ev
open Go.RowKit Go.Proofs Go.Rw
theorem bind_ok2 {α β : Type} {m : Except (Nat × Int) α} {f : α → Except (Nat × Int) β} {z : β} (h : m.bind f = .ok z) : ∃ y,m = .ok y ∧ f y = .ok z:=by
  cases m with
  | error x=>cases h
  | ok y=>exact ⟨y,rfl,h⟩
theorem symRd_of {o : ObjT} (h : ObjOk o) (hR : o.R) : ∀ x ∈ o.syms,SymRd x:=fun x hx=>by
  obtain ⟨⟨s0,s1⟩,⟨v0,v1⟩,⟨z0,z1⟩,⟨b0,b1⟩,k0,k1⟩:=(sym_small h hR x hx).1
  have hn:=(h.2.1.2.1 x hx).1.2.1
  refine ⟨hn,?_,⟨v0,v1⟩,⟨z0,z1⟩,⟨b0,by omega⟩,k0,by omega⟩
  unfold zig
  split <;> omega
theorem relRd_of {o : ObjT} (h : ObjOk o) : ∀ x ∈ o.rels,RelRd x:=fun x hx=>by
  obtain ⟨⟨s0,s1⟩,⟨v0,v1⟩,⟨z0,z1⟩,⟨b0,b1⟩,k0,k1⟩:=rel_small h x hx
  refine ⟨⟨s0,by omega⟩,⟨v0,by omega⟩,⟨z0,by omega⟩,⟨b0,by omega⟩,?_⟩
  unfold zig
  split <;> omega
theorem secMR_of {o : ObjT} {C : SecT → ByteArray} (h : ObjOk o) (hb : ∀ x ∈ o.secs,(C x).size = x.bn) : ∀ x ∈ o.secs.map (secMof C),SecMR x:=fun m hm=>by
  obtain ⟨x,hx,rfl⟩:=List.mem_map.1 hm
  obtain ⟨⟨h1,⟨r0,r1⟩,⟨a0,a1⟩, -,z0,z1⟩,h2,-⟩:=sec_small h x hx
  refine ⟨h1.2.1,?_,?_,?_,?_⟩
  · show x.rights.toNat ≤ _;omega
  · show x.align.toNat ≤ _;omega
  · show (toN (strI (C x))).length ≤ _;rw [toN_len,strI_len,hb x hx];exact h2
  · show x.zero.toNat ≤ _;omega
theorem objF_fwd {o : ObjT} {C : SecT → ByteArray} (hok : ObjOk o) (hR : o.R) (hb : ∀ x ∈ o.secs,(C x).size = x.bn) : objF (toN (fileL o C)) = .ok (rawOf o C,o.lines):=by
  have hT : TabOk o.lines:=hok.2.2.2.2.1
  have hbi : ∀ z ∈ bodyL o C,0 ≤ z ∧ z < 256:=fun z hz=>by have:=bodyL_in hok z hz;unfold InB at this;omega
  obtain ⟨all,hall⟩ : ∃ all,all = toN (fileL o C):=⟨_,rfl⟩
  rw [← hall]
  have hs:=sumL_in (bodyL o C)
  have hlen : all.length = (bodyL o C).length + 4:=by
    rw [hall]
    unfold fileL
    rw [toN_len,List.length_append]
    rfl
  have hsplit : all = toN (bodyL o C) ++ toN (wordL (sumL (bodyL o C))):=by rw [hall];unfold fileL;rw [toN_append]
  have hbl : (toN (bodyL o C)).length = (bodyL o C).length:=toN_len _
  have hd : all.drop (bodyL o C).length = toN (wordL (sumL (bodyL o C))):=by rw [hsplit,← hbl,List.drop_left]
  have b0 : Beg all 0 (rawL (rawOf o C)) (bodyL o C).length:=by
    rw [rawL_of hb]
    exact ⟨by rw [hbl];omega,by omega,by rw [List.drop_zero,hd];exact hsplit⟩
  have b9 : Beg all (bodyL o C).length (toN (wordL (sumL (bodyL o C)))) ((bodyL o C).length + 4):=by
    refine ⟨rfl,by omega,?_⟩
    rw [hd,List.drop_eq_nil_of_le (by omega),List.append_nil]
  unfold rawL at b0
  obtain ⟨q0,b0⟩:=b0.split
  have hmg : all.take 4 = magicL:=by
    have:=q0.2.2
    rw [List.drop_zero] at this
    rw [this]
    rfl
  obtain ⟨q1,b0⟩:=b0.split
  obtain ⟨q2,b0⟩:=b0.split
  obtain ⟨q3,b0⟩:=b0.split
  obtain ⟨q4,q5⟩:=b0.split
  have f1:=lst_fwd (f:=secF all) (most:=16) q1 (by show (o.secs.map _).length ≤ 16;rw [List.length_map];exact hok.1.1) (by omega) (fun x hx p q hp=>by
    obtain ⟨r1,r2,r3,r4,r5⟩:=secMR_of hok hb x hx
    exact secF_fwd hp r1 r2 r3 r4 r5)
  have f2:=lst_fwd (f:=symF all) (most:=500) q2 hok.2.1.1 (by omega) (fun x hx p q hp=>symF_fwd hp (symRd_of hok hR x hx))
  have f3:=lst_fwd (f:=relF all) (most:=2000) q3 hok.2.2.1.1 (by omega) (fun x hx p q hp=>relF_fwd hp (relRd_of hok x hx))
  have f4:=lst_fwd (f:=filF all) (most:=20) q4 hok.2.2.2.1.1 (by omega) (fun x hx p q hp=>txtF_fwd hp (hok.2.2.2.1.2.1 x hx).2.1 (by have:=(hok.2.2.2.1.2.1 x hx).2.1;omega))
  have hpl : (rawOf o C).prog.length ≤ 100000:=by
    show (toN (packL default o.lines)).length ≤ _
    rw [toN_len]
    have:=packL_len5 default o.lines rng_default (fun y hy=>(hT.2.1 y hy).1)
    have:=hT.1
    omega
  have f5:=cntF_fwd (most:=100000) q5 (by omega) hpl
  have f6:=wrdF_word hs.1 hs.2 b9
  have hsum : sumN all (bodyL o C).length = sumL (bodyL o C):=by rw [hall];exact sumN_body hbi
  have hsh : shortF (rawOf o C).prog = some o.lines:=by
    show shortF (toN (packL default o.lines)) = some o.lines
    rw [shortF_some (unpack_pack hT)]
    exact if_pos rfl
  have hobj : ObjOk ((rawOf o C).obj o.lines):=by
    refine (objOk_bare (a:=o) (b:=(rawOf o C).obj o.lines) ?_ rfl rfl rfl rfl).1 hok
    show o.secs.map SecT.bare = ((o.secs.map (secMof C)).map SecM.toT).map SecT.bare
    rw [List.map_map,List.map_map]
    apply List.map_congr_left
    intro x hx
    obtain ⟨⟨h1,⟨r0,r1⟩,⟨a0,a1⟩, -,z0,z1⟩,h2,-⟩:=sec_small hok x hx
    show SecT.bare x = SecT.bare (SecM.toT (secMof C x))
    unfold SecT.bare SecM.toT secMof
    dsimp only
    rw [toN_len,strI_len,hb x hx]
    congr 1 <;> omega
  unfold objF
  rw [if_pos hmg]
  have m0 : magicL.length = 4:=rfl
  rw [Nat.zero_add,m0] at f1
  rw [Nat.zero_add,m0] at f2 f3 f4 f5
  rw [f1]
  show (lstF (symF all) all _ 500).bind _ = _
  rw [f2]
  show (lstF (relF all) all _ 2000).bind _ = _
  rw [f3]
  show (lstF (filF all) all _ 20).bind _ = _
  rw [f4]
  show (cntF all _ 100000).bind _ = _
  rw [f5]
  show endF all (rawOf o C) _ = _
  unfold endF
  rw [f6]
  show endG all (rawOf o C) _ _ = _
  unfold endG
  dsimp only
  rw [if_pos hlen.symm,hsum,if_pos (by omega),tabG_some hsh,dec_yes hobj]
  rfl
theorem objF_back {all : List Nat} {m : RawM} {tab : List LineT} (hb : ∀ x ∈ all,x < 256) (h : objF all = .ok (m,tab)) : RawR m ∧ TabOk tab ∧ toN (packL default tab) = m.prog ∧ ObjOk (m.obj tab) ∧ all = rawL m ++ toN (wordL (sumN all (rawL m).length)):=by
  unfold objF at h
  by_cases hmg : all.take 4 = magicL
  · rw [if_pos hmg] at h
    obtain ⟨a,h1,h⟩:=bind_ok2 h
    obtain ⟨b,h2,h⟩:=bind_ok2 h
    obtain ⟨c,h3,h⟩:=bind_ok2 h
    obtain ⟨d,h4,h⟩:=bind_ok2 h
    obtain ⟨e,h5,h⟩:=bind_ok2 h
    have hpb:=parts_back hb hmg h1 h2 h3 h4 h5
    generalize (⟨a.1,b.1,c.1,d.1,e.1⟩ : RawM) = raw at hpb h
    obtain ⟨s,h6,h⟩:=bind_ok2 h
    obtain ⟨w1,w2⟩:=wrdF_back hb hpb.1.2.1 h6
    unfold endG at h
    by_cases g1 : s.2 = all.length
    · rw [if_pos g1] at h
      by_cases g2 : (s.1 : Int) = sumN all e.2
      · rw [if_pos g2] at h
        cases hsh : shortF raw.prog with
        | none=>rw [tabG_none hsh] at h;cases h
        | some t =>
          rw [tabG_some hsh] at h
          by_cases g3 : dec (ObjOk (raw.obj t)) = true
          · rw [if_pos g3] at h
            cases h
            have hp : ∀ y ∈ m.prog,y < 256:=fun y hy=>hb y (hpb.1.mem y (by unfold rawL cntL;simp [hy]))
            obtain ⟨t1,t2⟩:=short_tab hp hsh
            refine ⟨hpb.2,t1,t2,dec_iff.1 g3,?_⟩
            have e1 : e.2 = (rawL m).length:=by have:=hpb.1.1;omega
            rw [← e1,← g2]
            have e2:=hpb.1.2.2
            have e3:=w1.2.2
            rw [List.drop_zero] at e2
            rw [g1,List.drop_eq_nil_of_le (Nat.le_refl _),List.append_nil] at e3
            rw [← e3]
            exact e2
          · rw [if_neg g3] at h;cases h
      · rw [if_neg g2] at h;cases h
    · rw [if_neg g1] at h;cases h
  · rw [if_neg hmg] at h;cases h
end Go.Ev

namespace Go.Ev
open Go.RowKit Go.Proofs Go.Rw
def ObjR (R : Nat) (m : Except (Nat × Int) (RawM × List LineT)) (w : World) (e : Ending) (w' : World) : Prop :=
  Stp R w w' ∧ match m with
    | .error x=>e = .panicked [fltV x.1 x.2]
    | .ok y=>∃ v ob,e = .returned v ∧ ObjAt w' v ob ∧ ob.R ∧ SecsRel w' ob.secs y.1.secs ∧ ob.syms = y.1.syms ∧ ob.rels = y.1.rels ∧ ob.files = y.1.files ∧ ob.lines = y.2
set_option maxRecDepth 100000 in
set_option maxHeartbeats 8000000 in
theorem object_c {w : World} {R b o n c : Nat} {all : List Nat} (h : RS w R b o n c all 0) (h4 : 4 ≤ n) : Calls Tryz.prog 93 #[.pointer (some ⟨R,0,none⟩)] w (ObjR R (objF all) w):=by
  have hz0 : (w.alloc (.cells #[.slice none 0 0,.slice none 0 0,.slice none 0 0,.slice none 0 0,.slice none 0 0] 28)).heap.size = w.heap.size + 1:=World.size_alloc _ _
  have hT0 : (w.alloc (.cells #[.slice none 0 0,.slice none 0 0,.slice none 0 0,.slice none 0 0,.slice none 0 0] 28)).heap[w.heap.size]? = some (.cells #[.slice none 0 0,.slice none 0 0,.slice none 0 0,.slice none 0 0,.slice none 0 0] 28 (0,0)):=heap_alloc_new w _
  have hr0 : RS (w.alloc (.cells #[.slice none 0 0,.slice none 0 0,.slice none 0 0,.slice none 0 0,.slice none 0 0] 28)) R b o n c all 0:=h.alloc _
  have hS0 : Stp R w (w.alloc (.cells #[.slice none 0 0,.slice none 0 0,.slice none 0 0,.slice none 0 0,.slice none 0 0] 28)):=(Stp.refl R w).alloc _
  have hconv:=Joins.run_convert_bytes_const_at (P:=Tryz.prog) (w.alloc (.cells #[.slice none 0 0,.slice none 0 0,.slice none 0 0,.slice none 0 0,.slice none 0 0] 28)) 34 5 #[.int .u8 67,.int .u8 78,.int .u8 68,.int .u8 79] 4 4 (w.heap.size + 1) hz0.symm Tryz.underlying34 Tryz.underlying5
  obtain ⟨c0,c1,f1⟩:=hr0.cells
  have hlow : w.heap.size ≠ R:=by have:=h.rlow;omega
  have hRl:=h.rlow
  have hbl:=h.low
  have hbR:=h.ne
  have h256:=h.at_.2.1
  have hnc:=h.nc
  have hall : all.length = n:=h.at_.1
  have hr1 : RS ((w.alloc (.cells #[.slice none 0 0,.slice none 0 0,.slice none 0 0,.slice none 0 0,.slice none 0 0] 28)).alloc (.cells #[.int .u8 67,.int .u8 78,.int .u8 68,.int .u8 79] 5 (4,5))) R b o n c all 0:=hr0.keep (one_below _ _)
  have hS1 : Stp R w ((w.alloc (.cells #[.slice none 0 0,.slice none 0 0,.slice none 0 0,.slice none 0 0,.slice none 0 0] 28)).alloc (.cells #[.int .u8 67,.int .u8 78,.int .u8 68,.int .u8 79] 5 (4,5))):=hS0.alloc _
  have hT1 : ((w.alloc (.cells #[.slice none 0 0,.slice none 0 0,.slice none 0 0,.slice none 0 0,.slice none 0 0] 28)).alloc (.cells #[.int .u8 67,.int .u8 78,.int .u8 68,.int .u8 79] 5 (4,5))).heap[w.heap.size]? = some (.cells #[.slice none 0 0,.slice none 0 0,.slice none 0 0,.slice none 0 0,.slice none 0 0] 28 (0,0)):=(heap_alloc_old _ _ (by rw [hz0];omega)).trans hT0
  have hMk : MarkAt ((w.alloc (.cells #[.slice none 0 0,.slice none 0 0,.slice none 0 0,.slice none 0 0,.slice none 0 0] 28)).alloc (.cells #[.int .u8 67,.int .u8 78,.int .u8 68,.int .u8 79] 5 (4,5))) (w.heap.size + 1):=fun j u hj=>by
    rw [Joins.cell_alloc_mark_at _ _ _ _ _ _ hz0.symm]
    simpa [byL] using hj
  have hpx:=prefix_yes hr1.at_ h4 hnc hMk
  obtain ⟨M,hM⟩ : ∃ M,M = objF all:=⟨_,rfl⟩
  rw [← hM]
  replace hM:=Lib.hid hM
  clear hr0 hS0 hT0 hMk h
  go_enter Tryz.func93,Tryz.ntmps93
  go_wp2_with fail
  obtain ⟨w1,hw1⟩ : ∃ W,W = (w.alloc (.cells #[.slice none 0 0,.slice none 0 0,.slice none 0 0,.slice none 0 0,.slice none 0 0] 28)).alloc (.cells #[.int .u8 67,.int .u8 78,.int .u8 68,.int .u8 79] 5 (4,5)):=⟨_,rfl⟩
  rw [← hw1] at hr1 hS1 hT1 hpx ⊢
  clear hconv hw1 c0 c1 f1 hz0
  refine hpx.mono ?_
  rintro e w2 ⟨rfl,rfl⟩
  clear hpx
  by_cases hmg : ¬ all.take 4 = magicL
  · rw [dec_no hmg]
    have hfin : M = .error (0,4):=by rw [hM.out];exact if_neg hmg
    go_wp2_with fail
    refine (must_no _ _).mono ?_
    rintro e w3 ⟨rfl,rfl⟩
    (try go_wp2)
    exact ⟨rfl,hS1,by first | (rw [hfin];rfl) | rw [hfin] | rfl⟩
  replace hmg:=Classical.not_not.1 hmg
  rw [dec_yes hmg]
  replace hM:=Lib.hid (show M = (lstF (secF all) all 4 16).bind fun a=>(lstF (symF all) all a.2 500).bind fun b=>(lstF (relF all) all b.2 2000).bind fun c=>(lstF (filF all) all c.2 20).bind fun d=>(cntF all d.2 100000).bind fun e=>endF all ⟨a.1,b.1,c.1,d.1,e.1⟩ e.2 by rw [hM.out];exact if_pos hmg)
  go_wp2_with fail
  refine (must_yes _ _).mono ?_
  rintro e w3 ⟨rfl,rfl⟩
  have htk:=RdR.yes (take_c (k:=4) hr1 (by omega)) (y:=(all.take 4,4)) (by unfold tkF;rw [if_pos (by omega),List.drop_zero])
  go_wp2_with fail
  refine htk.mono ?_
  rintro e w4 ⟨v4,rfl, -,hr4,hs4⟩
  have hS4:=hS1.trans hs4
  have hT4:=hs4.blk hlow hT1
  clear htk hr1 hS1 hT1 hs4
  (try dsimp only at hr4)
  go_wp2_with fail
  refine (lst_sec hr4).mono ?_
  rintro e w5 ⟨hs5,hv5⟩
  cases hm5 : lstF (secF all) all 4 16 with
  | error x =>
    have hfin : M = .error x:=by rw [hM.out];simp only [Except.bind,hm5]
    rw [hm5] at hv5
    subst hv5
    (try go_wp2)
    exact ⟨rfl,hS4.trans hs5,by first | rw [hfin] | rfl⟩
  | ok ya =>
  rw [hm5] at hv5
  obtain ⟨v5,rfl,hv5,hr5⟩:=hv5
  have hS5:=hS4.trans hs5
  have hT5:=hs5.blk hlow hT4
  have hR5:=hr4.rlow
  obtain ⟨xs,hown5,hrl5⟩:=hv5
  obtain ⟨va5,vc5,rfl⟩:=own_shape hown5
  clear hr4 hS4 hT4 hs5
  go_wp2_with fail
  refine (lst_sym hr5).mono ?_
  rintro e w6 ⟨hs6,hv6⟩
  cases hm6 : lstF (symF all) all ya.2 500 with
  | error x =>
    have hfin : M = .error x:=by rw [hM.out];simp only [Except.bind,hm5,hm6]
    rw [hm6] at hv6
    subst hv6
    (try go_wp2)
    exact ⟨rfl,hS5.trans hs6,by first | rw [hfin] | rfl⟩
  | ok yb =>
  rw [hm6] at hv6
  obtain ⟨v6,rfl,hv6,hr6⟩:=hv6
  have hS6:=hS5.trans hs6
  have hT6:=hs6.blk hlow hT5
  have hR6:=hr5.rlow
  replace hown5:=owns_stp hown5 hs6 hR5
  replace hrl5:=hrl5.imp (fun g' n' c' q' h'=>h'.stp hs6 (h'.neR hr5))
  have hown6:=hv6
  unfold RowV at hown6
  obtain ⟨va6,vc6,rfl⟩:=own_shape hown6
  clear hv6
  clear hr5 hS5 hT5 hs6
  go_wp2_with fail
  refine (lst_rel hr6).mono ?_
  rintro e w7 ⟨hs7,hv7⟩
  cases hm7 : lstF (relF all) all yb.2 2000 with
  | error x =>
    have hfin : M = .error x:=by rw [hM.out];simp only [Except.bind,hm5,hm6,hm7]
    rw [hm7] at hv7
    subst hv7
    (try go_wp2)
    exact ⟨rfl,hS6.trans hs7,by first | rw [hfin] | rfl⟩
  | ok yd =>
  rw [hm7] at hv7
  obtain ⟨v7,rfl,hv7,hr7⟩:=hv7
  have hS7:=hS6.trans hs7
  have hT7:=hs7.blk hlow hT6
  have hR7:=hr6.rlow
  replace hown5:=owns_stp hown5 hs7 hR5
  replace hrl5:=hrl5.imp (fun g' n' c' q' h'=>h'.stp hs7 (h'.neR hr6))
  replace hown6:=owns_stp hown6 hs7 hR6
  have hown7:=hv7
  unfold RowV at hown7
  obtain ⟨va7,vc7,rfl⟩:=own_shape hown7
  clear hv7
  clear hr6 hS6 hT6 hs7
  go_wp2_with fail
  refine (lst_fil hr7).mono ?_
  rintro e w8 ⟨hs8,hv8⟩
  cases hm8 : lstF (filF all) all yd.2 20 with
  | error x =>
    have hfin : M = .error x:=by rw [hM.out];simp only [Except.bind,hm5,hm6,hm7,hm8]
    rw [hm8] at hv8
    subst hv8
    (try go_wp2)
    exact ⟨rfl,hS7.trans hs8,by first | rw [hfin] | rfl⟩
  | ok yf =>
  rw [hm8] at hv8
  obtain ⟨v8,rfl,hv8,hr8⟩:=hv8
  have hS8:=hS7.trans hs8
  have hT8:=hs8.blk hlow hT7
  have hR8:=hr7.rlow
  replace hown5:=owns_stp hown5 hs8 hR5
  replace hrl5:=hrl5.imp (fun g' n' c' q' h'=>h'.stp hs8 (h'.neR hr7))
  replace hown6:=owns_stp hown6 hs8 hR6
  replace hown7:=owns_stp hown7 hs8 hR7
  have hown8:=hv8
  unfold RowV at hown8
  obtain ⟨va8,vc8,rfl⟩:=own_shape hown8
  clear hv8
  clear hr7 hS7 hT7 hs8
  go_wp2_with fail
  have hXR : w8.heap.size ≠ R:=by have:=hr8.rlow;omega
  have hXb : b < w8.heap.size:=hr8.low
  have hXT : w.heap.size < w8.heap.size:=(Array.getElem?_eq_some_iff.1 hT8).1
  have hr9:=hr8.alloc (.cells #[.slice va5 ya.1.length vc5,.slice va6 yb.1.length vc6,.slice va7 yd.1.length vc7,.slice va8 yf.1.length vc8,.slice none 0 0] 28)
  have hS9:=hS8.alloc (.cells #[.slice va5 ya.1.length vc5,.slice va6 yb.1.length vc6,.slice va7 yd.1.length vc7,.slice va8 yf.1.length vc8,.slice none 0 0] 28)
  have hT9:=(heap_alloc_old w8 (.cells #[.slice va5 ya.1.length vc5,.slice va6 yb.1.length vc6,.slice va7 yd.1.length vc7,.slice va8 yf.1.length vc8,.slice none 0 0] 28) hXT).trans hT8
  have hX9 : (w8.alloc (.cells #[.slice va5 ya.1.length vc5,.slice va6 yb.1.length vc6,.slice va7 yd.1.length vc7,.slice va8 yf.1.length vc8,.slice none 0 0] 28)).heap[w8.heap.size]? = some (.cells #[.slice va5 ya.1.length vc5,.slice va6 yb.1.length vc6,.slice va7 yd.1.length vc7,.slice va8 yf.1.length vc8,.slice none 0 0] 28 (0,0)):=heap_alloc_new w8 _
  replace hown5:=hown5.alloc (.cells #[.slice va5 ya.1.length vc5,.slice va6 yb.1.length vc6,.slice va7 yd.1.length vc7,.slice va8 yf.1.length vc8,.slice none 0 0] 28)
  replace hown6:=hown6.alloc (.cells #[.slice va5 ya.1.length vc5,.slice va6 yb.1.length vc6,.slice va7 yd.1.length vc7,.slice va8 yf.1.length vc8,.slice none 0 0] 28)
  replace hown7:=hown7.alloc (.cells #[.slice va5 ya.1.length vc5,.slice va6 yb.1.length vc6,.slice va7 yd.1.length vc7,.slice va8 yf.1.length vc8,.slice none 0 0] 28)
  replace hown8:=hown8.alloc (.cells #[.slice va5 ya.1.length vc5,.slice va6 yb.1.length vc6,.slice va7 yd.1.length vc7,.slice va8 yf.1.length vc8,.slice none 0 0] 28)
  replace hrl5:=hrl5.imp (w':=w8.alloc (.cells #[.slice va5 ya.1.length vc5,.slice va6 yb.1.length vc6,.slice va7 yd.1.length vc7,.slice va8 yf.1.length vc8,.slice none 0 0] 28)) (fun g' n' c' q' h'=>h'.below (one_below w8 _))
  clear hr8 hS8 hT8
  obtain ⟨w9,hw9⟩ : ∃ W,W = w8.alloc (.cells #[.slice va5 ya.1.length vc5,.slice va6 yb.1.length vc6,.slice va7 yd.1.length vc7,.slice va8 yf.1.length vc8,.slice none 0 0] 28):=⟨_,rfl⟩
  rw [← hw9] at hr9 hS9 hT9 hX9 hown5 hown6 hown7 hown8 hrl5
  rw [← hw9]
  clear hw9
  refine (counted2_c (most:=100000) hr9 (by omega)).mono ?_
  rintro e w10 ⟨hs10,hv10⟩
  cases hm10 : cntF all yf.2 100000 with
  | error x =>
    have hfin : M = .error x:=by rw [hM.out];simp only [Except.bind,hm5,hm6,hm7,hm8,hm10]
    rw [hm10] at hv10
    subst hv10
    (try go_wp2)
    exact ⟨rfl,hS9.trans hs10,by first | rw [hfin] | rfl⟩
  | ok ye =>
  rw [hm10] at hv10
  obtain ⟨v10,rfl,⟨o',rfl,hv10⟩,hr10⟩:=hv10
  replace hown5:=owns_stp hown5 hs10 hR5
  replace hown6:=owns_stp hown6 hs10 hR6
  replace hown7:=owns_stp hown7 hs10 hR7
  replace hown8:=owns_stp hown8 hs10 hR8
  replace hrl5:=hrl5.imp (fun g' n' c' q' h'=>h'.stp hs10 (h'.neR hr9))
  have hS10:=hS9.trans hs10
  have hT10:=hs10.blk hlow hT9
  have hX10:=hs10.blk hXR hX9
  clear hr9 hS9 hT9 hX9
  clear hs10
  have hpb:=parts_back h256 hmg hm5 hm6 hm7 hm8 hm10
  obtain ⟨RAW,hRAW⟩ : ∃ r,r = (⟨ya.1,yb.1,yd.1,yf.1,ye.1⟩ : RawM):=⟨_,rfl⟩
  replace hM:=Lib.hid (show M = endF all RAW ye.2 by rw [hM.out];simp only [Except.bind,hm5,hm6,hm7,hm8,hm10,hRAW])
  rw [← hRAW] at hpb
  have hyn : ye.2 ≤ n:=by have:=hpb.1.2.1;omega
  replace hRAW:=Lib.hid hRAW
  obtain ⟨c0,c1,f1⟩:=hr10.cells
  go_wp2_with fail
  refine (word2_c hr10).mono ?_
  rintro e w11 ⟨hs11,hv11⟩
  cases hm11 : wrdF all ye.2 with
  | error x =>
    have hfin : M = .error x:=by rw [hM.out];simp only [endF,Except.bind,hm11]
    rw [hm11] at hv11
    subst hv11
    (try go_wp2)
    exact ⟨rfl,hS10.trans hs11,by first | rw [hfin] | rfl⟩
  | ok ys =>
  rw [hm11] at hv11
  obtain ⟨v11,rfl,rfl,hr11⟩:=hv11
  have hv11:=fun j hj=>hs11.cell (hv10 j hj) hbR
  replace hown5:=owns_stp hown5 hs11 hR5
  replace hown6:=owns_stp hown6 hs11 hR6
  replace hown7:=owns_stp hown7 hs11 hR7
  replace hown8:=owns_stp hown8 hs11 hR8
  replace hrl5:=hrl5.imp (fun g' n' c' q' h'=>h'.stp hs11 (h'.neR hr10))
  have hS11:=hS10.trans hs11
  have hT11:=hs11.blk hlow hT10
  have hX11:=hs11.blk hXR hX10
  clear hr10 hS10 hT10 hX10
  clear hs11 hv10 c0 c1 f1
  replace hM:=Lib.hid (show M = endG all RAW ye.2 ys by rw [hM.out];simp only [endF,Except.bind,hm11])
  obtain ⟨c0,c1,f1⟩:=hr11.cells
  have hxs : ys.1 ≤ 4294967295:=wrdF_le h256 hm11
  have hlp : ye.1.length ≤ ye.2:=by
    have:=hpb.1.1
    rw [hRAW.out] at this
    unfold rawL cntL at this
    simp only [List.length_append] at this
    omega
  go_wp2_with fail
  have c1d : (w11.drew).cell? ⟨R,1,none⟩ = some (.int .i64 (ys.2 : Int)):=c1
  have c1k : ∀ k,((w11.drew).drewN k).cell? ⟨R,1,none⟩ = some (.int .i64 (ys.2 : Int)):=fun _=>c1
  by_cases hend : ¬ ys.2 = n
  · have hd : ((ys.2 : Int) == (n : Int)) = false:=beq_eq_false_iff_ne.2 (by omega)
    have hfin : M = .error (ys.2,4):=by rw [hM.out];unfold endG;rw [hall];exact if_neg hend
    refine wp_region_any (by kernel_rfl) ?_
    try (change wpAny _ _ _ _ _ _ _ (World.drew _))
    refine wpAny_take (i:=0) (v:=?_) rfl (by kernel_rfl) (by kernel_rfl) (by kernel_rfl) (fun _ _ _ h=>h) (Or.inl ⟨by rfl,?_⟩) ?_
    case refine_2=>(intro w;go_simp;(try with_reducible rfl))
    refine wpAny_take (i:=1) (v:=?_) rfl (by kernel_rfl) (by kernel_rfl) (by kernel_rfl) (fun _ _ _ h=>h) (Or.inl ⟨by rfl,?_⟩) ?_
    case refine_2=>(intro w;go_simp;(try with_reducible rfl))
    refine wpAny_take (i:=2) (v:=?_) rfl (by kernel_rfl) (by kernel_rfl) (by kernel_rfl) (fun _ _ _ h=>h) (Or.inl ⟨by rfl,?_⟩) ?_
    case refine_2=>(intro w;go_simp;(try with_reducible rfl))
    refine wpAny_take (i:=4) (v:=?_) rfl (by kernel_rfl) (by kernel_rfl) (by kernel_rfl) (fun _ _ _ h=>h) (Or.inl ⟨by rfl,?_⟩) ?_
    case refine_2=>(intro w;go_simp;(try with_reducible rfl))
    refine wpAny_take (i:=5) (v:=?_) rfl (by kernel_rfl) (by kernel_rfl) (by kernel_rfl) (fun _ _ _ h=>h) (Or.inl ⟨by rfl,?_⟩) ?_
    case refine_2=>(intro w;go_simp;(try with_reducible rfl))
    refine wpAny_take (i:=6) (v:=?_) rfl (by kernel_rfl) (by kernel_rfl) (by kernel_rfl) (fun _ _ _ h=>h) (Or.inl ⟨by rfl,?_⟩) ?_
    case refine_2=>(intro w;go_simp;(try with_reducible rfl))
    refine wpAny_take (i:=7) (v:=?_) rfl (by kernel_rfl) (by kernel_rfl) (by kernel_rfl) (fun _ _ _ h=>h) (Or.inl ⟨by rfl,?_⟩) ?_
    case refine_2=>(intro w;go_simp;(try with_reducible rfl))
    refine wpAny_ready (rs:=[3,8]) (by kernel_rfl) (by simp) ?_
    refine AllReady.cons rfl (fun K hK=>?_) (AllReady.cons rfl (fun K hK=>?_) AllReady.nil)
    · go_simp
      refine (atEnd_c (hr11.drewN 1)).mono ?_
      rintro e w12 ⟨rfl,k,rfl⟩
      rw [hd]
      refine hK _ _ ?_
      clear hK K
      refine wpAny_ready (rs:=[8]) (by kernel_rfl) (by simp) ?_
      refine AllReady.cons rfl (fun K hK=>?_) AllReady.nil
      go_simp
      refine hK _ _ ?_
      clear hK K
      refine wpAny_ready (rs:=[9]) (by kernel_rfl) (by simp) ?_
      refine AllReady.cons rfl (fun K hK=>?_) AllReady.nil
      go_simp
      refine (must_no _ _).mono ?_
      rintro e w13 ⟨rfl,rfl⟩
      exact ⟨rfl,by first | exact (hS11.drewN (1 + k)) | exact (hS11.drewN (k + 1)) | exact (hS11.drewN 1).drewN k,by first | rw [hfin] | rfl⟩
    · go_simp
      refine hK _ _ ?_
      clear hK K
      refine wpAny_ready (rs:=[3]) (by kernel_rfl) (by simp) ?_
      refine AllReady.cons rfl (fun K hK=>?_) AllReady.nil
      go_simp
      refine (atEnd_c (hr11.drewN 1)).mono ?_
      rintro e w12 ⟨rfl,k,rfl⟩
      rw [hd]
      refine hK _ _ ?_
      clear hK K
      refine wpAny_ready (rs:=[9]) (by kernel_rfl) (by simp) ?_
      refine AllReady.cons rfl (fun K hK=>?_) AllReady.nil
      go_simp
      refine (must_no _ _).mono ?_
      rintro e w13 ⟨rfl,rfl⟩
      exact ⟨rfl,by first | exact (hS11.drewN (1 + k)) | exact (hS11.drewN (k + 1)) | exact (hS11.drewN 1).drewN k,by first | rw [hfin] | rfl⟩
  replace hend:=Classical.not_not.1 hend
  have hd : ((ys.2 : Int) == (n : Int)) = true:=beq_iff_eq.2 (by omega)
  replace hM:=Lib.hid (show M = if (ys.1 : Int) = sumN all ye.2 then tabG RAW ye.2 else .error (ye.2,31) by rw [hM.out];unfold endG;rw [hall];exact if_pos hend)
  go_cut [] from 44 to 83 (fun wx=>∃ k,wx = w11.drewN k)
  case first =>
    refine wp_region_any (by kernel_rfl) ?_
    try (change wpAny _ _ _ _ _ _ _ (World.drew _))
    refine wpAny_take (i:=0) (v:=?_) rfl (by kernel_rfl) (by kernel_rfl) (by kernel_rfl) (fun _ _ _ h=>h) (Or.inl ⟨by rfl,?_⟩) ?_
    case refine_2=>(intro w;go_simp;(try with_reducible rfl))
    refine wpAny_take (i:=1) (v:=?_) rfl (by kernel_rfl) (by kernel_rfl) (by kernel_rfl) (fun _ _ _ h=>h) (Or.inl ⟨by rfl,?_⟩) ?_
    case refine_2=>(intro w;go_simp;(try with_reducible rfl))
    refine wpAny_take (i:=2) (v:=?_) rfl (by kernel_rfl) (by kernel_rfl) (by kernel_rfl) (fun _ _ _ h=>h) (Or.inl ⟨by rfl,?_⟩) ?_
    case refine_2=>(intro w;go_simp;(try with_reducible rfl))
    refine wpAny_take (i:=4) (v:=?_) rfl (by kernel_rfl) (by kernel_rfl) (by kernel_rfl) (fun _ _ _ h=>h) (Or.inl ⟨by rfl,?_⟩) ?_
    case refine_2=>(intro w;go_simp;(try with_reducible rfl))
    refine wpAny_take (i:=5) (v:=?_) rfl (by kernel_rfl) (by kernel_rfl) (by kernel_rfl) (fun _ _ _ h=>h) (Or.inl ⟨by rfl,?_⟩) ?_
    case refine_2=>(intro w;go_simp;(try with_reducible rfl))
    refine wpAny_take (i:=6) (v:=?_) rfl (by kernel_rfl) (by kernel_rfl) (by kernel_rfl) (fun _ _ _ h=>h) (Or.inl ⟨by rfl,?_⟩) ?_
    case refine_2=>(intro w;go_simp;(try with_reducible rfl))
    refine wpAny_take (i:=7) (v:=?_) rfl (by kernel_rfl) (by kernel_rfl) (by kernel_rfl) (fun _ _ _ h=>h) (Or.inl ⟨by rfl,?_⟩) ?_
    case refine_2=>(intro w;go_simp;(try with_reducible rfl))
    refine wpAny_ready (rs:=[3,8]) (by kernel_rfl) (by simp) ?_
    refine AllReady.cons rfl (fun K hK=>?_) (AllReady.cons rfl (fun K hK=>?_) AllReady.nil)
    · go_simp
      refine (atEnd_c (hr11.drewN 1)).mono ?_
      rintro e w12 ⟨rfl,k,rfl⟩
      rw [hd]
      refine hK _ _ ?_
      clear hK K
      refine wpAny_ready (rs:=[8]) (by kernel_rfl) (by simp) ?_
      refine AllReady.cons rfl (fun K hK=>?_) AllReady.nil
      go_simp
      refine hK _ _ ?_
      clear hK K
      refine wpAny_ready (rs:=[9]) (by kernel_rfl) (by simp) ?_
      refine AllReady.cons rfl (fun K hK=>?_) AllReady.nil
      go_simp
      refine (must_yes _ _).mono ?_
      rintro e w13 ⟨rfl,rfl⟩
      refine hK _ _ ?_
      clear hK K
      refine wpAny_done (by kernel_rfl) ?_ _
      go_wp2
      go_meet
      exact ⟨1 + k,rfl⟩
    · go_simp
      refine hK _ _ ?_
      clear hK K
      refine wpAny_ready (rs:=[3]) (by kernel_rfl) (by simp) ?_
      refine AllReady.cons rfl (fun K hK=>?_) AllReady.nil
      go_simp
      refine (atEnd_c (hr11.drewN 1)).mono ?_
      rintro e w12 ⟨rfl,k,rfl⟩
      rw [hd]
      refine hK _ _ ?_
      clear hK K
      refine wpAny_ready (rs:=[9]) (by kernel_rfl) (by simp) ?_
      refine AllReady.cons rfl (fun K hK=>?_) AllReady.nil
      go_simp
      refine (must_yes _ _).mono ?_
      rintro e w13 ⟨rfl,rfl⟩
      refine hK _ _ ?_
      clear hK K
      refine wpAny_done (by kernel_rfl) ?_ _
      go_wp2
      go_meet
      exact ⟨1 + k,rfl⟩
  case rest =>
  obtain ⟨k7,rfl⟩:=hcut
  have hs12:=(Stp.refl R w11).drewN k7
  have hr12:=hr11.drewN k7
  have hv12:=fun j hj=>hs12.cell (hv11 j hj) hbR
  replace hown5:=owns_stp hown5 hs12 hR5
  replace hown6:=owns_stp hown6 hs12 hR6
  replace hown7:=owns_stp hown7 hs12 hR7
  replace hown8:=owns_stp hown8 hs12 hR8
  replace hrl5:=hrl5.imp (fun g' n' c' q' h'=>h'.stp hs12 (h'.neR hr11))
  have hS12:=hS11.trans hs12
  have hT12:=hs12.blk hlow hT11
  have hX12:=hs12.blk hXR hX11
  clear hr11 hS11 hT11 hX11
  clear hs12 hv11 c0 c1 f1 c1d c1k hd
  obtain ⟨w12,hw12⟩ : ∃ W,W = w11.drewN k7:=⟨_,rfl⟩
  rw [← hw12] at hr12 hv12 hown5 hown6 hown7 hown8 hrl5 hS12 hT12 hX12 ⊢
  clear hw12
  obtain ⟨c0,c1,f1⟩:=hr12.cells
  have hyc : (ye.2 : Int) ≤ (c : Int):=by omega
  have hyc2 : ye.2 ≤ c:=by omega
  have hsum:=fun c2=>sumTo_c (k:=ye.2) (c2:=c2) hr12 hyn
  generalize sumN all ye.2 = SM at hsum hM
  go_wp2_with fail
  refine (hsum _).mono ?_
  rintro e w13 ⟨rfl,rfl⟩
  by_cases hsm : ¬ (ys.1 : Int) = SM
  · have hsd : ((ys.1 : Int) == SM) = false:=beq_eq_false_iff_ne.2 hsm
    have hfin : M = .error (ye.2,31):=by rw [hM.out];exact if_neg hsm
    go_wp2_with fail
    refine (must_no _ _).mono ?_
    rintro e w14 ⟨rfl,rfl⟩
    (try go_wp2)
    exact ⟨rfl,hS12,by first | (rw [hfin];rfl) | rw [hfin] | rfl⟩
  replace hsm:=Classical.not_not.1 hsm
  have hsd : ((ys.1 : Int) == SM) = true:=beq_iff_eq.2 hsm
  replace hM:=Lib.hid (show M = tabG RAW ye.2 by rw [hM.out];exact if_pos hsm)
  clear hsm hsum
  go_wp2_with fail
  refine (must_yes _ _).mono ?_
  rintro e w14 ⟨rfl,rfl⟩
  have hpl : ∀ x ∈ ye.1,x < 256:=fun x hx=>h256 x (hpb.1.mem x (by rw [hRAW.out];unfold rawL cntL;simp [hx]))
  have hple : ye.1.length ≤ 100000:=by have:=hpb.2.n5;rw [hRAW.out] at this;exact this
  have hprog : RAW.prog = ye.1:=by rw [hRAW.out]
  have hsc:=short_c hv12 hpl hple
  replace hprog:=Lib.hid hprog
  clear hsd hpl c0 c1 f1
  go_wp2_with fail
  refine hsc.mono ?_
  rintro e w15 ⟨hb15,hsh⟩
  have hs15:=Stp.of_below (R:=R) hb15
  have hr15:=hr12.keep hb15
  replace hown5:=owns_stp hown5 hs15 hR5
  replace hown6:=owns_stp hown6 hs15 hR6
  replace hown7:=owns_stp hown7 hs15 hR7
  replace hown8:=owns_stp hown8 hs15 hR8
  replace hrl5:=hrl5.imp (fun g' n' c' q' h'=>h'.stp hs15 (h'.neR hr12))
  have hS15:=hS12.trans hs15
  have hT15:=hs15.blk hlow hT12
  have hX15:=hs15.blk hXR hX12
  clear hr12 hS12 hT12 hX12
  clear hs15 hb15 hsc hv12
  have hcast : (ye.2 : Int) - (ye.1.length : Int) = ((ye.2 - ye.1.length : Nat) : Int):=by omega
  have hcw2 : IntKind.i64.wrap ((ye.2 : Int) - (ye.1.length : Int)) = ((ye.2 - ye.1.length : Nat) : Int):=by have:=hr15.nn;rw [IntKind.wrap_i64];omega
  have hcw : wrap64 ((ye.2 - ye.1.length : Nat) : Int) = ((ye.2 - ye.1.length : Nat) : Int):=wrap_in (by omega) (by have:=hr15.nn;omega)
  rcases hsh with ⟨hno,v15,rfl⟩ | ⟨tab,tv,hyes,rfl,hrows⟩
  · have hfin : M = .error (ye.2 - ye.1.length,33):=by rw [hM.out,tabG_none (by rw [hprog.out];exact hno),hprog.out]
    go_wp2_with fail
    refine (must_no _ _).mono ?_
    rintro e w16 ⟨rfl,rfl⟩
    (try go_wp2)
    exact ⟨rfl,hS15,by first | (rw [hfin];rfl) | rw [hfin] | rfl⟩
  replace hM:=Lib.hid (show M = if dec (ObjOk (RAW.obj tab)) = true then .ok (RAW,tab) else .error (0,30) by rw [hM.out,tabG_some (by rw [hprog.out];exact hyes)])
  have hTab : TabOk tab:=(short_tab (fun x hx=>h256 x (hpb.1.mem x (by rw [hRAW.out];unfold rawL cntL;simp [hx]))) hyes).1
  obtain ⟨ta,tc,rfl⟩:=rows_slice hrows
  have x0 : w15.cell? ⟨w8.heap.size,0,none⟩ = some (.slice va5 ya.1.length vc5):=by simp [World.cell?,hX15]
  have x1 : w15.cell? ⟨w8.heap.size,1,none⟩ = some (.slice va6 yb.1.length vc6):=by simp [World.cell?,hX15]
  have x2 : w15.cell? ⟨w8.heap.size,2,none⟩ = some (.slice va7 yd.1.length vc7):=by simp [World.cell?,hX15]
  have x3 : w15.cell? ⟨w8.heap.size,3,none⟩ = some (.slice va8 yf.1.length vc8):=by simp [World.cell?,hX15]
  have x4 : w15.cell? ⟨w8.heap.size,4,none⟩ = some (.slice none 0 0):=by simp [World.cell?,hX15]
  have xf : ∀ i,w15.frozen? ⟨w8.heap.size,i,none⟩ = false:=fun i=>by simp [World.frozen?,hX15]
  have ho16 : Oth w8.heap.size w15 (w15.setCell ⟨w8.heap.size,4,none⟩ (.slice ta tab.length tc)):=(Oth.refl _ _).set 4 _
  have hX16:=heap_setCell_same _ _ 4 _ _ (.slice ta tab.length tc) hX15
  replace hown5:=owns_oth hown5 hX15 (by decide) ho16
  replace hown6:=owns_oth hown6 hX15 (by decide) ho16
  replace hown7:=owns_oth hown7 hX15 (by decide) ho16
  replace hown8:=owns_oth hown8 hX15 (by decide) ho16
  replace hrl5:=hrl5.imp (fun g' n' c' q' h'=>h'.oth hX15 ho16)
  replace hrows:=line_oth hrows hX15 ho16
  have hS16:=hS15.far2 (Nat.le_of_lt hXT) 4 (.slice ta tab.length tc)
  have hT16:=(heap_setCell_other w15 ⟨w8.heap.size,4,none⟩ w.heap.size (.slice ta tab.length tc) (Nat.ne_of_lt hXT)).trans hT15
  have hxl : xs.length = ya.1.length:=hrl5.1
  replace hxl:=Lib.hid hxl
  have hOb : ObjAt (w15.setCell ⟨w8.heap.size,4,none⟩ (.slice ta tab.length tc)) (.agg #[.slice va5 ya.1.length vc5,.slice va6 yb.1.length vc6,.slice va7 yd.1.length vc7,.slice va8 yf.1.length vc8,.slice ta tab.length tc]) ⟨xs,yb.1,yd.1,yf.1,tab⟩ :=
    ⟨_,_,_,_,_,rfl,rows_of_ownR SecT.cells 5 secC_len hown5 hxl.out.symm,rows_of_ownR SymT.cells 6 symC_len hown6 rfl,rows_of_ownR RelT.cells 5 relC_len hown7 rfl,rows_of_ownR fileCells 1 (fun _=>rfl) hown8 rfl,hrows⟩
  have hRR : (⟨xs,yb.1,yd.1,yf.1,tab⟩ : ObjT).R:=by
    have q:=hpb.2
    rw [hRAW.out] at q
    have hln:=hTab.1
    refine ⟨hrl5.R q.secs,fun x hx=>symR_of (q.syms x hx),fun x hx=>relR_of (q.rels x hx),fun x hx=>?_,lineR_of hTab,?_,?_,?_,?_,?_⟩
    · have:=q.files x hx
      unfold fileR
      omega
    · have:=q.n1;have:=hxl.out;dsimp only at *;omega
    · have:=q.n2;dsimp only at *;omega
    · have:=q.n3;dsimp only at *;omega
    · have:=q.n4;dsimp only at *;omega
    · dsimp only;omega
  have hck:=pcheck_c hOb hRR
  have hbare : ObjOk ⟨xs,yb.1,yd.1,yf.1,tab⟩ ↔ ObjOk (RAW.obj tab):=by
    rw [hRAW.out]
    exact objOk_bare hrl5.bare rfl rfl rfl rfl
  replace hOb:=Lib.hid hOb
  replace hRR:=Lib.hid hRR
  replace hrl5:=Lib.hid hrl5
  clear hown5 hown6 hown7 hown8 hrows hX15 hT15 hS15 hr15 ho16 hcast hcw hcw2 hyes
  by_cases hok : ¬ ObjOk ⟨xs,yb.1,yd.1,yf.1,tab⟩
  · have hfin : M = .error (0,30):=by rw [hM.out,dec_no (fun h'=>hok (hbare.2 h'))];rfl
    rw [dec_no hok,show ErrR false = ErrR false from rfl] at hck
    go_wp2_with fail
    refine (must_yes _ _).mono ?_
    rintro e w16 ⟨rfl,rfl⟩
    go_wp2_with fail
    refine hck.mono ?_
    rintro e w17 ⟨rfl,hb17⟩
    have he : errV false = 30:=rfl
    rw [he]
    go_wp2_with fail
    refine (must_no _ _).mono ?_
    rintro e w18 ⟨rfl,rfl⟩
    (try go_wp2)
    exact ⟨rfl,hS16.trans (Stp.of_below hb17),by first | (rw [hfin];rfl) | rw [hfin] | rfl⟩
  replace hok:=Classical.not_not.1 hok
  have hfin:=Lib.hid (show M = .ok (RAW,tab) by rw [hM.out,dec_yes (hbare.1 hok)];rfl)
  rw [dec_yes hok] at hck
  go_wp2_with fail
  refine (must_yes _ _).mono ?_
  rintro e w16 ⟨rfl,rfl⟩
  go_wp2_with fail
  refine hck.mono ?_
  rintro e w17 ⟨rfl,hb17⟩
  have he : errV true = 0:=rfl
  rw [he]
  go_wp2_with fail
  refine (must_yes _ _).mono ?_
  rintro e w18 ⟨rfl,rfl⟩
  have hX17:=(hb17.block _ (Array.getElem?_eq_some_iff.1 hX16).1).trans hX16
  have hT17:=(hb17.block _ (Array.getElem?_eq_some_iff.1 hT16).1).trans hT16
  have y0 : w18.cell? ⟨w8.heap.size,0,none⟩ = some (.slice va5 ya.1.length vc5):=by simp [World.cell?,hX17]
  have y1 : w18.cell? ⟨w8.heap.size,1,none⟩ = some (.slice va6 yb.1.length vc6):=by simp [World.cell?,hX17]
  have y2 : w18.cell? ⟨w8.heap.size,2,none⟩ = some (.slice va7 yd.1.length vc7):=by simp [World.cell?,hX17]
  have y3 : w18.cell? ⟨w8.heap.size,3,none⟩ = some (.slice va8 yf.1.length vc8):=by simp [World.cell?,hX17]
  have y4 : w18.cell? ⟨w8.heap.size,4,none⟩ = some (.slice ta tab.length tc):=by simp [World.cell?,hX17]
  have t0 : w18.cell? ⟨w.heap.size,0,none⟩ = some (.slice none 0 0):=by simp [World.cell?,hT17]
  have t1 : w18.cell? ⟨w.heap.size,1,none⟩ = some (.slice none 0 0):=by simp [World.cell?,hT17]
  have t2 : w18.cell? ⟨w.heap.size,2,none⟩ = some (.slice none 0 0):=by simp [World.cell?,hT17]
  have t3 : w18.cell? ⟨w.heap.size,3,none⟩ = some (.slice none 0 0):=by simp [World.cell?,hT17]
  have t4 : w18.cell? ⟨w.heap.size,4,none⟩ = some (.slice none 0 0):=by simp [World.cell?,hT17]
  have tf : ∀ i,w18.frozen? ⟨w.heap.size,i,none⟩ = false:=fun i=>by simp [World.frozen?,hT17]
  have hTb:=set5 (v0:=.slice va5 ya.1.length vc5) (v1:=.slice va6 yb.1.length vc6) (v2:=.slice va7 yd.1.length vc7) (v3:=.slice va8 yf.1.length vc8) (v4:=.slice ta tab.length tc) hT17
  have ho19 : Oth w.heap.size w18 (((((w18.setCell ⟨w.heap.size,0,none⟩ (.slice va5 ya.1.length vc5)).setCell ⟨w.heap.size,1,none⟩ (.slice va6 yb.1.length vc6)).setCell ⟨w.heap.size,2,none⟩ (.slice va7 yd.1.length vc7)).setCell ⟨w.heap.size,3,none⟩ (.slice va8 yf.1.length vc8)).setCell ⟨w.heap.size,4,none⟩ (.slice ta tab.length tc)):=(((((Oth.refl _ _).set 0 _).set 1 _).set 2 _).set 3 _).set 4 _
  have hOb19:=Lib.hid ((hOb.out.below hb17).oth hT17 ho19)
  have hrl19:=Lib.hid ((hrl5.out.imp (fun g' n' c' q' h'=>h'.below hb17)).imp (fun g' n' c' q' h'=>h'.oth hT17 ho19))
  have hS19:=Lib.hid ((((((hS16.trans (Stp.of_below hb17)).far 0 (.slice va5 ya.1.length vc5)).far 1 (.slice va6 yb.1.length vc6)).far 2 (.slice va7 yd.1.length vc7)).far 3 (.slice va8 yf.1.length vc8)).far 4 (.slice ta tab.length tc))
  replace hTb:=Lib.hid hTb
  clear hX17 hT17 ho19 hb17 hX16 hT16 hS16 hOb hrl5
  go_wp2
  rw [hfin.out]
  refine ⟨rfl,_,results_cell_row rfl _ _ w.heap.size 28 _ _ _ rfl hTb.out Tryz.underlying28 rfl (by kernel_rfl),hS19.out,_,⟨xs,yb.1,yd.1,yf.1,tab⟩,rfl,hOb19.out,hRR.out,?_,?_,?_,?_,rfl⟩
  · rw [hRAW.out];exact hrl19.out
  all_goals rw [hRAW.out]
end Go.Ev

