/- ObjDamage returns true at all objects,numbers and slices of bytes (P3.6),as the row says it. -/
import Derived.Test.YtepopmplcjhfbaaGreatObWd
import Derived.Test.YtepopmplcjhfbaaGreatObG11
import Derived.Test.YtepopmplcjhfbaaGreatObG19
import Derived.Laws.IdiomArrays
import Derived.Test.YtepopmplcjhfbaaGreatRows
set_option linter.unusedSectionVars false
set_option linter.unusedVariables false
set_option linter.unusedSimpArgs false
set_option linter.unnecessarySimpa false
namespace Go.Proofs.YtepopmplcjhfbaaGreat
open Go.ChangeShapes Go.WideShapes Go.ChangeAt Go.RowKit Go.Ev Go.Rw
namespace ObjDamage
set_option maxRecDepth 100000 in
/-- A slice of bytes as an argument,with its reach and its range. -/
theorem open_bytesB {H : Type} {enc : TypeId × Value → H} {W : World} {r : Go.Reach} {b0 : Nat} {v : Value} {d : DataW H} {p : List MemPlace} (hv : Value.okWide Tryz.prog W r b0 34 v) (h : DataW.Trod enc Tryz.prog W 0 (fun _=>true) true 34 v d p)
    (hsz : ∀ elems spare,d = .slice elems spare → (elems.length + spare.length) * Tryz.prog.bytesOf 5 ≤ reachBytes) :
    ∃ (a : Option Addr) (n cap : Nat) (q : Nat → Int),v = .slice a n cap ∧ BytesAt W a n q ∧ n ≤ cap ∧ cap ≤ 140737488351232 ∧ ∀ j,InB (q j):=by
  obtain ⟨a0,len,cap,rfl⟩:=okWide_slice Tryz.underlying34 hv
  obtain ⟨fuel,hf⟩:=h
  rcases open_ints Tryz.underlying34 Tryz.underlying5 cells5 hf with ⟨hcs,_⟩ | ⟨a,len',cap',zs,hcs,_,hl,hm,hz,hd,hcell,hwz⟩
  · simp [Value.cells] at hcs
    obtain ⟨rfl,rfl,rfl⟩:=hcs
    exact ⟨none,0,0,fun _=>0,rfl,.inl ⟨rfl,rfl⟩,Nat.le_refl _,by omega,fun _=>⟨Int.le_refl _,by show (0 : Int) ≤ 255;omega⟩⟩
  · simp [Value.cells] at hcs
    obtain ⟨rfl,rfl,rfl⟩:=hcs
    obtain ⟨blk,off,spot⟩:=a
    have hs : spot = none:=by
      unfold Value.okWide at hv
      rw [Tryz.underlying34] at hv
      unfold Cell.okWide at hv
      rw [Tryz.underlying34] at hv
      unfold Cell.ok at hv
      rw [Tryz.underlying34] at hv
      exact hv.2.2.2.1
    subst hs
    simp only [if_true] at hz
    have hr:=hsz _ _ (Prod.mk.inj hd).1
    rw [bytes5] at hr
    simp only [lits,List.length_map,List.length_take,List.length_drop] at hr
    have hr : (min len zs.length + (zs.length - len)) * 1 ≤ 140737488351232:=hr
    have hin : ∀ j,InB (zs.getD j 0):=fun j=>by
      by_cases h : j < zs.length
      · have : zs.getD j 0 = zs[j]:=by simp [List.getD,h]
        rw [this]
        have:=hwz _ (List.getElem_mem h)
        simpa [Lit.wf,IntKind.min,IntKind.max,IntKind.signed,IntKind.bits,InB] using this
      · have : zs.getD j 0 = 0:=by simp [List.getD,List.getElem?_eq_none (Nat.le_of_not_lt h)]
        rw [this]
        exact ⟨Int.le_refl _,by omega⟩
    exact ⟨_,len,cap,fun j=>zs.getD j 0,rfl,.inr ⟨blk,off,rfl,fun j hj=>by rw [← hcell j (by omega),cell_add]⟩,hl,by omega,hin⟩
theorem list4 {α : Type} (l : List α) (h : (⟨l⟩ : Array α).size = 4) : ∃ a b c d,l = [a,b,c,d]:=by
  match l,h with
  | [a,b,c,d],_=>exact ⟨a,b,c,d,rfl⟩
theorem cells57 : Tryz.prog.cellsOf 57 = 4:=by kernel_rfl
set_option maxRecDepth 100000 in
theorem inB_wf {z : Int} (h : (Lit.int .u8 z).wf = true) : InB z:=by
  simpa [Lit.wf,IntKind.min,IntKind.max,IntKind.signed,IntKind.bits,InB] using h
set_option maxRecDepth 100000 in
/-- An array of four bytes as an argument. -/
theorem open_four {H : Type} {enc : TypeId × Value → H} {W : World} {r : Go.Reach} {b0 : Nat} {v : Value} {d : DataW H} {p : List MemPlace} (hv : Value.okWide Tryz.prog W r b0 57 v) (h : DataW.Trod enc Tryz.prog W 0 (fun _=>true) true 57 v d p) :
    ∃ x0 x1 x2 x3 : Int,v = .agg #[.int .u8 x0,.int .u8 x1,.int .u8 x2,.int .u8 x3] ∧ InB x0 ∧ InB x1 ∧ InB x2 ∧ InB x3:=by
  unfold Value.okWide at hv
  rw [under57] at hv
  obtain ⟨cs,rfl,hsz,-⟩:=hv
  rw [cells57] at hsz
  obtain ⟨l⟩:=cs
  obtain ⟨c0,c1,c2,c3,rfl⟩:=list4 l hsz
  obtain ⟨fuel,hf⟩:=h
  obtain ⟨y0,y1,y2,y3,m,hx,hy0,hy1,hy2,hy3⟩:=trod_array4 under57 cells5 hf
  obtain ⟨x0,e0,rfl,w0⟩:=DataW.trod_int Tryz.underlying5 hy0
  obtain ⟨x1,e1,rfl,w1⟩:=DataW.trod_int Tryz.underlying5 hy1
  obtain ⟨x2,e2,rfl,w2⟩:=DataW.trod_int Tryz.underlying5 hy2
  obtain ⟨x3,e3,rfl,w3⟩:=DataW.trod_int Tryz.underlying5 hy3
  simp at e0 e1 e2 e3
  subst e0 e1 e2 e3
  exact ⟨x0,x1,x2,x3,rfl,inB_wf w0,inB_wf w1,inB_wf w2,inB_wf w3⟩
set_option maxRecDepth 100000 in
theorem lifted (os : Os) (started : os.Started) (H : Type) (enc : TypeId × Value → H) :
    ReturnsInHanded {} Tryz.checked os 8 .any (Rows.objDamageSpec.pre6 enc Tryz.prog Tryz.f8 Rows.objDamageRow.domain false)
      (Rows.objDamageSpec.post enc Tryz.prog Tryz.f8 false true false false):=by
  refine handed_and_sized (C:=Tryz.checked) ownT started (by kernel_rfl) Tryz.func8
    (ChangeSpec.witness_shaped (enc:=enc) (C:=Tryz.checked) (os:=os) (X:=fun _ _=>True) false (World.laidAll Tryz.prog os []) #[.agg #[.slice none 0 0,.slice none 0 0,.slice none 0 0,.slice none 0 0,.slice none 0 0],.int .i64 0,.agg #[.int .u8 0,.int .u8 0,.int .u8 0,.int .u8 0],.int .i64 0,.slice none 0 0,.slice none 0 0,.slice none 0 0] 8 (World.laidAll_os _ _ _)
      (World.shaped_of_ZipB (by kernel_rfl) (by kernel_rfl)) (by kernel_rfl) (by kernel_rfl) (by kernel_rfl) trivial) ?_
  intro W base args ds gs before hval0 hW hsh hwt
  have hval : ∀ (j : Nat) t v,Tryz.f8.params[j]? = some t → args[j]? = some v → Value.okWide Tryz.prog W .any base t v:=hval0
  have hW':=hW
  obtain ⟨p,q,hA0,hV,rfl,_,_⟩:=hW
  have hA : DataW.TrodAll enc Tryz.prog W 0 (fun _=>true) true Tryz.f8.params.toList args.toList ds p:=hA0
  rw [Tryz.params8] at hA hval
  obtain ⟨v0,vs0,d0,ds0,p0,q0,ha,rfl,rfl,h0,hA⟩:=trodAll_cons hA
  obtain ⟨v1,vs1,d1,ds1,p1,q1,rfl,rfl,rfl,h1,hA⟩:=trodAll_cons hA
  obtain ⟨v2,vs2,d2,ds2,p2,q2,rfl,rfl,rfl,h2,hA⟩:=trodAll_cons hA
  obtain ⟨v3,vs3,d3,ds3,p3,q3,rfl,rfl,rfl,h3,hA⟩:=trodAll_cons hA
  obtain ⟨v4,vs4,d4,ds4,p4,q4,rfl,rfl,rfl,h4,hA⟩:=trodAll_cons hA
  obtain ⟨v5,vs5,d5,ds5,p5,q5,rfl,rfl,rfl,h5,hA⟩:=trodAll_cons hA
  obtain ⟨v6,vs6,d6,ds6,p6,q6,rfl,rfl,rfl,h6,hA⟩:=trodAll_cons hA
  obtain ⟨rfl,rfl,rfl⟩:=trodAll_nil hA
  obtain rfl : args = #[v0,v1,v2,v3,v4,v5,v6]:=by
    apply Array.ext'
    exact ha
  obtain ⟨rfl,rfl⟩:=trodVars_none hV
  have hwt' : (DataW.weightsEach Tryz.prog (Tryz.f8.params.toList ++ Rows.objDamageSpec.plain.varTypes Tryz.prog) ([d0,d1,d2,d3,d4,d5,d6] ++ [])).all (· ≤ reachBytes) = true:=hwt
  rw [Tryz.params8] at hwt'
  obtain ⟨o,hO,hR,hC⟩:=open_objB (hval 0 28 v0 rfl rfl) h0 (fun k hk=>by
    have:=List.all_eq_true.1 hwt' k (DataW.weights_mem_each (j:=0) rfl rfl k hk)
    simpa using this)
  obtain ⟨n1,rfl,_,_,w1⟩:=open_int Tryz.underlying3 (hval 1 3 v1 rfl rfl) h1
  obtain ⟨x0,x1,x2,x3,rfl,b0,b1,b2,b3⟩:=open_four (hval 2 57 v2 rfl rfl) h2
  obtain ⟨n3,rfl,_,_,w3⟩:=open_int Tryz.underlying3 (hval 3 3 v3 rfl rfl) h3
  obtain ⟨a4,m4,c4,g4,rfl,hb4,hle4,hcap4,hz4⟩:=open_bytesB (hval 4 34 v4 rfl rfl) h4 (fun el sp hd=>by subst hd;exact sized_slice (j:=4) hwt' rfl rfl Tryz.underlying34)
  obtain ⟨l4,hf4⟩:=fileAt_arg hb4 hz4
  obtain ⟨a5,m5,c5,g5,rfl,hb5,hle5,hcap5,hz5⟩:=open_bytesB (hval 5 34 v5 rfl rfl) h5 (fun el sp hd=>by subst hd;exact sized_slice (j:=5) hwt' rfl rfl Tryz.underlying34)
  obtain ⟨l5,hf5⟩:=fileAt_arg hb5 hz5
  obtain ⟨a6,m6,c6,g6,rfl,hb6,hle6,hcap6,hz6⟩:=open_bytesB (hval 6 34 v6 rfl rfl) h6 (fun el sp hd=>by subst hd;exact sized_slice (j:=6) hwt' rfl rfl Tryz.underlying34)
  obtain ⟨l6,hf6⟩:=fileAt_arg hb6 hz6
  exact law_end rfl (by kernel_rfl) (fun b=>by kernel_rfl) (by kernel_rfl) hW' rfl rfl (damage_calls hO hR (C:=secStr W) (fun x hx=>secStr_in (hC x hx)) (inI64_wf w1) (inI64_wf w3) b0 b1 b2 b3 hf4 hf5 hf6 hle4 hle5 hle6 hcap4 hcap5 hcap6)
theorem named : Tryz.pinned.checked.prog.funcNamed Rows.objDamageRow.func = some 8:=by kernel_rfl
theorem facts : joinedFacts Tryz.pinned.checked.prog 8 Tryz.f8 Rows.objDamageSpec Rows.objDamageRow = true:=by kernel_rfl
theorem holds : Rows.ObjDamageSaid :=
  OpenClaim.holds_of_wide 8 Tryz.f8 rfl rfl rfl rfl rfl rfl rfl ⟨rfl,rfl,rfl,rfl,rfl⟩ rfl rfl rfl rfl rfl named Tryz.func8 facts
    (of_decide_eq_true (by kernel_rfl)) (by unfold Func.isWrapper;first | (rw [if_pos (by decide +kernel)];kernel_rfl) | (rw [if_neg (by decide +kernel)];exact ⟨rfl,rfl⟩))
    (fun os started H enc _=>lifted os started H enc)
end ObjDamage
theorem objDamage_holds : Rows.ObjDamageSaid:=ObjDamage.holds
#print axioms objDamage_holds
end Go.Proofs.YtepopmplcjhfbaaGreat

