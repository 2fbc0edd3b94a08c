import Derived.Test.YtepopmplcjhfbaaGreatObG20
import Derived.Laws.Cover1
import Derived.Laws.OwnMore
import Derived.Laws.BitsAllLaws
import Derived.Deep.RegionHeld3
import Derived.StillTailTactics
set_option linter.unusedSectionVars false
set_option linter.unusedVariables false
set_option linter.unusedSimpArgs false
set_option linter.unnecessarySimpa false
namespace Go.Ev
open Go.RowKit Go.Proofs Go.Rw
theorem run_min_int4 (P : Program) (w : World) (ts : Array TypeId) (t : TypeId) (x y z u r : Int) (hr : r = min (min (min x y) z) u) : (Builtin.min_ ts t #[.int .i64 x,.int .i64 y,.int .i64 z,.int .i64 u]).run P w = .ok (.int .i64 r) w:=by
  have h : (Builtin.min_ ts t #[.int .i64 x,.int .i64 y,.int .i64 z,.int .i64 u]).run P w = .ok (.int .i64 (if u < (if z < (if y < x then y else x) then z else (if y < x then y else x)) then u else (if z < (if y < x then y else x) then z else (if y < x then y else x)))) w:=by
    simp [Builtin.min_,Builtin.min2]
  rw [h,hr]
  congr 2
  split <;> split <;> split <;> omega
theorem run_makeSlice_d {w : World} {N : Nat} (hN : N ≤ 3000) : (Instr.makeSlice 34 (.int .i64 (N : Int)) (.int .i64 (N : Int))).run Tryz.prog w = .ok (.slice (some ⟨w.heap.size,0,none⟩) N N) (w.alloc (.cells (madeCells #[Value.int .u8 0] N) 5)):=by
  obtain ⟨i0,hi,hz0,hz1,hz2⟩:=info_parts info5
  have h:=run_makeSlice (P:=Tryz.prog) w 34 5 i0 (.int .u8 0) Tryz.underlying34 hi hz0 .i64 .i64 N N (by omega) (Int.le_refl _) (by rw [hz1];omega) (by rw [hz2];omega) (by omega)
  rw [hz1,Nat.mul_one,Int.toNat_natCast] at h
  exact h
def DAt (w : World) (D N k : Nat) (x : Nat → Nat) : Prop:=∃ cur : Array Value,w.heap[D]? = some (.cells cur 5 (0,0)) ∧ cur.size = N ∧ (∀ j,j < N → ∃ z,cur[j]? = some (.int .u8 z)) ∧ ∀ j,j < k → cur[j]? = some (.int .u8 ((x j : Nat) : Int))
theorem DAt.step {w : World} {D N k : Nat} {x : Nat → Nat} (h : DAt w D N k x) (hk : k < N) : DAt (w.setCell ⟨D,k,none⟩ (.int .u8 ((x k : Nat) : Int))) D N (k + 1) x:=by
  obtain ⟨cur,h1,h2,h3,h4⟩:=h
  refine ⟨cur.setIfInBounds k (.int .u8 ((x k : Nat) : Int)),heap_setCell_same _ _ k _ _ _ h1,by rw [Array.size_setIfInBounds];exact h2,fun j hj=>?_,fun j hj=>?_⟩
  · by_cases e : j = k
    · subst e
      exact ⟨_,by rw [Array.getElem?_setIfInBounds,if_pos rfl,if_pos (by omega)]⟩
    · obtain ⟨z,hz⟩:=h3 j hj
      exact ⟨z,by rw [Array.getElem?_setIfInBounds,if_neg (by omega)];exact hz⟩
  · by_cases e : j = k
    · subst e
      rw [Array.getElem?_setIfInBounds,if_pos rfl,if_pos (by omega)]
    · rw [Array.getElem?_setIfInBounds,if_neg (by omega)]
      exact h4 j (by omega)
theorem DAt.bytes {w w' : World} {D N : Nat} {x : Nat → Nat} (h : DAt w D N N x) (hb : Below w.heap.size w w') : BytesAt w' (some ⟨D,0,none⟩) N (fun j=>((x j : Nat) : Int)):=by
  obtain ⟨cur,h1,h2,h3,h4⟩:=h
  have h5:=(hb.block D (Array.getElem?_eq_some_iff.1 h1).1).trans h1
  refine .inr ⟨D,0,rfl,fun j hj=>?_⟩
  rw [Nat.zero_add]
  simp [World.cell?,h5,h4 j hj]
theorem fileAt_some {w : World} {a : Option Addr} {n : Nat} {l : List Nat} (h : FileAt w a n l) (hn : 0 < n) : ∃ b o,a = some ⟨b,o,none⟩ ∧ ∀ j,j < n → w.cell? ⟨b,o + j,none⟩ = some (.int .u8 ((l.getD j 0 : Nat) : Int)):=by
  rcases h.2.2 with ⟨-,h0⟩ | h
  · omega
  · exact h
theorem fileL_ge (o : ObjT) (C : SecT → ByteArray) : 8 ≤ (fileL o C).length:=by
  unfold fileL bodyL
  simp only [List.length_append,List.length_cons,List.length_nil,wordL]
  omega
theorem idx_fact (ia : Int) {L : Nat} (h : 4 ≤ L) (h2 : L < 2 ^ 60) : ∃ I : Nat,I + 4 ≤ L ∧ wrap64 ((IntKind.u64.wrap ia).tmod ((L : Int) - 3)) = (I : Int) ∧ wrap64 (I : Int) = (I : Int) ∧ wrap64 ((I : Int) + 1) = (I : Int) + 1 ∧ wrap64 ((I : Int) + 2) = (I : Int) + 2 ∧ wrap64 ((I : Int) + 3) = (I : Int) + 3:=by
  have hU0 : 0 ≤ IntKind.u64.wrap ia:=by rw [IntKind.wrap_u64];omega
  generalize IntKind.u64.wrap ia = U at hU0
  have e:=Int.tmod_eq_emod_of_nonneg (b:=(L : Int) - 3) hU0
  have e0:=Int.emod_nonneg U (show (L : Int) - 3 ≠ 0 by omega)
  have e1:=Int.emod_lt_of_pos U (show (0 : Int) < (L : Int) - 3 by omega)
  rw [e]
  generalize U % ((L : Int) - 3) = V at e0 e1
  obtain ⟨I,rfl⟩:=Int.eq_ofNat_of_zero_le e0
  clear e
  refine ⟨I,by omega,wrap_in (by omega) (by omega),wrap_in (by omega) (by omega),wrap_in (by omega) (by omega),wrap_in (by omega) (by omega),wrap_in (by omega) (by omega)⟩
theorem under57 : Tryz.prog.underlying 57 = some (.array 4 5):=by first | exact Tryz.underlying57 | kernel_rfl
theorem run_index57 (w : World) (a b c d : Value) (i : Nat) (v : Value) (h : #[a,b,c,d][i]? = some v) : (Instr.index 57 (.agg #[a,b,c,d]) (.int .i64 (i : Int))).run Tryz.prog w = .ok v w:=by
  have h4:=(Array.getElem?_eq_some_iff.1 h).1
  simp only [List.size_toArray,List.length_cons,List.length_nil] at h4
  rcases (show i = 0 ∨ i = 1 ∨ i = 2 ∨ i = 3 by omega) with rfl | rfl | rfl | rfl <;> (simp at h;subst h;simp [Instr.index,run_underlying under57,asIntOf,go_sem])
def damB (X : List Nat) (y : Nat → Nat) (I k j : Nat) : Nat:=if I ≤ j ∧ j < I + k then X.getD j 0 ^^^ y (j - I) else X.getD j 0
theorem OwnB.setC {w : World} {g n cap j : Nat} {q : Nat → Int} (h : OwnB w g n cap q) (hj : j < n) (v : Int) : OwnB (w.setCell ⟨g,j,none⟩ (.int .u8 v)) g n cap (fun i=>if i = j then v else q i):=by
  obtain ⟨cur,h1,h2,h3,h4,h5⟩:=h
  refine ⟨cur.setIfInBounds j (.int .u8 v),heap_setCell_same _ _ j _ _ _ h1,h2,h3,by rw [Array.size_setIfInBounds];exact h4,fun i hi=>?_⟩
  by_cases e : i = j
  · subst e
    rw [Array.getElem?_setIfInBounds,if_pos rfl,if_pos (by omega)]
    simp
  · rw [Array.getElem?_setIfInBounds,if_neg (by omega),h5 i hi]
    simp [e]
theorem OwnB.dam {w : World} {g n cap I k : Nat} {X : List Nat} {y : Nat → Nat} (h : OwnB w g n cap (fun j=>((damB X y I k j : Nat) : Int))) (hj : I + k < n) : OwnB (w.setCell ⟨g,I + k,none⟩ (.int .u8 ((X.getD (I + k) 0 ^^^ y k : Nat) : Int))) g n cap (fun j=>((damB X y I (k + 1) j : Nat) : Int)):=by
  have h2:=h.setC hj ((X.getD (I + k) 0 ^^^ y k : Nat) : Int)
  have e : (fun i=>if i = I + k then ((X.getD (I + k) 0 ^^^ y k : Nat) : Int) else ((damB X y I k i : Nat) : Int)) = (fun j=>((damB X y I (k + 1) j : Nat) : Int)):=by
    funext j
    unfold damB
    by_cases e1 : j = I + k
    · subst e1
      rw [if_pos rfl,if_pos (by omega),Nat.add_sub_cancel_left]
    · rw [if_neg e1]
      by_cases e2 : I ≤ j ∧ j < I + k
      · rw [if_pos e2,if_pos (by omega)]
      · rw [if_neg e2,if_neg (by omega)]
  exact e ▸ h2
theorem idx_cut (ic : Int) {L : Nat} (h : 4 ≤ L) (h2 : L < 2 ^ 60) : ∃ J : Nat,J < L ∧ wrap64 ((IntKind.u64.wrap ic).tmod (L : Int)) = (J : Int):=by
  have hU0 : 0 ≤ IntKind.u64.wrap ic:=by rw [IntKind.wrap_u64];omega
  generalize IntKind.u64.wrap ic = U at hU0
  have e:=Int.tmod_eq_emod_of_nonneg (b:=(L : Int)) hU0
  have e0:=Int.emod_nonneg U (show (L : Int) ≠ 0 by omega)
  have e1:=Int.emod_lt_of_pos U (show (0 : Int) < (L : Int) by omega)
  rw [e]
  generalize U % (L : Int) = V at e0 e1
  obtain ⟨I,rfl⟩:=Int.eq_ofNat_of_zero_le e0
  clear e
  exact ⟨I,by omega,wrap_in (by omega) (by omega)⟩
theorem run_min_int2 (P : Program) (w : World) (ts : Array TypeId) (t : TypeId) (x y r : Int) (hr : r = min x y) : (Builtin.min_ ts t #[.int .i64 x,.int .i64 y]).run P w = .ok (.int .i64 r) w:=by
  have h : (Builtin.min_ ts t #[.int .i64 x,.int .i64 y]).run P w = .ok (.int .i64 (if y < x then y else x)) w:=by
    simp [Builtin.min_,Builtin.min2]
  rw [h,hr]
  congr 2
  split <;> omega
theorem bequal_ne {w : World} {a b : Option Addr} {n m c1 c2 : Nat} {X Y : List Nat} (ha : FileAt w a n X) (hb : FileAt w b m Y) (h : X ≠ Y) : Calls Tryz.prog 23 #[.slice a n c1,.slice b m c2] w fun e w'=>e = .returned (.bool false) ∧ w' = w:=by
  obtain ⟨xb,hx,hx2⟩:=ha.sec
  obtain ⟨yb,hy,hy2⟩:=hb.sec
  have e : ¬ xb = yb:=fun e=>h (by rw [← hx2,← hy2,e])
  have h3:=bequal_x (c1:=c1) (c2:=c2) hx hy
  rw [dec_no e] at h3
  exact h3
theorem damL_get {X : List Nat} {y : Nat → Nat} {I L j : Nat} (hj : j < L) : ((List.range L).map (damB X y I 4)).getD j 0 = damB X y I 4 j:=by
  simp [List.getD,hj]
theorem damB_lt {X : List Nat} {y : Nat → Nat} {I j : Nat} (hX : ∀ v ∈ X,v < 256) (hy : ∀ j,j < 4 → y j < 256) : damB X y I 4 j < 256:=by
  unfold damB
  split
  · exact Nat.xor_lt_two_pow (n:=8) (getD_lt hX j) (hy _ (by omega))
  · exact getD_lt hX j
theorem dam_file {w : World} {g L cap I : Nat} {X : List Nat} {y : Nat → Nat} (h : OwnB w g L cap (fun j=>((damB X y I 4 j : Nat) : Int))) (hX : ∀ v ∈ X,v < 256) (hy : ∀ j,j < 4 → y j < 256) : FileAt w (some ⟨g,0,none⟩) L ((List.range L).map (damB X y I 4)):=by
  refine ⟨by simp,fun v hv=>?_,?_⟩
  · obtain ⟨j, -,rfl⟩:=List.mem_map.1 hv
    exact damB_lt hX hy
  · rcases h.at with h0 | ⟨b,o,e,hc⟩
    · exact .inl h0
    · exact .inr ⟨b,o,e,fun j hj=>by simp only [damL_get hj];exact hc j hj⟩
theorem file_take {w : World} {b o n k : Nat} {X : List Nat} (h : FileAt w (some ⟨b,o,none⟩) n X) (hk : k ≤ n) : FileAt w (some ⟨b,o,none⟩) k (X.take k):=by
  refine ⟨by rw [List.length_take,h.1];omega,fun v hv=>h.2.1 v (List.mem_of_mem_take hv),.inr ⟨b,o,rfl,fun j hj=>?_⟩⟩
  have e : (X.take k).getD j 0 = X.getD j 0:=by simp [List.getD,List.getElem?_take,hj]
  simp only [e]
  rcases h.2.2 with ⟨h0,-⟩ | ⟨b',o',e',hc⟩
  · cases h0
  · cases e'
    exact hc j (by omega)
def nbV (v : Nat) : Value:=.int .u8 (v : Int)
theorem file_us {w : World} {b o n : Nat} {X : List Nat} (h : FileAt w (some ⟨b,o,none⟩) n X) : ∀ j u,(X.map nbV)[j]? = some u → w.cell? ((⟨b,o,none⟩ : Addr).add j) = some u:=fun j u hj=>by
  have hjn : j < n:=by
    rw [← h.1]
    have:=(List.getElem?_eq_some_iff.1 hj).1
    rwa [List.length_map] at this
  rw [cell_add]
  rcases h.2.2 with ⟨h0,-⟩ | ⟨b',o',e',hc⟩
  · cases h0
  · cases e'
    rw [hc j hjn]
    have hjX : j < X.length:=by rw [h.1];exact hjn
    rw [List.getElem?_map,List.getElem?_eq_getElem hjX] at hj
    simp only [List.getD,List.getElem?_eq_getElem hjX,Option.getD_some]
    exact hj
theorem us_one (X : List Nat) : ∀ u ∈ X.map nbV,u.oneCell' = true:=fun u hu=>by
  obtain ⟨j,_,rfl⟩:=List.mem_map.1 hu
  rfl
theorem oct_file {w w' : World} {e : Ending} {X Z : List Nat} (h : OCtR (X.map nbV ++ Z.map nbV) w e w') (hX : ∀ v ∈ X,v < 256) (hZ : ∀ v ∈ Z,v < 256) :
    ∃ g cap,e = .returned (.slice (some ⟨g,0,none⟩) (X ++ Z).length cap) ∧ (X ++ Z).length ≤ cap ∧ FileAt w' (some ⟨g,0,none⟩) (X ++ Z).length (X ++ Z) ∧ Below w.heap.size w w':=by
  obtain ⟨g,cap,rfl,h1,h2,h3,h4⟩:=h
  have hl : (X.map nbV ++ Z.map nbV).length = (X ++ Z).length:=by simp
  rw [hl] at h1
  refine ⟨g,cap,by rw [hl],h1,⟨rfl,fun v hv=>?_,.inr ⟨g,0,rfl,fun j hj=>?_⟩⟩,h4⟩
  · rcases List.mem_append.1 hv with hv | hv
    · exact hX v hv
    · exact hZ v hv
  · rw [Nat.zero_add]
    refine h3 j _ ?_
    rw [← List.map_append,List.getElem?_map,List.getElem?_eq_getElem hj]
    simp only [List.getD,List.getElem?_eq_getElem hj,Option.getD_some]
    rfl
theorem madeCells_get (N j : Nat) (hj : j < N) : (madeCells #[Value.int .u8 0] N)[j]? = some (.int .u8 0):=by
  unfold madeCells
  simp [hj,Nat.mod_one]
set_option maxRecDepth 100000 in
set_option maxHeartbeats 8000000 in
theorem damage_calls {w : World} {v : Value} {o : ObjT} {C : SecT → ByteArray} (h : ObjAt w v o) (hR : o.R) (hC : ∀ x ∈ o.secs,SecIn w x.ba x.bn (C x)) {ia ic y0 y1 y2 y3 : Int} (hia : inI64 ia) (hic : inI64 ic) (hy0 : InB y0) (hy1 : InB y1) (hy2 : InB y2) (hy3 : InB y3)
    {aa ab ac : Option Addr} {na nb nc ca cb cc : Nat} {la lb lc : List Nat} (ha : FileAt w aa na la) (hb : FileAt w ab nb lb) (hc : FileAt w ac nc lc) (hna : na ≤ ca) (hnb : nb ≤ cb) (hnc : nc ≤ cc) (hca : ca ≤ 140737488351232) (hcb : cb ≤ 140737488351232) (hcc : cc ≤ 140737488351232) :
    Calls Tryz.prog 8 #[v,.int .i64 ia,.agg #[.int .u8 y0,.int .u8 y1,.int .u8 y2,.int .u8 y3],.int .i64 ic,.slice aa na ca,.slice ab nb cb,.slice ac nc cc] w (TrueC w):=by
  obtain ⟨s1,s2,s3,s4,s5,rfl,-⟩:=id h
  obtain ⟨W,hW⟩ : ∃ W,W = (w.alloc (.cells #[s1,s2,s3,s4,s5] 28)).alloc (.cells #[.int .u8 y0,.int .u8 y1,.int .u8 y2,.int .u8 y3] 57):=⟨_,rfl⟩
  have hbW : Below w.heap.size w W:=by rw [hW];exact (one_below _ _).alloc (by simp) _
  have hB1 : W.heap[w.heap.size]? = some (.cells #[s1,s2,s3,s4,s5] 28 (0,0)):=by rw [hW];exact ((one_below _ _).block _ (by simp)).trans (heap_alloc_new w _)
  have hB2 : W.heap[w.heap.size + 1]? = some (.cells #[.int .u8 y0,.int .u8 y1,.int .u8 y2,.int .u8 y3] 57 (0,0)):=by rw [hW];have:=heap_alloc_new (w.alloc (.cells #[s1,s2,s3,s4,s5] 28)) (.cells #[.int .u8 y0,.int .u8 y1,.int .u8 y2,.int .u8 y3] 57);rwa [World.size_alloc] at this
  have hWl : w.heap.size + 1 < W.heap.size:=by rw [hW,World.size_alloc,World.size_alloc];omega
  have up : ∀ W',Below W.heap.size W W' → Below w.heap.size w W':=fun W' hW'=>hbW.trans (hW'.mono (by omega))
  have cells : ∀ W',Below W.heap.size W W' → W'.cell? ⟨w.heap.size,0,none⟩ = some s1 ∧ W'.cell? ⟨w.heap.size,1,none⟩ = some s2 ∧ W'.cell? ⟨w.heap.size,2,none⟩ = some s3 ∧ W'.cell? ⟨w.heap.size,3,none⟩ = some s4 ∧ W'.cell? ⟨w.heap.size,4,none⟩ = some s5:=fun W' hW'=>by
    have e1:=(hW'.block _ (show w.heap.size < W.heap.size by omega)).trans hB1
    refine ⟨?_,?_,?_,?_,?_⟩ <;> simp [World.cell?,e1]
  have cellsY : ∀ W',Below W.heap.size W W' → W'.cell? ⟨w.heap.size + 1,0,none⟩ = some (.int .u8 y0) ∧ W'.cell? ⟨w.heap.size + 1,1,none⟩ = some (.int .u8 y1) ∧ W'.cell? ⟨w.heap.size + 1,2,none⟩ = some (.int .u8 y2) ∧ W'.cell? ⟨w.heap.size + 1,3,none⟩ = some (.int .u8 y3):=fun W' hW'=>by
    have e1:=(hW'.block _ hWl).trans hB2
    refine ⟨?_,?_,?_,?_⟩ <;> simp [World.cell?,e1]
  have hsm:=fun W' (hW' : Below W.heap.size W W')=>small_b (h.below (up W' hW')) hR
  have hpb:=fun W' (hW' : Below W.heap.size W W')=>pbytes_c (h.below (up W' hW')) hR (fun x hx=>(hC x hx).below (up W' hW'))
  have hsz : ∀ x ∈ o.secs,(C x).size = x.bn:=fun x hx=>secIn_size (hC x hx)
  have hW0:=Below.refl W.heap.size W
  obtain ⟨N,hN⟩ : ∃ N : Nat,N = min (min (min na nb) nc) 3000:=⟨_,rfl⟩
  have n1 : N ≤ na:=by omega
  have n2 : N ≤ nb:=by omega
  have n3 : N ≤ nc:=by omega
  have n4 : N ≤ 3000:=by omega
  have hNi : min (min (min (na : Int) (nb : Int)) (nc : Int)) 3000 = (N : Int):=by omega
  have hmin:=fun W=>run_min_int4 Tryz.prog W #[3,3,3,3] 3 (na : Int) (nb : Int) (nc : Int) 3000 (N : Int) hNi.symm
  obtain ⟨i0,hi0,hz0,hz1,hz2⟩:=info_parts info5
  have hmk:=fun W=>run_makeSlice_d (w:=W) (N:=N) (by omega)
  clear hB1 hB2
  replace hN:=Lib.hid hN
  go_enter Tryz.func8,Tryz.ntmps8
  go_wp2_with fail
  rw [← hW]
  clear hW
  refine (sane_calls _).mono ?_
  rintro e w1 ⟨rfl,hb1⟩
  go_wp2_with fail
  obtain ⟨D,hD⟩ : ∃ D,D = w1.heap.size:=⟨_,rfl⟩
  obtain ⟨x,hx⟩ : ∃ x : Nat → Nat,x = fun j=>la.getD j 0 ^^^ lb.getD j 0 ^^^ lc.getD j 0:=⟨_,rfl⟩
  have hWD : W.heap.size ≤ D:=by rw [hD];exact hb1.size
  have hb1n : Below D w1 (w1.alloc (.cells (madeCells #[Value.int .u8 0] N) 5)):=by rw [hD];exact one_below _ _
  have hD0 : DAt (w1.alloc (.cells (madeCells #[Value.int .u8 0] N) 5)) D N 0 x:=⟨_,by rw [hD];exact heap_alloc_new w1 _,size_madeCells _ _,fun j hj=>⟨0,madeCells_get N j hj⟩,fun j hj=>by omega⟩
  rw [← hD]
  replace hx:=Lib.hid hx
  replace hD:=Lib.hid hD
  go_loopg [39] N (fun gn i wr=>∃ k : Nat,gn + k = N ∧ k ≤ N ∧ i = .int .i64 k ∧ Below D w1 wr ∧ DAt wr D N k x)
  case atStart=>exact ⟨0,by omega,by omega,rfl,hb1n,hD0⟩
  case round =>
    obtain ⟨k,hgk,hk,rfl,hbk,hDk⟩:=hrel
    clear hb1n hD0
    by_cases hlt : k < N
    · have hlt' : (k : Int) < (N : Int):=by omega
      have hbk2 : Below w.heap.size w wr:=up _ (hb1.trans (hbk.mono hWD))
      obtain ⟨A1,o1,rfl,hca1⟩:=fileAt_some ha (by omega)
      obtain ⟨A2,o2,rfl,hcb1⟩:=fileAt_some hb (by omega)
      obtain ⟨A3,o3,rfl,hcc1⟩:=fileAt_some hc (by omega)
      have ka:=(hbk2.cell (low_of_cell (hca1 k (by omega)))).trans (hca1 k (by omega))
      have kb:=(hbk2.cell (low_of_cell (hcb1 k (by omega)))).trans (hcb1 k (by omega))
      have kc:=(hbk2.cell (low_of_cell (hcc1 k (by omega)))).trans (hcc1 k (by omega))
      have va:=getD_lt ha.2.1 k
      have vb:=getD_lt hb.2.1 k
      have vc:=getD_lt hc.2.1 k
      have hxk : x k = la.getD k 0 ^^^ lb.getD k 0 ^^^ lc.getD k 0:=by rw [hx.out]
      generalize la.getD k 0 = va0 at ka va hxk
      generalize lb.getD k 0 = vb0 at kb vb hxk
      generalize lc.getD k 0 = vc0 at kc vc hxk
      have e1:=u8_xor_nat va0 vb0 va vb
      have e2:=u8_xor_nat (va0 ^^^ vb0) vc0 (Nat.xor_lt_two_pow (n:=8) va vb) vc
      rw [← hxk] at e2
      obtain ⟨cur,hcur,hcs,hcz,hcx⟩:=id hDk
      obtain ⟨z,hz⟩:=hcz k hlt
      have kd : wr.cell? ⟨D,k,none⟩ = some (.int .u8 z):=by simp [World.cell?,hcur,hz]
      have kf : wr.frozen? ⟨D,k,none⟩ = false:=by simp [World.frozen?,hcur]
      have kd2 : wr.drew.cell? ⟨D,k,none⟩ = some (.int .u8 z):=kd
      have kf2 : wr.drew.frozen? ⟨D,k,none⟩ = false:=kf
      have q1 : A1 ≠ D:=by have:=low_of_cell (hca1 k (by omega));have:=hbW.size;dsimp only at *;omega
      have q2 : A2 ≠ D:=by have:=low_of_cell (hcb1 k (by omega));have:=hbW.size;dsimp only at *;omega
      have q3 : A3 ≠ D:=by have:=low_of_cell (hcc1 k (by omega));have:=hbW.size;dsimp only at *;omega
      have q4:=Ne.symm q1
      have q5:=Ne.symm q2
      have q6:=Ne.symm q3
      have i1 : (k : Int) < (na : Int):=by omega
      have i2 : (k : Int) < (nb : Int):=by omega
      have i3 : (k : Int) < (nc : Int):=by omega
      have hDk2 : DAt wr.drew D N k x:=hDk
      have hbk3 : Below D w1 wr.drew:=hbk.drew
      replace hDk2:=Lib.hid hDk2
      clear hDk
      clear hxk hcur hcs hcz hcx hz hca1 hcb1 hcc1 va vb vc
      go_wp2_with fail
      go_still_tail 17,(by kernel_rfl)
      change wpList _ _ _ _ _ wr.drew
      generalize wr.drew = w2 at *
      clear hbk hbk2
      go_wp2
      go_roundg (gk - 1)
      case measure=>omega
      case rel=>exact ⟨k + 1,by omega,by omega,by go_num,hbk3.setCell (p:=⟨D,k,none⟩) (Nat.le_refl _) _,hDk2.out.step hlt⟩
    · obtain rfl : k = N:=by omega
      have hkk : ¬ (k : Int) < (k : Int):=by omega
      have hbk2 : Below W.heap.size W wr:=hb1.trans (hbk.mono hWD)
      have hFD : ∀ W',Below wr.heap.size wr W' → BytesAt W' (some ⟨D,0,none⟩) k (fun j=>((x j : Nat) : Int)):=fun W' hW'=>hDk.bytes hW'
      clear hDk
      have sq : ∀ (ad : Option Addr) (n' : Nat) (l : List Nat),FileAt w ad n' l → k ≤ n' → ∀ m c2,Calls Tryz.prog 24 #[.slice ad k c2] (wr.drewN m) (fun e w'=>e = .returned (.int .u32 (sumV (fun j=>((l.getD j 0 : Nat) : Int)) k)) ∧ w' = wr.drewN m):=fun ad n' l hf hkn m c2=>by
        have h2:=(hf.below (up _ hbk2)).2.2
        refine psum_c (w:=wr.drewN m) ?_ (InB_nat hf.2.1) (by omega)
        rcases h2 with ⟨rfl,h0⟩ | ⟨b',o',rfl,hc'⟩
        · exact .inl ⟨rfl,by omega⟩
        · exact .inr ⟨b',o',rfl,fun j hj=>hc' j (by omega)⟩
      have sa:=fun m c2=>Calls.quiet_of_same (sq aa na la ha n1 m c2)
      have sb:=fun m c2=>Calls.quiet_of_same (sq ab nb lb hb n2 m c2)
      have sc:=fun m c2=>Calls.quiet_of_same (sq ac nc lc hc n3 m c2)
      have hx256 : ∀ j,x j < 256:=fun j=>by rw [hx.out];exact Nat.xor_lt_two_pow (n:=8) (Nat.xor_lt_two_pow (n:=8) (getD_lt ha.2.1 j) (getD_lt hb.2.1 j)) (getD_lt hc.2.1 j)
      have sd:=fun m c2=>Calls.quiet_of_same (psum_c (w:=wr.drewN m) (c:=c2) (hFD _ (below_drewN (Below.refl _ _) m)) (fun j=>(by have:=hx256 j;unfold InB;omega : InB ((x j : Nat) : Int))) (by omega))
      have hs3:=sum3 (getD_lt ha.2.1) (getD_lt hb.2.1) (getD_lt hc.2.1) k
      have hxe : sumV (fun j=>((x j : Nat) : Int)) k = sumV (fun j=>((la.getD j 0 ^^^ lb.getD j 0 ^^^ lc.getD j 0 : Nat) : Int)) k:=by rw [hx.out]
      rw [← hxe] at hs3
      generalize sumV (fun j=>((x j : Nat) : Int)) k = SD at sd hs3
      generalize sumV (fun j=>((la.getD j 0 : Nat) : Int)) k = SA at sa hs3
      generalize sumV (fun j=>((lb.getD j 0 : Nat) : Int)) k = SB at sb hs3
      generalize sumV (fun j=>((lc.getD j 0 : Nat) : Int)) k = SC at sc hs3
      have hs4 : bits .xor .u32 (bits .xor .u32 SA SB) SC = SD:=hs3.symm
      have hs5 : (SD != SD) = false:=by simp
      have j1 : (k : Int) ≤ (ca : Int):=by omega
      have j2 : (k : Int) ≤ (cb : Int):=by omega
      have j3 : (k : Int) ≤ (cc : Int):=by omega
      clear hxe hs3 sq
      go_wp2_with fail
      go_quiet (first | (go_at_call 24;with_reducible exact sd _ _) | (go_at_call 24;with_reducible exact sa _ _) | (go_at_call 24;with_reducible exact sb _ _) | (go_at_call 24;with_reducible exact sc _ _))
      have hBq:=below_drewN hbk2 nq
      obtain ⟨p0,p1,p2,p3,p4⟩:=cells _ hBq
      clear sa sb sc sd hs4 hs5 hFD hx256
      go_wp2_with fail
      refine (hsm _ hBq).mono ?_
      rintro e w2 ⟨r,rfl,hb2⟩
      have hB2:=bel_then hBq (Nat.le_refl _) hb2
      cases r with
      | false =>
        go_wp2
        go_ret
        exact ⟨rfl,up _ hB2⟩
      | true =>
      obtain ⟨r0,r1,r2,r3,r4⟩:=cells _ hB2
      clear p0 p1 p2 p3 p4
      go_wp2_with fail
      refine (hpb _ hB2).mono ?_
      rintro e w3 ⟨hb3,hbr⟩
      have hB3:=bel_then hB2 (Nat.le_refl _) hb3
      clear r0 r1 r2 r3 r4
      rcases hbr with ⟨hno,rfl⟩ | ⟨hok,v3,rfl,hown⟩
      · go_wp2
        go_ret
        exact ⟨rfl,up _ hB3⟩
      obtain ⟨va3,vc3,rfl⟩:=own_shape hown
      have hin3:=fileL_in (C:=C) hok
      have hlen3:=fileL_len hok hR hsz
      have hge3:=fileL_ge o C
      have hcap3:=own_capped hown
      have hF3:=fileAt_row hown hin3
      have hok3:=objF_fwd hok hR hsz
      obtain ⟨L,hL⟩ : ∃ L,L = (fileL o C).length:=⟨_,rfl⟩
      obtain ⟨X,hX⟩ : ∃ X,X = toN (fileL o C):=⟨_,rfl⟩
      rw [← hL] at hlen3 hge3 hcap3 hF3
      rw [← hX] at hF3 hok3
      rw [← hL]
      clear hL hX hown hin3
      replace hok3:=Lib.hid hok3
      obtain ⟨b3,o3,rfl,hc3⟩:=fileAt_some hF3 (by omega)
      have l5 : ¬ (L : Int) < 5:=by omega
      obtain ⟨I,hI4,hIm,q0,q1,q2,q3⟩:=idx_fact ia (L:=L) (by omega) (by omega)
      replace hI4:=Lib.hid hI4
      replace q0:=Lib.hid q0
      replace q1:=Lib.hid q1
      replace q2:=Lib.hid q2
      replace q3:=Lib.hid q3
      have hcl:=clone_some (w:=w3) (b:=b3) (o:=o3) (n:=L) (cap:=vc3) (q:=fun j=>((X.getD j 0 : Nat) : Int)) (by omega) hc3
      go_wp2_with fail
      rw [hIm]
      clear hIm
      refine hcl.mono ?_
      rintro e w4 ⟨g,cap,rfl,hg,hob,hb4⟩
      replace hI4:=hI4.out
      have hB4:=bel_then hB3 (Nat.le_refl _) hb4
      have hX256:=hF3.2.1
      clear hcl hc3
      obtain ⟨y,hy⟩ : ∃ y : Nat → Nat,y = fun j=>[y0.toNat,y1.toNat,y2.toNat,y3.toNat].getD j 0:=⟨_,rfl⟩
      have hyk : ∀ j,j < 4 → #[Value.int .u8 y0,.int .u8 y1,.int .u8 y2,.int .u8 y3][j]? = some (.int .u8 ((y j : Nat) : Int)) ∧ y j < 256:=fun j hj=>by
        unfold InB at hy0 hy1 hy2 hy3
        rcases (show j = 0 ∨ j = 1 ∨ j = 2 ∨ j = 3 by omega) with rfl | rfl | rfl | rfl
        · rw [hy];exact ⟨by simp;omega,by show y0.toNat < 256;omega⟩
        · rw [hy];exact ⟨by simp;omega,by show y1.toNat < 256;omega⟩
        · rw [hy];exact ⟨by simp;omega,by show y2.toNat < 256;omega⟩
        · rw [hy];exact ⟨by simp;omega,by show y3.toNat < 256;omega⟩
      replace hy:=Lib.hid hy
      have hob0 : OwnB w4 g L cap (fun j=>((damB X y I 0 j : Nat) : Int)):=by
        have e : (fun j=>((damB X y I 0 j : Nat) : Int)) = (fun j=>((X.getD j 0 : Nat) : Int)):=by
          funext j
          unfold damB
          rw [if_neg (by omega)]
        rw [e]
        exact hob
      clear hob
      go_wp2_with fail
      go_loopg [105] 4 (fun gn i wr=>∃ k : Nat,gn + k = 4 ∧ k ≤ 4 ∧ i = .int .i64 k ∧ Below w3.heap.size w3 wr ∧ OwnB wr g L cap (fun j=>((damB X y I k j : Nat) : Int)))
      case atStart=>exact ⟨0,by omega,by omega,rfl,hb4,hob0⟩
      case round =>
        obtain ⟨m,hgm,hm,rfl,hbm,hom⟩:=hrel
        clear hob0
        by_cases hlt : m < 4
        · have hlt' : (m : Int) < 4:=by omega
          obtain ⟨hy1',hy2'⟩:=hyk m hlt
          have hix:=fun W=>run_index57 W _ _ _ _ m _ hy1'
          have hjl : I + m < L:=by omega
          have hjI : (I : Int) + (m : Int) < (L : Int):=by omega
          have hxv:=u8_xor_nat (X.getD (I + m) 0) (y m) (getD_lt hX256 (I + m)) hy2'
          have hom2:=hom.dam hjl
          have hxl:=Nat.xor_lt_two_pow (n:=8) (getD_lt hX256 (I + m)) hy2'
          obtain ⟨cur,hcur,hc1,hc2,hcs,hcv⟩:=id hom
          have hcd : cur[I + m]? = some (.int .u8 ((damB X y I m (I + m) : Nat) : Int)):=hcv (I + m) hjl
          have hdm : damB X y I m (I + m) = X.getD (I + m) 0:=by unfold damB;rw [if_neg (by omega)]
          rw [hdm] at hcd
          have kd : wr.cell? ⟨g,I + m,none⟩ = some (.int .u8 ((X.getD (I + m) 0 : Nat) : Int)):=by simp [World.cell?,hcur,hcd]
          have kf : wr.frozen? ⟨g,I + m,none⟩ = false:=by simp [World.frozen?,hcur]
          have htn : ((I : Int) + (m : Int)).toNat = I + m:=by omega
          replace hom2:=Lib.hid hom2
          clear hcur hc1 hc2 hcs hcv hcd hdm hom hyk hy1'
          generalize X.getD (I + m) 0 = xv at *
          generalize y m = yv at *
          generalize xv ^^^ yv = xy at *
          replace hix:=Lib.hid hix
          go_wp2_with fail
          replace hix:=hix.out
          go_simp
          iterate 10 go_step
          go_wp2
          go_roundg (gk - 1)
          case measure=>omega
          case rel=>exact ⟨m + 1,by omega,by omega,by go_num,hbm.setCell (p:=⟨g,I + m,none⟩) hg _,hom2.out⟩
        · obtain rfl : m = 4:=by omega
          have hfY:=dam_file hom hX256 (fun j hj=>(hyk j hj).2)
          have hfX:=hF3.below hbm
          have hYl : ((List.range L).map (damB X y I 4)).length = X.length:=by rw [hfY.1,hfX.1]
          have hYs : ∀ j,j < X.length → (j < I ∨ I + 4 ≤ j) → X.getD j 0 = ((List.range L).map (damB X y I 4)).getD j 0:=fun j hj ho=>by
            rw [hfX.1] at hj
            rw [damL_get hj]
            unfold damB
            rw [if_neg (by omega)]
          have hYb:=fun hne=>burst_no hfX.2.1 hfY.2.1 hok3.out hYl (by rw [hfX.1];exact hI4) hYs hne
          generalize (List.range L).map (damB X y I 4) = Y at *
          have hLc : L ≤ cap:=by obtain ⟨_,_,h,_⟩:=hom;exact h
          have hLc2 : cap ≤ 140737488351232 ∨ True:=.inr trivial
          obtain ⟨J,hJL,hJe⟩:=idx_cut ic (L:=L) (by omega) (by omega)
          replace hJe:=Lib.hid hJe
          have l6 : ¬ (L : Int) = 0:=by omega
          have hBr:=hB3.trans (hbm.mono hB3.size)
          clear hom hyk hYs hYl hLc2
          by_cases hXY : X = Y
          · go_wp2_with fail
            refine (bequal hfX.2.2 (by rw [hXY];exact hfY.2.2)).mono ?_
            rintro e w5 ⟨rfl,rfl⟩
            have hfX5:=hfX
            have hBr5:=hBr
            dsimp only
            repeat (fail_if_success (with_reducible show Code.wp _ (Code.seq (Code.region 28 _ _) _) _ _ _));go_step
            rw [hJe.out]
            clear hJe
            have hJc : (J : Int) ≤ (vc3 : Int):=by omega
            have hfJ:=file_take hfX5 (k:=J) (by omega)
            obtain ⟨eJ,heJ⟩:=cut_no hfX5.2.1 hok3.out (k:=J) (by rw [hfX5.1];exact hJL)
            by_cases hk0 : k = 0
            · have hk0' : ((k : Int) == 0) = true:=by simp [hk0]
              have hk0'' : (k : Int) = 0:=by omega
              go_wp2_with fail
              refine (refused_c hfJ (by omega) (by omega) heJ).mono ?_
              rintro e w6 ⟨rfl,hb6⟩
              have hB6:=bel_then hBr5 (Nat.le_refl _) hb6
              go_wp2
              go_ret
              exact ⟨rfl,up _ hB6⟩
            · have hk0' : ¬ (k : Int) = 0:=by omega
              obtain ⟨M,hM⟩ : ∃ M : Nat,M = min k 50:=⟨_,rfl⟩
              have hmin2:=fun W=>run_min_int2 Tryz.prog W #[3,3] 3 (k : Int) 50 (M : Int) (by omega)
              obtain ⟨A1,o1,hA1,hcA⟩:=fileAt_some ha (by omega)
              subst hA1
              have hMc : (M : Int) ≤ (ca : Int):=by omega
              go_wp2_with fail
              refine (refused_c hfJ (by omega) (by omega) heJ).mono ?_
              rintro e w6 ⟨rfl,hb6⟩
              have hB6:=bel_then hBr5 (Nat.le_refl _) hb6
              go_wp2_with fail
              rw [← hM]
              have hB7:=bel_then hB6 (Nat.le_refl _) (one_below w6 (.cells #[.slice (some ⟨b3,o3,none⟩) L vc3,.slice (some ⟨A1,o1,none⟩) M ca] 34))
              have hfX7:=(hfX5.below hb6).below (one_below w6 (.cells #[.slice (some ⟨b3,o3,none⟩) L vc3,.slice (some ⟨A1,o1,none⟩) M ca] 34))
              have hfZ7:=file_take (ha.below (up _ hB7)) (k:=M) (by omega)
              obtain ⟨e8,he8⟩:=ext_no hfX7.2.1 hfZ7.2.1 hok3.out (z:=la.take M) (fun e=>by have:=hfZ7.1;rw [e] at this;simp at this;omega)
              have hl8 : (X ++ la.take M).length ≤ 140737488351232:=by rw [List.length_append,hfX7.1,hfZ7.1];omega
              refine (oconcat (c1:=vc3) (c2:=ca) (new_cell w6 #[.slice (some ⟨b3,o3,none⟩) L vc3,.slice (some ⟨A1,o1,none⟩) M ca] 34 0 _ rfl) (new_cell w6 #[.slice (some ⟨b3,o3,none⟩) L vc3,.slice (some ⟨A1,o1,none⟩) M ca] 34 1 _ rfl) (us1:=X.map nbV) (us2:=(la.take M).map nbV) (by rw [List.length_map];exact hfX7.1) (by rw [List.length_map];exact hfZ7.1) (by omega) (by omega) (file_us hfX7) (file_us hfZ7) (us_one _) (us_one _)).mono ?_
              rintro e w8 h8
              obtain ⟨g8,cap8,rfl,hcap8,hf8,hb8⟩:=oct_file h8 hfX7.2.1 hfZ7.2.1
              clear h8 hfX7 hfZ7
              generalize X ++ la.take M = Z8 at *
              go_wp2_with fail
              refine (refused_c hf8 hcap8 hl8 he8).mono ?_
              rintro e w9 ⟨rfl,hb9⟩
              go_wp2
              go_ret
              exact ⟨rfl,up _ (bel_then (bel_then hB7 (Nat.le_refl _) hb8) (Nat.le_refl _) hb9)⟩
          · obtain ⟨er,her⟩:=hYb hXY
            go_wp2_with fail
            refine (bequal_ne hfX hfY hXY).mono ?_
            rintro e w5 ⟨rfl,rfl⟩
            go_wp2_with fail
            refine (refused_c hfY hLc (by omega) her).mono ?_
            rintro e w5b ⟨rfl,hb5⟩
            have hfX5:=hfX.below hb5
            have hBr5:=bel_then hBr (Nat.le_refl _) hb5
            dsimp only
            repeat (fail_if_success (with_reducible show Code.wp _ (Code.seq (Code.region 28 _ _) _) _ _ _));go_step
            rw [hJe.out]
            clear hJe
            have hJc : (J : Int) ≤ (vc3 : Int):=by omega
            have hfJ:=file_take hfX5 (k:=J) (by omega)
            obtain ⟨eJ,heJ⟩:=cut_no hfX5.2.1 hok3.out (k:=J) (by rw [hfX5.1];exact hJL)
            by_cases hk0 : k = 0
            · have hk0' : ((k : Int) == 0) = true:=by simp [hk0]
              have hk0'' : (k : Int) = 0:=by omega
              go_wp2_with fail
              refine (refused_c hfJ (by omega) (by omega) heJ).mono ?_
              rintro e w6 ⟨rfl,hb6⟩
              have hB6:=bel_then hBr5 (Nat.le_refl _) hb6
              go_wp2
              go_ret
              exact ⟨rfl,up _ hB6⟩
            · have hk0' : ¬ (k : Int) = 0:=by omega
              obtain ⟨M,hM⟩ : ∃ M : Nat,M = min k 50:=⟨_,rfl⟩
              have hmin2:=fun W=>run_min_int2 Tryz.prog W #[3,3] 3 (k : Int) 50 (M : Int) (by omega)
              obtain ⟨A1,o1,hA1,hcA⟩:=fileAt_some ha (by omega)
              subst hA1
              have hMc : (M : Int) ≤ (ca : Int):=by omega
              go_wp2_with fail
              refine (refused_c hfJ (by omega) (by omega) heJ).mono ?_
              rintro e w6 ⟨rfl,hb6⟩
              have hB6:=bel_then hBr5 (Nat.le_refl _) hb6
              go_wp2_with fail
              rw [← hM]
              have hB7:=bel_then hB6 (Nat.le_refl _) (one_below w6 (.cells #[.slice (some ⟨b3,o3,none⟩) L vc3,.slice (some ⟨A1,o1,none⟩) M ca] 34))
              have hfX7:=(hfX5.below hb6).below (one_below w6 (.cells #[.slice (some ⟨b3,o3,none⟩) L vc3,.slice (some ⟨A1,o1,none⟩) M ca] 34))
              have hfZ7:=file_take (ha.below (up _ hB7)) (k:=M) (by omega)
              obtain ⟨e8,he8⟩:=ext_no hfX7.2.1 hfZ7.2.1 hok3.out (z:=la.take M) (fun e=>by have:=hfZ7.1;rw [e] at this;simp at this;omega)
              have hl8 : (X ++ la.take M).length ≤ 140737488351232:=by rw [List.length_append,hfX7.1,hfZ7.1];omega
              refine (oconcat (c1:=vc3) (c2:=ca) (new_cell w6 #[.slice (some ⟨b3,o3,none⟩) L vc3,.slice (some ⟨A1,o1,none⟩) M ca] 34 0 _ rfl) (new_cell w6 #[.slice (some ⟨b3,o3,none⟩) L vc3,.slice (some ⟨A1,o1,none⟩) M ca] 34 1 _ rfl) (us1:=X.map nbV) (us2:=(la.take M).map nbV) (by rw [List.length_map];exact hfX7.1) (by rw [List.length_map];exact hfZ7.1) (by omega) (by omega) (file_us hfX7) (file_us hfZ7) (us_one _) (us_one _)).mono ?_
              rintro e w8 h8
              obtain ⟨g8,cap8,rfl,hcap8,hf8,hb8⟩:=oct_file h8 hfX7.2.1 hfZ7.2.1
              clear h8 hfX7 hfZ7
              generalize X ++ la.take M = Z8 at *
              go_wp2_with fail
              refine (refused_c hf8 hcap8 hl8 he8).mono ?_
              rintro e w9 ⟨rfl,hb9⟩
              go_wp2
              go_ret
              exact ⟨rfl,up _ (bel_then (bel_then hB7 (Nat.le_refl _) hb8) (Nat.le_refl _) hb9)⟩
end Go.Ev

