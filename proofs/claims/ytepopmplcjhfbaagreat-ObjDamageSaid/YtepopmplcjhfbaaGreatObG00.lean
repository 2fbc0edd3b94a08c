import Derived.Deep.Slices
import Derived.SizedLaws
import Derived.Below
import Derived.WalkKit
import Derived.ProofKit
import Derived.OpenShut
import Derived.Carry
import Derived.Test.YtepopmplcjhfbaaGreatEvZc
import Derived.KernelRfl
import Derived.Test.YtepopmplcjhfbaaGreatProg
import Derived.LoopN
import Derived.Outline
import Derived.Laws.AppendOwnNone
import Derived.Laws.BytesString
import Derived.Deep.QuietTactic
import Derived.BigQuiet
import Derived.WalkSpells
import Derived.Lib.SmallJoins
import Derived.LoopTactic
import Derived.Lib.Hide
import Derived.IntWalk
import Derived.Deep.RegionHeld3
import Derived.Deep.RegionWith
import Derived.Lib.QuietBelow
import Derived.Shelf.Abstract
set_option linter.unusedSectionVars false
set_option linter.unusedVariables false
set_option linter.unusedSimpArgs false
set_option linter.unnecessarySimpa false
namespace Go.Rw
open Go.ChangeShapes Go.WideShapes Go.ChangeAt Go.RowKit Go.Deep
theorem low_of {w : World} {a : Addr} {v : Value} (h : w.cell? a = some v) : a.block < w.heap.size:=by
  rcases Nat.lt_or_ge a.block w.heap.size with h' | h'
  · exact h'
  · simp [World.cell?,Array.getElem?_eq_none h'] at h
theorem add_at (b o j : Nat) : (⟨b,o,none⟩ : Addr).add j = ⟨b,o + j,none⟩:=by
  unfold Addr.add
  by_cases h : j = 0
  · subst h;rfl
  · rw [if_neg h]
def RowsAt {α : Type} (W : World) (s : Value) (f : α → List Value) (size : Nat) (l : List α) : Prop :=
  ∃ a c,s = .slice a l.length c ∧ (l = [] ∨ ∃ b o,a = some ⟨b,o,none⟩ ∧ ∀ (k : Nat) (x : α),l[k]? = some x → ∀ (j : Nat) (u : Value),(f x)[j]? = some u → W.cell? ⟨b,o + k * size + j,none⟩ = some u)
theorem RowsAt.below {α : Type} {W W' : World} {s : Value} {f : α → List Value} {size : Nat} {l : List α} (h : RowsAt W s f size l) (hb : Below W.heap.size W W') : RowsAt W' s f size l:=by
  obtain ⟨a,c,rfl,h1⟩:=h
  refine ⟨a,c,rfl,?_⟩
  rcases h1 with h1 | ⟨b,o,rfl,h4⟩
  · exact .inl h1
  · exact .inr ⟨b,o,rfl,fun k x hk j u hj=>(hb.cell (low_of (h4 k x hk j u hj))).trans (h4 k x hk j u hj)⟩
theorem weights_all {H : Type} {P : Program} {e : TypeId} : ∀ {l : List (DataW H)} {d : DataW H},d ∈ l → ∀ k ∈ d.weights P e,k ∈ DataW.weightsAll P e l
  | [],_,h,_,_=>by cases h
  | x :: l,d,h,k,hk=>by
    unfold DataW.weightsAll
    rcases List.mem_cons.1 h with rfl | h
    · exact List.mem_append_left _ hk
    · exact List.mem_append_right _ (weights_all h k hk)
theorem weights_field {H : Type} {P : Program} {t : TypeId} {fs : Array Field} (ht : P.underlying t = some (.struct fs)) {parts : List (DataW H)} {i : Nat} {f : Field} {d : DataW H} (hf : fs[i]? = some f) (hd : parts[i]? = some d) : ∀ k ∈ d.weights P f.type,k ∈ (DataW.agg parts).weights P t:=by
  intro k hk
  unfold DataW.weights
  rw [ht]
  exact DataW.weights_mem_each (j:=i) (t:=f.type) (by simp only [List.getElem?_map,Array.getElem?_toList,hf];rfl) hd k hk
theorem open_rows {H : Type} {enc : TypeId × Value → H} {P : Program} {W : World} {t e : TypeId} {size : Nat} (ht : P.underlying t = some (.slice e)) (hc : P.cellsOf e = size) (hs : 0 < size) {α : Type} [Inhabited α] (f : α → List Value) (R : α → Prop) {fuel : Nat} {v : Value} {x : DataW H × List MemPlace}
    (h : DataW.trod enc P W 0 (fun _=>true) true fuel t [v] = some x) (hw : ∀ k ∈ x.1.weights P t,k ≤ reachBytes)
    (each : ∀ (n : Nat) (cs : List Value) (y : DataW H × List MemPlace),cs.length = size → DataW.trod enc P W 0 (fun _=>true) true n e cs = some y → (∀ k ∈ y.1.weights P e,k ≤ reachBytes) → ∃ x,cs = f x ∧ R x) :
    ∃ l : List α,RowsAt W v f size l ∧ (∀ x ∈ l,R x) ∧ l.length * P.bytesOf e ≤ reachBytes:=by
  rcases open_slice ht h with ⟨hcs,_⟩ | ⟨a,len,cap,m,n,D,Pl,hcs,_,hl,hm,hmm,rfl,hx⟩
  · obtain rfl : v = .slice none 0 0:=by simpa using hcs
    exact ⟨[],⟨none,0,rfl,.inl rfl⟩,fun x hx=>by simp at hx,by simp⟩
  · obtain rfl : v = .slice (some a) len cap:=by simpa using hcs
    simp only [if_true] at hmm
    subst hmm
    rw [hc] at hx
    have hw0:=hw
    simp only [DataW.weights,ht] at hw0
    have hbytes:=hw0 _ (List.mem_cons_self ..)
    simp only [List.length_map,List.length_range] at hbytes
    by_cases h0 : len = 0
    · subst h0
      exact ⟨[],⟨_,_,rfl,.inl rfl⟩,fun x hx=>by simp at hx,by simp⟩
    · have hsp : a.spot = none:=by
        obtain ⟨cs',h1,_⟩:=hx 0 (by omega)
        obtain ⟨_,hlen,hcell⟩:=World.cells?_some h1
        have:=hcell 0 hs
        rw [Nat.zero_mul,List.getElem?_eq_getElem (by omega)] at this
        have e : (a.add 0).add 0 = a:=by unfold Addr.add;simp
        rw [e] at this
        cases hsp : a.spot with
        | none=>rfl
        | some p =>
          unfold World.cell? at this
          split at this
          · rw [hsp] at this;cases this
          · cases this
      obtain ⟨blk,off,spot⟩:=a
      dsimp only at hsp
      subst hsp
      have eachi : ∀ i,i < len → ∃ x : α,R x ∧ ∀ (j : Nat) (u : Value),(f x)[j]? = some u → W.cell? ⟨blk,off + (i * size + j),none⟩ = some u:=by
        intro i hi
        obtain ⟨cs',h1,h2⟩:=hx i (by omega)
        obtain ⟨_,hlen,hcell⟩:=World.cells?_some h1
        obtain ⟨x,rfl,hr⟩:=each _ _ _ hlen h2 (fun k hk=>by
          exact hw0 k (List.mem_cons_of_mem _ (List.mem_append_left _ (weights_all (List.mem_map.2 ⟨i,List.mem_range.2 hi,rfl⟩) k hk))))
        refine ⟨x,hr,fun j u hj=>?_⟩
        have hj7 : j < size:=by have:=(List.getElem?_eq_some_iff.1 hj).1;omega
        have:=hcell j hj7
        rw [add_at,add_at,Nat.add_assoc] at this
        rw [this];exact hj
      obtain ⟨X,hX⟩:=choose_lt eachi
      refine ⟨(List.range len).map X,⟨_,_,by rw [List.length_map,List.length_range],.inr ⟨blk,off,rfl,fun k x hk j u hj=>?_⟩⟩,fun x hx=>?_,by rw [List.length_map,List.length_range];exact Nat.le_trans (Nat.mul_le_mul_right _ (by omega)) hbytes⟩
      · have hkl : k < len:=by have:=(List.getElem?_eq_some_iff.1 hk).1;simpa using this
        simp [hkl] at hk
        subst hk
        rw [Nat.add_assoc]
        exact (hX k hkl).2 j u hj
      · obtain ⟨k,hk,rfl⟩:=List.mem_map.1 hx
        exact (hX k (List.mem_range.1 hk)).1
end Go.Rw

namespace Go.Ev
open Go.RowKit Go.Proofs
noncomputable def orc0 (_ : Nat) : Option Orc := none
noncomputable def G0 (_ _ : Nat) : Option AV := none
def isTrue : AEnd → Bool
  | .ret (.bool true) => true
  | _ => false
theorem mix1 : Tryz.prog.follows .mixedOrders = true := by kernel_rfl
theorem ng1 : (Tryz.prog.funcs.toList.all fun fn => !(fn.name == "runtime.NumGoroutine")) = true := by kernel_rfl
theorem noNG1 : NoNG Tryz.prog := fun f fn h => by
  have := List.all_eq_true.1 ng1 fn (by
    have := Array.mem_of_getElem? h
    simpa using this)
  simpa using this
set_option maxRecDepth 1000000 in
theorem sane_ev : evalB Tryz.prog G0 orc0 1000000 15 isTrue = true := by kernel_rfl
theorem orc0_snd [Unk] : OrcSound Tryz.prog G0 orc0 := orcSound_given fun f oc hf => by cases hf
theorem glob0 [Unk] (w : World) : Globals G0 w := fun g off a e => by cases e
theorem sane_calls (w : World) : Calls Tryz.prog 15 #[] w fun e w' => e = .returned (.bool true) ∧ Below w.heap.size w w' := by
  letI : Unk := Unk.mk fun _ => 0
  obtain ⟨e, he, hc⟩ := evalB_true orc0_snd noNG1 mix1 sane_ev (glob0 w)
  refine Calls.mono hc fun e' w' h => ?_
  obtain ⟨hb, ρ, hr⟩ := h
  unfold isTrue at he
  split at he
  · cases e' with
    | returned v => cases hr; exact ⟨rfl, hb⟩
    | panicked c => exact hr.elim
    | outgrown => exact hr.elim
  · cases he
end Go.Ev

namespace Go.Ev
open Go.RowKit Go.Proofs
theorem low_of_cell {w : World} {a : Addr} {v : Value} (h : w.cell? a = some v) : a.block < w.heap.size:=by
  rcases Nat.lt_or_ge a.block w.heap.size with h' | h'
  · exact h'
  · simp [World.cell?,Array.getElem?_eq_none h'] at h
theorem cell_add (b o j : Nat) : (⟨b,o,none⟩ : Addr).add j = ⟨b,o + j,none⟩:=by
  unfold Addr.add
  by_cases h : j = 0
  · subst h;rfl
  · rw [if_neg h]
theorem bel_then {B : Nat} {W w1 w2 : World} (h : Below B W w1) (hB : B ≤ W.heap.size) (h' : Below w1.heap.size w1 w2) : Below B W w2:=h.trans (h'.mono (Nat.le_trans hB h.size))
def InB (q : Int) : Prop:=0 ≤ q ∧ q ≤ 255
def BytesAt (w : World) (a : Option Addr) (n : Nat) (q : Nat → Int) : Prop:=(a = none ∧ n = 0) ∨ ∃ b o,a = some ⟨b,o,none⟩ ∧ ∀ j,j < n → w.cell? ⟨b,o + j,none⟩ = some (.int .u8 (q j))
theorem BytesAt.below {w w' : World} {a : Option Addr} {n : Nat} {q : Nat → Int} (h : BytesAt w a n q) (hb : Below w.heap.size w w') : BytesAt w' a n q:=by
  rcases h with h | ⟨b,o,rfl,hc⟩
  · exact .inl h
  · exact .inr ⟨b,o,rfl,fun j hj=>(hb.cell (low_of_cell (hc j hj))).trans (hc j hj)⟩
def strOf (n : Nat) (q : Nat → Int) : ByteArray:=((List.range n).map q).foldl (fun r n=>r.push (UInt8.ofNat n.toNat)) ByteArray.empty
theorem load_bytes {w : World} {b o n : Nat} {q : Nat → Int} (h : ∀ j,j < n → w.cell? ⟨b,o + j,none⟩ = some (.int .u8 (q j))) : (loadCells ⟨b,o,none⟩ n).run Tryz.prog w = .ok (((List.range n).map q).map (Value.int .u8)).toArray w:=by
  letI : Unk:=Unk.mk fun _=>0
  have:=run_loadCells_of (P:=Tryz.prog) (w:=w) (b:=b) (off:=o) (n:=n) (vs:=((List.range n).map q).map (Value.int .u8)) (by simp) (fun i v hv=>by
    have hi : i < n:=by
      have:=(List.getElem?_eq_some_iff.1 hv).1
      simpa using this
    simp [hi] at hv
    rw [h i hi,hv])
  exact this
theorem conv_bytes {w : World} {a : Option Addr} {n cap : Nat} {q : Nat → Int} (h : BytesAt w a n q) : (convert 34 9 (.slice a n cap)).run Tryz.prog w = .ok (.string (strOf n q)) w:=by
  rw [run_convert_bytes_string w 34 9 5 a n cap Tryz.underlying34 Tryz.underlying5 Tryz.underlying9]
  rcases h with ⟨rfl,rfl⟩ | ⟨b,o,rfl,hc⟩
  · simp [Conv.bytesToString,strOf]
  · exact run_bytesToString w _ n cap _ (load_bytes hc)
set_option maxRecDepth 100000 in
set_option maxHeartbeats 1000000 in
theorem bequal {w : World} {a b : Option Addr} {n c1 c2 : Nat} {q : Nat → Int} (ha : BytesAt w a n q) (hb : BytesAt w b n q) :
    Calls Tryz.prog 23 #[.slice a n c1,.slice b n c2] w fun e w'=>e = .returned (.bool true) ∧ w' = w:=by
  have h1:=conv_bytes (cap:=c1) ha
  have h2:=conv_bytes (cap:=c2) hb
  go_enter Tryz.func23,Tryz.ntmps23
  go_wp2
  go_ret
  exact ⟨rfl,rfl⟩
def byV (f : Nat → Int) (n : Nat) : List Value:=(List.range n).map fun j=>.int .u8 (f j)
theorem byV_len (f : Nat → Int) (n : Nat) : (byV f n).length = n:=by simp [byV]
theorem byV_get {f : Nat → Int} {n j : Nat} {u : Value} (h : (byV f n)[j]? = some u) : j < n ∧ u = .int .u8 (f j):=by
  have hj : j < n:=by
    have:=(List.getElem?_eq_some_iff.1 h).1
    rwa [byV_len] at this
  refine ⟨hj,?_⟩
  simp [byV,hj] at h
  exact h.symm
theorem byV_at {f : Nat → Int} {n j : Nat} (h : j < n) : (byV f n)[j]? = some (.int .u8 (f j)):=by simp [byV,h]
theorem byV_one (f : Nat → Int) (n : Nat) : ∀ u ∈ byV f n,u.oneCell' = true:=fun u hu=>by
  simp only [byV,List.mem_map] at hu
  obtain ⟨j,_,rfl⟩:=hu
  rfl
theorem info5 : (Tryz.prog.info? 5).map (fun i=>(i.zero,i.size,i.bytes)) = some (some (.int .u8 0),1,1):=by kernel_rfl
def OwnB (w : World) (g n cap : Nat) (q : Nat → Int) : Prop:=∃ cur : Array Value,w.heap[g]? = some (.cells cur 5 (0,0)) ∧ n ≤ cap ∧ cap ≤ maxLen ∧ cur.size = cap ∧ ∀ j,j < n → cur[j]? = some (.int .u8 (q j))
theorem ownB_of_row {w : World} {base n : Nat} {q : Nat → Int} {v : Value} (h : w.ownsRow base 5 1 v n (byV q n)) (hv : v ≠ .slice none 0 0) : ∃ g cap,v = .slice (some ⟨g,0,none⟩) n cap ∧ base ≤ g ∧ OwnB w g n cap q:=by
  obtain ⟨_,h | ⟨g,cap,cur,rfl,hb,hg,h1,h2,h3,h4⟩⟩:=h
  · exact absurd h.1 hv
  · refine ⟨g,cap,rfl,hb,cur,hg,h1,h2,by omega,fun j hj=>?_⟩
    have:=congrArg (fun l : List Value=>l[j]?) h4
    simp only [List.getElem?_take,Nat.mul_one,hj,if_true,byV_at hj] at this
    simpa using this
theorem OwnB.low {w : World} {g n cap : Nat} {q : Nat → Int} (h : OwnB w g n cap q) : g < w.heap.size:=by
  obtain ⟨cur,h,_⟩:=h
  rcases Nat.lt_or_ge g w.heap.size with h' | h'
  · exact h'
  · simp [Array.getElem?_eq_none h'] at h
theorem OwnB.at {w : World} {g n cap : Nat} {q : Nat → Int} (h : OwnB w g n cap q) : BytesAt w (some ⟨g,0,none⟩) n q:=by
  obtain ⟨cur,h,_,_,_,hc⟩:=h
  refine .inr ⟨g,0,rfl,fun j hj=>?_⟩
  simp [World.cell?,h,hc j hj]
theorem OwnB.below {w w' : World} {g n cap : Nat} {q : Nat → Int} (h : OwnB w g n cap q) (hb : Below w.heap.size w w') : OwnB w' g n cap q:=by
  have hl:=h.low
  obtain ⟨cur,h,r⟩:=h
  exact ⟨cur,(hb.block g hl).trans h,r⟩
def ClR (n : Nat) (q : Nat → Int) (w : World) (e : Ending) (w' : World) : Prop:=∃ g cap,e = .returned (.slice (some ⟨g,0,none⟩) n cap) ∧ w.heap.size ≤ g ∧ OwnB w' g n cap q ∧ Below w.heap.size w w'
theorem cl_end {w w' : World} {n : Nat} {q : Nat → Int} {v : Value} (h : w'.ownsRow w.heap.size 5 1 v n (byV q n)) (hv : v ≠ .slice none 0 0) (hb : Below w.heap.size w w') : ClR n q w (.returned v) w':=by
  obtain ⟨g,cap,rfl,h1,h2⟩:=ownB_of_row h hv
  exact ⟨g,cap,rfl,h1,h2,hb⟩
set_option maxRecDepth 100000 in
set_option maxHeartbeats 1000000 in
theorem clone_some {w : World} {b o n cap : Nat} {q : Nat → Int} (hn : n ≤ 140737488351232) (hc : ∀ j,j < n → w.cell? ⟨b,o + j,none⟩ = some (.int .u8 (q j))) :
    Calls Tryz.prog 42 #[.slice (some ⟨b,o,none⟩) n cap] w (ClR n q w):=by
  obtain ⟨i0,hi,hz0,hz1,hz2⟩:=info_parts info5
  have hnil:=fun (w : World)=>Lib.run_eql_slice_nil (P:=Tryz.prog) w 34 5 (some ⟨b,o,none⟩) n cap 0 0 Tryz.underlying34
  have hown0 : (w.alloc (.cells #[] 5)).ownsRow w.heap.size 5 1 (.slice (some ⟨w.heap.size,0,none⟩) 0 0) 0 []:=World.ownsRow_made w #[] 0 (Nat.le_refl _) (Nat.zero_le _) rfl
  have hbl0 : Below w.heap.size w (w.alloc (.cells #[] 5)):=(Below.refl _ _).alloc (Nat.le_refl _) _
  have hv1 : ∀ j u,(byV q n)[j]? = some u → (w.alloc (.cells #[] 5)).cell? ((⟨b,o,none⟩ : Addr).add j) = some u:=fun j u hj=>by
    obtain ⟨hj',rfl⟩:=byV_get hj
    rw [cell_add]
    exact (hbl0.cell (low_of_cell (hc j hj'))).trans (hc j hj')
  clear hc
  have hl:=byV_len q n
  have ho:=byV_one q n
  have hz:=hbl0.size
  go_enter Tryz.func42,Tryz.ntmps42
  go_wp2_with (at_builtin;refine wpList_append_own _ rfl _ _ 34 rfl w.heap.size 5 i0 (.int .u8 0) 1 1 Tryz.underlying34 hi hz0 hz1 hz2 rfl (by decide) _ _ _ rfl hown0 ⟨b,o,none⟩ n cap (byV q n) rfl (by omega) hv1 ho (by unfold maxLen;omega) (by omega) hz ?_)
  intro v1 w1 hown1 hg1 hnn
  have hbl1 : Below w.heap.size w w1:=hbl0.grown hg1 hz (fun k hk=>by simp [Value.ownBlock] at hk;omega)
  clear hbl0 hown0 hv1 hg1
  go_wp2
  go_ret
  refine cl_end (by simpa using hown1) ?_ hbl1
  intro e
  exact hnn e
set_option maxRecDepth 100000 in
set_option maxHeartbeats 1000000 in
theorem bclone_some {w : World} {b o n cap : Nat} {q : Nat → Int} (hn : n ≤ 140737488351232) (hc : ∀ j,j < n → w.cell? ⟨b,o + j,none⟩ = some (.int .u8 (q j))) :
    Calls Tryz.prog 144 #[.slice (some ⟨b,o,none⟩) n cap] w (ClR n q w):=by
  obtain ⟨i0,hi,hz0,hz1,hz2⟩:=info_parts info5
  have hnil:=fun (w : World)=>Lib.run_eql_slice_nil (P:=Tryz.prog) w 34 5 (some ⟨b,o,none⟩) n cap 0 0 Tryz.underlying34
  have hown0 : (w.alloc (.cells #[] 5)).ownsRow w.heap.size 5 1 (.slice (some ⟨w.heap.size,0,none⟩) 0 0) 0 []:=World.ownsRow_made w #[] 0 (Nat.le_refl _) (Nat.zero_le _) rfl
  have hbl0 : Below w.heap.size w (w.alloc (.cells #[] 5)):=(Below.refl _ _).alloc (Nat.le_refl _) _
  have hv1 : ∀ j u,(byV q n)[j]? = some u → (w.alloc (.cells #[] 5)).cell? ((⟨b,o,none⟩ : Addr).add j) = some u:=fun j u hj=>by
    obtain ⟨hj',rfl⟩:=byV_get hj
    rw [cell_add]
    exact (hbl0.cell (low_of_cell (hc j hj'))).trans (hc j hj')
  clear hc
  have hl:=byV_len q n
  have ho:=byV_one q n
  have hz:=hbl0.size
  go_enter Tryz.func144,Tryz.ntmps144
  go_wp2_with (at_builtin;refine wpList_append_own _ rfl _ _ 34 rfl w.heap.size 5 i0 (.int .u8 0) 1 1 Tryz.underlying34 hi hz0 hz1 hz2 rfl (by decide) _ _ _ rfl hown0 ⟨b,o,none⟩ n cap (byV q n) rfl (by omega) hv1 ho (by unfold maxLen;omega) (by omega) hz ?_)
  intro v1 w1 hown1 hg1 hnn
  have hbl1 : Below w.heap.size w w1:=hbl0.grown hg1 hz (fun k hk=>by simp [Value.ownBlock] at hk;omega)
  clear hbl0 hown0 hv1 hg1
  go_wp2
  go_ret
  refine cl_end (by simpa using hown1) ?_ hbl1
  intro e
  exact hnn e
end Go.Ev

namespace Go.Ev
open Go.ChangeShapes Go.WideShapes Go.ChangeAt Go.RowKit Go.Proofs Go.Deep Go.Rw
def inI64 (n : Int) : Prop:=-9223372036854775808 ≤ n ∧ n ≤ 9223372036854775807
def inU32 (n : Int) : Prop:=0 ≤ n ∧ n ≤ 4294967295
theorem inI64_wf {n : Int} (h : (Lit.int .i64 n).wf = true) : inI64 n:=by
  simpa [Lit.wf,IntKind.min,IntKind.max,IntKind.signed,IntKind.bits,inI64] using h
theorem inU32_wf {n : Int} (h : (Lit.int .u32 n).wf = true) : inU32 n:=by
  simpa [Lit.wf,IntKind.min,IntKind.max,IntKind.signed,IntKind.bits,inU32] using h
structure SecT where
  name : ByteArray
  rights : Int
  align : Int
  ba : Option Addr
  bn : Nat
  bc : Nat
  zero : Int
structure SymT where
  name : ByteArray
  sec : Int
  val : Int
  size : Int
  bind : Int
  kind : Int
structure RelT where
  sec : Int
  off : Int
  kind : Int
  sym : Int
  add : Int
structure LineT where
  sec : Int
  off : Int
  file : Int
  line : Int
instance : Inhabited SecT:=⟨⟨⟨#[]⟩,0,0,none,0,0,0⟩⟩
instance : Inhabited SymT:=⟨⟨⟨#[]⟩,0,0,0,0,0⟩⟩
instance : Inhabited RelT:=⟨⟨0,0,0,0,0⟩⟩
instance : Inhabited LineT:=⟨⟨0,0,0,0⟩⟩
def SecT.cells (s : SecT) : List Value:=[.string s.name,.int .i64 s.rights,.int .i64 s.align,.slice s.ba s.bn s.bc,.int .i64 s.zero]
def SymT.cells (s : SymT) : List Value:=[.string s.name,.int .i64 s.sec,.int .u32 s.val,.int .i64 s.size,.int .i64 s.bind,.int .i64 s.kind]
def RelT.cells (s : RelT) : List Value:=[.int .i64 s.sec,.int .i64 s.off,.int .i64 s.kind,.int .i64 s.sym,.int .i64 s.add]
def LineT.cells (s : LineT) : List Value:=[.int .i64 s.sec,.int .i64 s.off,.int .i64 s.file,.int .i64 s.line]
def fileCells (s : ByteArray) : List Value:=[.string s]
def SecT.R (s : SecT) : Prop:=inI64 s.rights ∧ inI64 s.align ∧ s.bn ≤ 140737488351232 ∧ inI64 s.zero ∧ s.name.size ≤ 140737488351232
def SymT.R (s : SymT) : Prop:=inI64 s.sec ∧ inU32 s.val ∧ inI64 s.size ∧ inI64 s.bind ∧ inI64 s.kind ∧ s.name.size ≤ 140737488351232
def RelT.R (s : RelT) : Prop:=inI64 s.sec ∧ inI64 s.off ∧ inI64 s.kind ∧ inI64 s.sym ∧ inI64 s.add
def LineT.R (s : LineT) : Prop:=inI64 s.sec ∧ inI64 s.off ∧ inI64 s.file ∧ inI64 s.line
def fileR (s : ByteArray) : Prop:=s.size ≤ 140737488351232
structure ObjT where
  secs : List SecT
  syms : List SymT
  rels : List RelT
  files : List ByteArray
  lines : List LineT
def ObjT.R (o : ObjT) : Prop:=(∀ s ∈ o.secs,s.R) ∧ (∀ s ∈ o.syms,s.R) ∧ (∀ s ∈ o.rels,s.R) ∧ (∀ s ∈ o.files,fileR s) ∧ (∀ s ∈ o.lines,s.R) ∧
  o.secs.length ≤ 140737488351232 ∧ o.syms.length ≤ 140737488351232 ∧ o.rels.length ≤ 140737488351232 ∧ o.files.length ≤ 140737488351232 ∧ o.lines.length ≤ 140737488351232
def ObjAt (W : World) (v : Value) (o : ObjT) : Prop:=∃ s1 s2 s3 s4 s5,v = .agg #[s1,s2,s3,s4,s5] ∧ RowsAt W s1 SecT.cells 5 o.secs ∧ RowsAt W s2 SymT.cells 6 o.syms ∧ RowsAt W s3 RelT.cells 5 o.rels ∧ RowsAt W s4 fileCells 1 o.files ∧ RowsAt W s5 LineT.cells 4 o.lines
theorem ObjAt.below {W W' : World} {v : Value} {o : ObjT} (h : ObjAt W v o) (hb : Below W.heap.size W W') : ObjAt W' v o:=by
  obtain ⟨s1,s2,s3,s4,s5,rfl,h1,h2,h3,h4,h5⟩:=h
  exact ⟨s1,s2,s3,s4,s5,rfl,h1.below hb,h2.below hb,h3.below hb,h4.below hb,h5.below hb⟩
theorem cells3 : Tryz.prog.cellsOf 3 = 1:=by kernel_rfl
theorem cells9 : Tryz.prog.cellsOf 9 = 1:=by kernel_rfl
theorem cells38 : Tryz.prog.cellsOf 38 = 1:=by kernel_rfl
theorem cells34 : Tryz.prog.cellsOf 34 = 1:=by kernel_rfl
theorem cells22 : Tryz.prog.cellsOf 22 = 1:=by kernel_rfl
theorem cells23 : Tryz.prog.cellsOf 23 = 1:=by kernel_rfl
theorem cells24 : Tryz.prog.cellsOf 24 = 1:=by kernel_rfl
theorem cells25 : Tryz.prog.cellsOf 25 = 1:=by kernel_rfl
theorem cells26 : Tryz.prog.cellsOf 26 = 1:=by kernel_rfl
theorem cells66 : Tryz.prog.cellsOf 66 = 5:=by kernel_rfl
theorem cells68 : Tryz.prog.cellsOf 68 = 6:=by kernel_rfl
theorem cells94 : Tryz.prog.cellsOf 94 = 5:=by kernel_rfl
theorem cells48 : Tryz.prog.cellsOf 48 = 4:=by kernel_rfl
theorem cells28 : Tryz.prog.cellsOf 28 = 5:=by kernel_rfl
theorem bytes5' : Tryz.prog.bytesOf 5 = 1:=by kernel_rfl
section
variable {H : Type} {enc : TypeId × Value → H} {w : World} {n : Nat}
abbrev Rd (enc : TypeId × Value → H) (w : World) (n : Nat) (t : TypeId) (cs : List Value) (y : DataW H × List MemPlace) : Prop:=DataW.trod enc Tryz.prog w 0 (fun _=>true) true n t cs = some y
theorem one_int {t : TypeId} {k : IntKind} {v : Value} {y : DataW H × List MemPlace} (ht : Tryz.prog.underlying t = some (.int k)) (h : Rd enc w n t [v] y) : ∃ z,v = .int k z ∧ (Lit.int k z).wf = true:=by
  obtain ⟨z,h1,_,h3⟩:=DataW.trod_int ht h
  simp only [List.cons.injEq,and_true] at h1
  exact ⟨z,h1,h3⟩
theorem one_str {v : Value} {y : DataW H × List MemPlace} (h : Rd enc w n 9 [v] y) (hw : ∀ k ∈ y.1.weights Tryz.prog 9,k ≤ reachBytes) : ∃ s : ByteArray,v = .string s ∧ s.size ≤ 140737488351232:=by
  obtain ⟨s,h1,h2,h3⟩:=DataW.trod_string Tryz.underlying9 h
  simp only [List.cons.injEq,and_true] at h1
  refine ⟨s,h1,?_⟩
  have:=hw s.data.toList.length (by rw [h2];simp [DataW.weights])
  simpa [reachBytes] using this
theorem one_bytes {v : Value} {y : DataW H × List MemPlace} (h : Rd enc w n 34 [v] y) (hw : ∀ k ∈ y.1.weights Tryz.prog 34,k ≤ reachBytes) : ∃ a len c,v = .slice a len c ∧ len ≤ 140737488351232:=by
  rcases open_slice Tryz.underlying34 h with ⟨hcs,_⟩ | ⟨a,len,cap,m,n,D,Pl,hcs,_,hl,hm,hmm,rfl,hx⟩
  · exact ⟨none,0,0,by simpa using hcs,by omega⟩
  · refine ⟨some a,len,cap,by simpa using hcs,?_⟩
    simp only [if_true] at hmm
    subst hmm
    have:=hw ((len + (m - len)) * Tryz.prog.bytesOf 5) (by simp [DataW.weights,Tryz.underlying34])
    rw [bytes5'] at this
    unfold reachBytes at this
    omega
set_option maxRecDepth 100000 in
theorem read_line {cs : List Value} {y : DataW H × List MemPlace} (hl : cs.length = 4) (h : Rd enc w n 48 cs y) : ∃ x : LineT,cs = x.cells ∧ x.R:=by
  match cs,hl with
  | [c0,c1,c2,c3],_ =>
    obtain ⟨xs,n,_,rfl,_,hlen,hel⟩:=DataW.trod_struct Tryz.underlying48 h
    match xs,hlen with
    | [y0,y1,y2,y3],_ =>
      have h0:=hel 0 _ rfl
      have h1:=hel 1 _ rfl
      have h2:=hel 2 _ rfl
      have h3:=hel 3 _ rfl
      (try simp only [cells3] at h0);(try simp only [cells3] at h1);(try simp only [cells3] at h2);(try simp only [cells3] at h3)
      obtain ⟨n0,rfl,w0⟩:=one_int Tryz.underlying3 (show Rd enc w n 3 [c0] y0 from h0)
      obtain ⟨n1,rfl,w1⟩:=one_int Tryz.underlying3 (show Rd enc w n 3 [c1] y1 from h1)
      obtain ⟨n2,rfl,w2⟩:=one_int Tryz.underlying3 (show Rd enc w n 3 [c2] y2 from h2)
      obtain ⟨n3,rfl,w3⟩:=one_int Tryz.underlying3 (show Rd enc w n 3 [c3] y3 from h3)
      exact ⟨⟨n0,n1,n2,n3⟩,rfl,inI64_wf w0,inI64_wf w1,inI64_wf w2,inI64_wf w3⟩
set_option maxRecDepth 100000 in
theorem read_rel {cs : List Value} {y : DataW H × List MemPlace} (hl : cs.length = 5) (h : Rd enc w n 94 cs y) : ∃ x : RelT,cs = x.cells ∧ x.R:=by
  match cs,hl with
  | [c0,c1,c2,c3,c4],_ =>
    obtain ⟨xs,n,_,rfl,_,hlen,hel⟩:=DataW.trod_struct Tryz.underlying94 h
    match xs,hlen with
    | [y0,y1,y2,y3,y4],_ =>
      have h0:=hel 0 _ rfl
      have h1:=hel 1 _ rfl
      have h2:=hel 2 _ rfl
      have h3:=hel 3 _ rfl
      have h4:=hel 4 _ rfl
      (try simp only [cells3] at h0);(try simp only [cells3] at h1);(try simp only [cells3] at h2);(try simp only [cells3] at h3);(try simp only [cells3] at h4)
      obtain ⟨n0,rfl,w0⟩:=one_int Tryz.underlying3 (show Rd enc w n 3 [c0] y0 from h0)
      obtain ⟨n1,rfl,w1⟩:=one_int Tryz.underlying3 (show Rd enc w n 3 [c1] y1 from h1)
      obtain ⟨n2,rfl,w2⟩:=one_int Tryz.underlying3 (show Rd enc w n 3 [c2] y2 from h2)
      obtain ⟨n3,rfl,w3⟩:=one_int Tryz.underlying3 (show Rd enc w n 3 [c3] y3 from h3)
      obtain ⟨n4,rfl,w4⟩:=one_int Tryz.underlying3 (show Rd enc w n 3 [c4] y4 from h4)
      exact ⟨⟨n0,n1,n2,n3,n4⟩,rfl,inI64_wf w0,inI64_wf w1,inI64_wf w2,inI64_wf w3,inI64_wf w4⟩
set_option maxRecDepth 100000 in
theorem read_sym {cs : List Value} {y : DataW H × List MemPlace} (hl : cs.length = 6) (h : Rd enc w n 68 cs y) (hw : ∀ k ∈ y.1.weights Tryz.prog 68,k ≤ reachBytes) : ∃ x : SymT,cs = x.cells ∧ x.R:=by
  match cs,hl with
  | [c0,c1,c2,c3,c4,c5],_ =>
    obtain ⟨xs,n,_,rfl,_,hlen,hel⟩:=DataW.trod_struct Tryz.underlying68 h
    match xs,hlen with
    | [y0,y1,y2,y3,y4,y5],_ =>
      have h0:=hel 0 _ rfl
      have h1:=hel 1 _ rfl
      have h2:=hel 2 _ rfl
      have h3:=hel 3 _ rfl
      have h4:=hel 4 _ rfl
      have h5:=hel 5 _ rfl
      have w0:=fun k hk=>hw k (weights_field Tryz.underlying68 (i:=0) rfl (d:=y0.1) rfl k hk)
      (try simp only [cells9] at h0);(try simp only [cells3] at h1);(try simp only [cells38] at h2);(try simp only [cells3] at h3);(try simp only [cells3] at h4);(try simp only [cells3] at h5)
      obtain ⟨n0,rfl,w0⟩:=one_str (show Rd enc w n 9 [c0] y0 from h0) w0
      obtain ⟨n1,rfl,w1⟩:=one_int Tryz.underlying3 (show Rd enc w n 3 [c1] y1 from h1)
      obtain ⟨n2,rfl,w2⟩:=one_int Tryz.underlying38 (show Rd enc w n 38 [c2] y2 from h2)
      obtain ⟨n3,rfl,w3⟩:=one_int Tryz.underlying3 (show Rd enc w n 3 [c3] y3 from h3)
      obtain ⟨n4,rfl,w4⟩:=one_int Tryz.underlying3 (show Rd enc w n 3 [c4] y4 from h4)
      obtain ⟨n5,rfl,w5⟩:=one_int Tryz.underlying3 (show Rd enc w n 3 [c5] y5 from h5)
      exact ⟨⟨n0,n1,n2,n3,n4,n5⟩,rfl,inI64_wf w1,inU32_wf w2,inI64_wf w3,inI64_wf w4,inI64_wf w5,w0⟩
end
end Go.Ev

namespace Go.Ev
open Go.ChangeShapes Go.WideShapes Go.ChangeAt Go.RowKit Go.Proofs Go.Deep Go.Rw
theorem bytes66 : 1 ≤ Tryz.prog.bytesOf 66:=by rw [show Tryz.prog.bytesOf 66 = 64 by kernel_rfl];omega
theorem bytes68 : 1 ≤ Tryz.prog.bytesOf 68:=by rw [show Tryz.prog.bytesOf 68 = 56 by kernel_rfl];omega
theorem bytes94 : 1 ≤ Tryz.prog.bytesOf 94:=by rw [show Tryz.prog.bytesOf 94 = 40 by kernel_rfl];omega
theorem bytes48 : 1 ≤ Tryz.prog.bytesOf 48:=by rw [show Tryz.prog.bytesOf 48 = 32 by kernel_rfl];omega
theorem bytes9 : 1 ≤ Tryz.prog.bytesOf 9:=by rw [show Tryz.prog.bytesOf 9 = 16 by kernel_rfl];omega
theorem len_le {n b : Nat} (hb : 1 ≤ b) (h : n * b ≤ reachBytes) : n ≤ 140737488351232:=by
  have : n * 1 ≤ n * b:=Nat.mul_le_mul_left n hb
  unfold reachBytes at h
  omega
theorem rows_at {α : Type} {W : World} {b o c : Nat} {n : Nat} {f : α → List Value} {size : Nat} {l : List α} (h : RowsAt W (.slice (some ⟨b,o,none⟩) n c) f size l) {k : Nat} {x : α} (hk : l[k]? = some x) {j : Nat} {u : Value} (hj : (f x)[j]? = some u) : W.cell? ⟨b,o + k * size + j,none⟩ = some u:=by
  obtain ⟨a',c',e,h1⟩:=h
  cases e
  rcases h1 with rfl | ⟨b',o',e,h2⟩
  · simp at hk
  · cases e
    exact h2 k x hk j u hj
theorem rows_some {α : Type} {W : World} {s : Value} {f : α → List Value} {size : Nat} {l : List α} (h : RowsAt W s f size l) {k : Nat} (hk : k < l.length) : ∃ b o c,s = .slice (some ⟨b,o,none⟩) l.length c:=by
  obtain ⟨a',c',rfl,h1⟩:=h
  rcases h1 with rfl | ⟨b',o',rfl,h2⟩
  · simp at hk
  · exact ⟨b',o',c',rfl⟩
end Go.Ev

namespace Go.Ev
open Go.RowKit Go.Proofs Go.Rw
def BoolS (w : World) (e : Ending) (w' : World) : Prop:=∃ r : Bool,e = .returned (.bool r) ∧ w' = w
def BoolR (w : World) (e : Ending) (w' : World) : Prop:=∃ r : Bool,e = .returned (.bool r) ∧ Below w.heap.size w w'
def okC (k c : Nat) : Prop:=(65 ≤ c ∧ c ≤ 90) ∨ (97 ≤ c ∧ c ≤ 122) ∨ c = 95 ∨ c = 46 ∨ (k ≠ 0 ∧ (c = 36 ∨ (48 ≤ c ∧ c ≤ 57)))
def NameOk (s : ByteArray) : Prop:=1 ≤ s.size ∧ s.size ≤ 40 ∧ ∀ k,(h : k < s.size) → okC k (s[k]'h).toNat
noncomputable def nameV (s : ByteArray) : Bool:=@decide (NameOk s) (Classical.propDecidable _)
def NmR (s : ByteArray) (w : World) (e : Ending) (w' : World) : Prop:=e = .returned (.bool (nameV s)) ∧ w' = w
theorem nm_yes {s : ByteArray} {w : World} (h : NameOk s) : NmR s w (.returned (.bool true)) w:=by
  refine ⟨?_,rfl⟩
  unfold nameV
  rw [@decide_eq_true _ (Classical.propDecidable _) h]
theorem nm_no {s : ByteArray} {w : World} (h : ¬ NameOk s) : NmR s w (.returned (.bool false)) w:=by
  refine ⟨?_,rfl⟩
  unfold nameV
  rw [@decide_eq_false _ (Classical.propDecidable _) h]
end Go.Ev

namespace Go.Ev
open Go.RowKit Go.Proofs Go.Rw
theorem below_drewN {B : Nat} {w w' : World} (h : Below B w w') (n : Nat) : Below B w (w'.drewN n):=⟨h.os,h.tape,h.output,h.size,h.block⟩
section
variable {W : World} {b o c n k : Nat}
theorem rows_file {l : List ByteArray} (h : RowsAt W (.slice (some ⟨b,o,none⟩) n c) fileCells 1 l) {x : ByteArray} (hk : l[k]? = some x) : W.cell? ⟨b,o + k,none⟩ = some (.string x):=by
  have:=rows_at h hk (j:=0) (u:=.string x) rfl
  simpa using this
theorem rows_sec {l : List SecT} (h : RowsAt W (.slice (some ⟨b,o,none⟩) n c) SecT.cells 5 l) {x : SecT} (hk : l[k]? = some x) :
    W.cell? ⟨b,o + k * 5,none⟩ = some (.string x.name) ∧ W.cell? ⟨b,o + k * 5 + 1,none⟩ = some (.int .i64 x.rights) ∧ W.cell? ⟨b,o + k * 5 + 2,none⟩ = some (.int .i64 x.align) ∧ W.cell? ⟨b,o + k * 5 + 3,none⟩ = some (.slice x.ba x.bn x.bc) ∧ W.cell? ⟨b,o + k * 5 + 4,none⟩ = some (.int .i64 x.zero) :=
  ⟨rows_at h hk (j:=0) rfl,rows_at h hk (j:=1) rfl,rows_at h hk (j:=2) rfl,rows_at h hk (j:=3) rfl,rows_at h hk (j:=4) rfl⟩
theorem rows_sym {l : List SymT} (h : RowsAt W (.slice (some ⟨b,o,none⟩) n c) SymT.cells 6 l) {x : SymT} (hk : l[k]? = some x) :
    W.cell? ⟨b,o + k * 6,none⟩ = some (.string x.name) ∧ W.cell? ⟨b,o + k * 6 + 1,none⟩ = some (.int .i64 x.sec) ∧ W.cell? ⟨b,o + k * 6 + 2,none⟩ = some (.int .u32 x.val) ∧ W.cell? ⟨b,o + k * 6 + 3,none⟩ = some (.int .i64 x.size) ∧ W.cell? ⟨b,o + k * 6 + 4,none⟩ = some (.int .i64 x.bind) ∧ W.cell? ⟨b,o + k * 6 + 5,none⟩ = some (.int .i64 x.kind) :=
  ⟨rows_at h hk (j:=0) rfl,rows_at h hk (j:=1) rfl,rows_at h hk (j:=2) rfl,rows_at h hk (j:=3) rfl,rows_at h hk (j:=4) rfl,rows_at h hk (j:=5) rfl⟩
theorem rows_rel {l : List RelT} (h : RowsAt W (.slice (some ⟨b,o,none⟩) n c) RelT.cells 5 l) {x : RelT} (hk : l[k]? = some x) :
    W.cell? ⟨b,o + k * 5,none⟩ = some (.int .i64 x.sec) ∧ W.cell? ⟨b,o + k * 5 + 1,none⟩ = some (.int .i64 x.off) ∧ W.cell? ⟨b,o + k * 5 + 2,none⟩ = some (.int .i64 x.kind) ∧ W.cell? ⟨b,o + k * 5 + 3,none⟩ = some (.int .i64 x.sym) ∧ W.cell? ⟨b,o + k * 5 + 4,none⟩ = some (.int .i64 x.add) :=
  ⟨rows_at h hk (j:=0) rfl,rows_at h hk (j:=1) rfl,rows_at h hk (j:=2) rfl,rows_at h hk (j:=3) rfl,rows_at h hk (j:=4) rfl⟩
theorem rows_line {l : List LineT} (h : RowsAt W (.slice (some ⟨b,o,none⟩) n c) LineT.cells 4 l) {x : LineT} (hk : l[k]? = some x) :
    W.cell? ⟨b,o + k * 4,none⟩ = some (.int .i64 x.sec) ∧ W.cell? ⟨b,o + k * 4 + 1,none⟩ = some (.int .i64 x.off) ∧ W.cell? ⟨b,o + k * 4 + 2,none⟩ = some (.int .i64 x.file) ∧ W.cell? ⟨b,o + k * 4 + 3,none⟩ = some (.int .i64 x.line) :=
  ⟨rows_at h hk (j:=0) rfl,rows_at h hk (j:=1) rfl,rows_at h hk (j:=2) rfl,rows_at h hk (j:=3) rfl⟩
end
theorem rows_slice {α : Type} {W : World} {s : Value} {f : α → List Value} {size : Nat} {l : List α} (h : RowsAt W s f size l) : ∃ a c,s = .slice a l.length c:=by
  obtain ⟨a',c',rfl,_⟩:=h
  exact ⟨a',c',rfl⟩
theorem rows_some2 {α : Type} {W : World} {a : Option Addr} {n c : Nat} {f : α → List Value} {size : Nat} {l : List α} (h : RowsAt W (.slice a n c) f size l) {k : Nat} (hk : k < l.length) : ∃ b o,a = some ⟨b,o,none⟩:=by
  obtain ⟨b,o,c',e⟩:=rows_some h hk
  cases e
  exact ⟨b,o,rfl⟩
end Go.Ev

namespace Go.Ev
open Go.RowKit Go.Proofs Go.Rw
def SecT.v (s : SecT) : Value:=.agg #[.string s.name,.int .i64 s.rights,.int .i64 s.align,.slice s.ba s.bn s.bc,.int .i64 s.zero]
def SymT.v (s : SymT) : Value:=.agg #[.string s.name,.int .i64 s.sec,.int .u32 s.val,.int .i64 s.size,.int .i64 s.bind,.int .i64 s.kind]
theorem new_cell (w : World) (l : Array Value) (t : TypeId) (i : Nat) (v : Value) (h : l[i]? = some v) : (w.alloc (.cells l t)).cell? ⟨w.heap.size,i,none⟩ = some v:=by
  rw [World.cell?_alloc_new];exact h
def widthV (z : Int) : Int:=if z = 3 then 1 else if z = 2 then 2 else 4
end Go.Ev

namespace Go.Ev
open Go.RowKit Go.Proofs Go.Rw
theorem within_yes {w : World} {n a b : Int} (h1 : a ≤ n) (h2 : n ≤ b) : Calls Tryz.prog 221 #[.int .i64 n,.int .i64 a,.int .i64 b] w fun e w'=>e = .returned (.bool true) ∧ w' = w:=by
  go_enter Tryz.func221,Tryz.ntmps221
  go_wp2
  all_goals (go_ret;exact ⟨rfl,rfl⟩)
theorem within_no {w : World} {n a b : Int} (h : n < a ∨ b < n) : Calls Tryz.prog 221 #[.int .i64 n,.int .i64 a,.int .i64 b] w fun e w'=>e = .returned (.bool false) ∧ w' = w:=by
  by_cases h1 : a ≤ n
  · have h2 : decide (n ≤ b) = false:=decide_eq_false (by omega)
    go_enter Tryz.func221,Tryz.ntmps221
    go_wp2
    all_goals (go_ret;exact ⟨rfl,rfl⟩)
  · go_enter Tryz.func221,Tryz.ntmps221
    go_wp2
    all_goals (go_ret;exact ⟨rfl,rfl⟩)
def RngOk (x : LineT) : Prop:=(0 ≤ x.sec ∧ x.sec ≤ 15) ∧ (0 ≤ x.off ∧ x.off ≤ 65535) ∧ (0 ≤ x.file ∧ x.file ≤ 19) ∧ (0 ≤ x.line ∧ x.line ≤ 1048576)
instance (x : LineT) : Decidable (RngOk x):=by unfold RngOk;exact inferInstance
def EntOk (x : LineT) : Prop:=RngOk x ∧ (x.line ≠ 0 ∨ x.file = 0)
instance (x : LineT) : Decidable (EntOk x):=by unfold EntOk;exact inferInstance
theorem one_below (w : World) (A : Obj) : Below w.heap.size w (w.alloc A):=(Below.refl w.heap.size w).alloc (Nat.le_refl _) A
set_option maxRecDepth 100000 in
set_option maxHeartbeats 4000000 in
theorem inRange_c {w : World} (s o f l : Int) : Calls Tryz.prog 194 #[.agg #[.int .i64 s,.int .i64 o,.int .i64 f,.int .i64 l]] w fun e w'=>e = .returned (.bool (decide (RngOk ⟨s,o,f,l⟩))) ∧ Below w.heap.size w w':=by
  by_cases k0 : 0 ≤ s ∧ s ≤ 15
  · by_cases k1 : 0 ≤ o ∧ o ≤ 65535
    · by_cases k2 : 0 ≤ f ∧ f ≤ 19
      · by_cases k3 : 0 ≤ l ∧ l ≤ 1048576
        · rw [decide_eq_true (show RngOk ⟨s,o,f,l⟩ from ⟨k0,k1,k2,k3⟩)]
          go_enter Tryz.func194,Tryz.ntmps194
          go_wp2_with (go_at_call 221;first | (refine (within_yes (by omega) (by omega)).mono ?_;rintro e w1 ⟨rfl,rfl⟩) | (refine (within_no (by omega)).mono ?_;rintro e w1 ⟨rfl,rfl⟩))
          all_goals (go_ret;exact ⟨rfl,one_below _ _⟩)
        · rw [decide_eq_false (show ¬ RngOk ⟨s,o,f,l⟩ from fun h=>k3 h.2.2.2)]
          go_enter Tryz.func194,Tryz.ntmps194
          go_wp2_with (go_at_call 221;first | (refine (within_yes (by omega) (by omega)).mono ?_;rintro e w1 ⟨rfl,rfl⟩) | (refine (within_no (by omega)).mono ?_;rintro e w1 ⟨rfl,rfl⟩))
          all_goals (go_ret;exact ⟨rfl,one_below _ _⟩)
      · rw [decide_eq_false (show ¬ RngOk ⟨s,o,f,l⟩ from fun h=>k2 h.2.2.1)]
        go_enter Tryz.func194,Tryz.ntmps194
        go_wp2_with (go_at_call 221;first | (refine (within_yes (by omega) (by omega)).mono ?_;rintro e w1 ⟨rfl,rfl⟩) | (refine (within_no (by omega)).mono ?_;rintro e w1 ⟨rfl,rfl⟩))
        all_goals (go_ret;exact ⟨rfl,one_below _ _⟩)
    · rw [decide_eq_false (show ¬ RngOk ⟨s,o,f,l⟩ from fun h=>k1 h.2.1)]
      go_enter Tryz.func194,Tryz.ntmps194
      go_wp2_with (go_at_call 221;first | (refine (within_yes (by omega) (by omega)).mono ?_;rintro e w1 ⟨rfl,rfl⟩) | (refine (within_no (by omega)).mono ?_;rintro e w1 ⟨rfl,rfl⟩))
      all_goals (go_ret;exact ⟨rfl,one_below _ _⟩)
  · rw [decide_eq_false (show ¬ RngOk ⟨s,o,f,l⟩ from fun h=>k0 h.1)]
    go_enter Tryz.func194,Tryz.ntmps194
    go_wp2_with (go_at_call 221;first | (refine (within_yes (by omega) (by omega)).mono ?_;rintro e w1 ⟨rfl,rfl⟩) | (refine (within_no (by omega)).mono ?_;rintro e w1 ⟨rfl,rfl⟩))
    all_goals (go_ret;exact ⟨rfl,one_below _ _⟩)
set_option maxRecDepth 100000 in
set_option maxHeartbeats 400000 in
theorem entry_c {w : World} (s o f l : Int) : Calls Tryz.prog 187 #[.agg #[.int .i64 s,.int .i64 o,.int .i64 f,.int .i64 l]] w fun e w'=>e = .returned (.bool (decide (EntOk ⟨s,o,f,l⟩))) ∧ Below w.heap.size w w':=by
  have hc:=fun W=>inRange_c (w:=W) s o f l
  by_cases c0 : RngOk ⟨s,o,f,l⟩
  · rw [decide_eq_true c0] at hc
    by_cases c1 : l = 0
    · subst c1
      have c1' : ((0 : Int) != 0) = false:=by simp
      by_cases c2 : f = 0
      · subst c2
        have c2' : ((0 : Int) == 0) = true:=by simp
        rw [decide_eq_true (show EntOk ⟨s,o,0,0⟩ from ⟨c0,.inr rfl⟩)]
        clear c0
        go_enter Tryz.func187,Tryz.ntmps187
        go_wp2_with (go_at_call 194;refine (hc _).mono ?_;rintro e w1 ⟨rfl,hb⟩;have b2:=(hb.cell (p:=⟨w.heap.size,2,none⟩) (by simp)).trans (new_cell w _ 48 2 _ rfl);have b3:=(hb.cell (p:=⟨w.heap.size,3,none⟩) (by simp)).trans (new_cell w _ 48 3 _ rfl))
        all_goals (go_ret;exact ⟨rfl,bel_then (one_below _ _) (Nat.le_refl _) hb⟩)
      · have c2' : (f == 0) = false:=by simp [c2]
        rw [decide_eq_false (show ¬ EntOk ⟨s,o,f,0⟩ from fun h=>h.2.elim (fun h=>h rfl) c2)]
        clear c0
        go_enter Tryz.func187,Tryz.ntmps187
        go_wp2_with (go_at_call 194;refine (hc _).mono ?_;rintro e w1 ⟨rfl,hb⟩;have b2:=(hb.cell (p:=⟨w.heap.size,2,none⟩) (by simp)).trans (new_cell w _ 48 2 _ rfl);have b3:=(hb.cell (p:=⟨w.heap.size,3,none⟩) (by simp)).trans (new_cell w _ 48 3 _ rfl))
        all_goals (go_ret;exact ⟨rfl,bel_then (one_below _ _) (Nat.le_refl _) hb⟩)
    · have c1' : (l != 0) = true:=by simp [c1]
      rw [decide_eq_true (show EntOk ⟨s,o,f,l⟩ from ⟨c0,.inl c1⟩)]
      clear c0
      go_enter Tryz.func187,Tryz.ntmps187
      go_wp2_with (go_at_call 194;refine (hc _).mono ?_;rintro e w1 ⟨rfl,hb⟩;have b2:=(hb.cell (p:=⟨w.heap.size,2,none⟩) (by simp)).trans (new_cell w _ 48 2 _ rfl);have b3:=(hb.cell (p:=⟨w.heap.size,3,none⟩) (by simp)).trans (new_cell w _ 48 3 _ rfl))
      all_goals (go_ret;exact ⟨rfl,bel_then (one_below _ _) (Nat.le_refl _) hb⟩)
  · rw [decide_eq_false c0] at hc
    rw [decide_eq_false (show ¬ EntOk ⟨s,o,f,l⟩ from fun h=>c0 h.1)]
    clear c0
    go_enter Tryz.func187,Tryz.ntmps187
    go_wp2_with (go_at_call 194;refine (hc _).mono ?_;rintro e w1 ⟨rfl,hb⟩;have b2:=(hb.cell (p:=⟨w.heap.size,2,none⟩) (by simp)).trans (new_cell w _ 48 2 _ rfl);have b3:=(hb.cell (p:=⟨w.heap.size,3,none⟩) (by simp)).trans (new_cell w _ 48 3 _ rfl))
    all_goals (go_ret;exact ⟨rfl,bel_then (one_below _ _) (Nat.le_refl _) hb⟩)
theorem startOf_c {w : World} (s o f l : Int) : Calls Tryz.prog 132 #[.agg #[.int .i64 s,.int .i64 o,.int .i64 f,.int .i64 l]] w fun e w'=>e = .returned (.agg #[.int .i64 s,.int .i64 o,.int .i64 1]) ∧ Below w.heap.size w w':=by
  have z2 : ∀ A B,Below w.heap.size w ((w.alloc A).alloc B):=fun A B=>(one_below w A).alloc (by simp) B
  go_enter Tryz.func132,Tryz.ntmps132
  go_wp2
  refine bodyPost_ret (v:=.agg #[.int .i64 s,.int .i64 o,.int .i64 1]) (by simp [results,Tryz.f132,go_sem]) rfl ?_
  exact ⟨rfl,z2 _ _⟩
theorem ahead_yes {w : World} {a0 a1 a2 b0 b1 b2 : Int} (h : a0 < b0 ∨ (a0 = b0 ∧ a1 + a2 ≤ b1)) (h1 : -9223372036854775808 ≤ a1 + a2) (h2 : a1 + a2 ≤ 9223372036854775807) :
    Calls Tryz.prog 226 #[.agg #[.int .i64 a0,.int .i64 a1,.int .i64 a2],.agg #[.int .i64 b0,.int .i64 b1,.int .i64 b2]] w fun e w'=>e = .returned (.bool true) ∧ Below w.heap.size w w':=by
  have z2 : ∀ A B,Below w.heap.size w ((w.alloc A).alloc B):=fun A B=>(one_below w A).alloc (by simp) B
  have hw : wrap64 (a1 + a2) = a1 + a2:=by unfold wrap64;omega
  by_cases c : a0 < b0
  · go_enter Tryz.func226,Tryz.ntmps226
    go_wp2
    all_goals (go_ret;exact ⟨rfl,z2 _ _⟩)
  · obtain ⟨rfl,hle⟩ : a0 = b0 ∧ a1 + a2 ≤ b1:=by omega
    have ce : (a0 == a0) = true:=by simp
    go_enter Tryz.func226,Tryz.ntmps226
    go_wp2
    all_goals (go_ret;exact ⟨rfl,z2 _ _⟩)
theorem ahead_no {w : World} {a0 a1 a2 b0 b1 b2 : Int} (h : ¬ (a0 < b0 ∨ (a0 = b0 ∧ a1 + a2 ≤ b1))) (h1 : -9223372036854775808 ≤ a1 + a2) (h2 : a1 + a2 ≤ 9223372036854775807) :
    Calls Tryz.prog 226 #[.agg #[.int .i64 a0,.int .i64 a1,.int .i64 a2],.agg #[.int .i64 b0,.int .i64 b1,.int .i64 b2]] w fun e w'=>e = .returned (.bool false) ∧ Below w.heap.size w w':=by
  have z2 : ∀ A B,Below w.heap.size w ((w.alloc A).alloc B):=fun A B=>(one_below w A).alloc (by simp) B
  have hw : wrap64 (a1 + a2) = a1 + a2:=by unfold wrap64;omega
  have c : ¬ a0 < b0:=fun h'=>h (.inl h')
  by_cases ce : a0 = b0
  · subst ce
    have ce : (a0 == a0) = true:=by simp
    have cd : decide (a1 + a2 ≤ b1) = false:=decide_eq_false (fun h'=>h (.inr ⟨rfl,h'⟩))
    clear h
    go_enter Tryz.func226,Tryz.ntmps226
    go_wp2
    all_goals (go_ret;exact ⟨rfl,z2 _ _⟩)
  · have ce' : (a0 == b0) = false:=beq_eq_false_iff_ne.2 ce
    clear h
    go_enter Tryz.func226,Tryz.ntmps226
    go_wp2
    all_goals (go_ret;exact ⟨rfl,z2 _ _⟩)
set_option maxRecDepth 100000 in
theorem every_line {w : World} {s : Value} {l : List LineT} (h : RowsAt w s LineT.cells 4 l) (hl : l.length ≤ 140737488351232) (m : Int) (g : Nat) (lb : Array Value) (eg : ∀ args w,(callFunc g args).run Tryz.prog w = .ok (.enter g args) w) (p : LineT → Bool)
    (hp : ∀ W,Below w.heap.size w W → ∀ x ∈ l,Calls Tryz.prog g (#[.agg #[.int .i64 x.sec,.int .i64 x.off,.int .i64 x.file,.int .i64 x.line]] ++ lb) W fun e w'=>e = .returned (.bool (p x)) ∧ Below W.heap.size W w') :
    Calls Tryz.prog 167 #[s,.int .i64 m,.func (.func g) #[] lb] w fun e w'=>e = .returned (.bool (decide ((l.length : Int) ≤ m) && l.all p)) ∧ Below w.heap.size w w':=by
  obtain ⟨a,c,rfl⟩:=rows_slice h
  by_cases hm : (l.length : Int) ≤ m
  · rw [decide_eq_true hm,Bool.true_and]
    obtain ⟨r,hr⟩ : ∃ r,r = l.all p:=⟨_,rfl⟩
    rw [← hr]
    have hr:=Lib.hid hr
    go_enter Tryz.func167,Tryz.ntmps167
    go_wp2
    go_loopw [15] (fun i wr=>∃ k : Nat,k ≤ l.length ∧ i = .int .i64 k ∧ Below w.heap.size w wr ∧ (∀ j x,j < k → l[j]? = some x → p x = true)) (fun i _=>l.length - (intOf i).toNat)
    case atStart=>exact ⟨0,by omega,rfl,Below.refl _ _,fun j x hj=>by omega⟩
    case round =>
      obtain ⟨k,hk,rfl,hbl,hA⟩:=hrel
      have hA:=Lib.hid hA
      by_cases hlt : k < l.length
      · obtain ⟨b,of,rfl⟩:=rows_some2 h hlt
        obtain ⟨x,hx⟩ : ∃ x,l[k]? = some x:=⟨l[k],by simp [hlt]⟩
        have hB:=hbl.size
        have hcall:=fun o=>hp (wr.alloc o) (hbl.alloc hB o) x (List.mem_of_getElem? hx)
        obtain ⟨g0,g1,g2,g3⟩:=rows_line (h.below hbl) hx
        have hlt' : (k : Int) < (l.length : Int):=by omega
        have hx:=Lib.hid hx
        clear hp h
        cases hpx : p x
        · simp only [hpx] at hcall
          have hf:=Lib.hid (show r = false by
            rw [hr.out,List.all_eq_false]
            exact ⟨_,List.mem_of_getElem? hx.out,by simp [hpx]⟩)
          clear hpx
          obtain ⟨xs,xo,xf,xl⟩:=x
          dsimp only at hcall g0 g1 g2 g3
          go_wp2_with (go_at_fn g;refine (hcall _).mono ?_;rintro e w' ⟨rfl,hb'⟩)
          go_ret
          exact ⟨by rw [hf.out];rfl,bel_then (hbl.alloc hB _) (Nat.le_refl _) hb'⟩
        · simp only [hpx] at hcall
          have hpx:=Lib.hid hpx
          obtain ⟨xs,xo,xf,xl⟩:=x
          dsimp only at hcall g0 g1 g2 g3
          go_wp2_with (go_at_fn g;refine (hcall _).mono ?_;rintro e w' ⟨rfl,hb'⟩)
          go_roundw
          case rel =>
            refine ⟨k + 1,by omega,by go_num,bel_then (hbl.alloc hB _) (Nat.le_refl _) hb',fun j y hj hy=>?_⟩
            by_cases hjk : j < k
            · exact hA.out j y hjk hy
            · obtain rfl : j = k:=by omega
              rw [hx.out] at hy
              cases hy
              exact hpx.out
          case measure=>simp [intOf];omega
      · have : k = l.length:=by omega
        subst this
        have hf:=Lib.hid (show r = true by
          rw [hr.out,List.all_eq_true]
          intro x hx
          obtain ⟨j,hj⟩:=List.getElem?_of_mem hx
          exact hA.out j x (List.getElem?_eq_some_iff.1 hj).1 hj)
        go_wp2
        go_ret
        exact ⟨by rw [hf.out];rfl,hbl⟩
  · rw [decide_eq_false hm,Bool.false_and]
    go_enter Tryz.func167,Tryz.ntmps167
    go_wp2
    go_ret
    exact ⟨rfl,Below.refl _ _⟩
end Go.Ev

