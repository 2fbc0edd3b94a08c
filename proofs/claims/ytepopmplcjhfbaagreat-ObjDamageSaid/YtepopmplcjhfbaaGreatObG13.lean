import Derived.Test.YtepopmplcjhfbaaGreatObG12
import Derived.Test.YtepopmplcjhfbaaGreatObG01
import Derived.Test.YtepopmplcjhfbaaGreatObG11
import Derived.Test.YtepopmplcjhfbaaGreatObG00
import Derived.Test.YtepopmplcjhfbaaGreatObG10
import Derived.Test.YtepopmplcjhfbaaGreatObG04
import Derived.Laws.BytesArg
set_option linter.unusedSectionVars false
set_option linter.unusedVariables false
set_option linter.unusedSimpArgs false
set_option linter.unnecessarySimpa false
namespace Go.Ev
open Go.RowKit Go.Proofs Go.Rw
set_option maxRecDepth 100000 in
set_option maxHeartbeats 400000 in
theorem unpack_none {w : World} {a : Option Addr} {c : Nat} :
    Calls Tryz.prog 30 #[.slice a 0 c] w (UpR [] w):=by
  have hmf : ∀ (fn : Fn) (first cap : Array Value) (w : World),(Instr.makeFunc fn first cap).run Tryz.prog w = .ok (.func fn first cap) w:=fun _ _ _ _=>rfl
  have hM : MacB (((w.alloc (.cells #[.slice none 0 0] 26)).alloc (.cells #[.int .i64 0] 31)).alloc (.cells #[.slice a 0 c,.int .i64 0,.int .i64 0,.int .i64 0,.int .i64 0,.int .i64 0,.slice none 0 0] 139)) (w.heap.size + 1 + 1) a 0 c 0 default (.slice none 0 0):=by
    have:=heap_alloc_new ((w.alloc (.cells #[.slice none 0 0] 26)).alloc (.cells #[.int .i64 0] 31)) (.cells #[.slice a 0 c,.int .i64 0,.int .i64 0,.int .i64 0,.int .i64 0,.int .i64 0,.slice none 0 0] 139)
    rw [World.size_alloc,World.size_alloc] at this
    exact this
  have hend:=isAtEnd_c hM
  obtain ⟨-, -, -, -, -, -,i6⟩:=hM.cells
  have hpe : (((0 : Int)) == ((0 : Nat) : Int)) = true:=by simp
  rw [hpe] at hend
  have hb3 : Below w.heap.size w (((w.alloc (.cells #[.slice none 0 0] 26)).alloc (.cells #[.int .i64 0] 31)).alloc (.cells #[.slice a 0 c,.int .i64 0,.int .i64 0,.int .i64 0,.int .i64 0,.int .i64 0,.slice none 0 0] 139)):=(((Below.refl _ _).alloc (Nat.le_refl _) _).alloc (by simp) _).alloc (by simp;omega) _
  have qA : (((w.alloc (.cells #[.slice none 0 0] 26)).alloc (.cells #[.int .i64 0] 31)).alloc (.cells #[.slice a 0 c,.int .i64 0,.int .i64 0,.int .i64 0,.int .i64 0,.int .i64 0,.slice none 0 0] 139)).heap[w.heap.size]? = some (.cells #[.slice none 0 0] 26 (0,0)):=by
    rw [heap_alloc_old _ _ (by simp;omega),heap_alloc_old _ _ (by simp)]
    exact heap_alloc_new w _
  have qB : (((w.alloc (.cells #[.slice none 0 0] 26)).alloc (.cells #[.int .i64 0] 31)).alloc (.cells #[.slice a 0 c,.int .i64 0,.int .i64 0,.int .i64 0,.int .i64 0,.int .i64 0,.slice none 0 0] 139)).heap[w.heap.size + 1]? = some (.cells #[.int .i64 0] 31 (0,0)):=by
    rw [heap_alloc_old _ _ (by simp)]
    have:=heap_alloc_new (w.alloc (.cells #[.slice none 0 0] 26)) (.cells #[.int .i64 0] 31)
    rwa [World.size_alloc] at this
  have hsz : (((w.alloc (.cells #[.slice none 0 0] 26)).alloc (.cells #[.int .i64 0] 31)).alloc (.cells #[.slice a 0 c,.int .i64 0,.int .i64 0,.int .i64 0,.int .i64 0,.int .i64 0,.slice none 0 0] 139)).heap.size = w.heap.size + 3:=by simp
  obtain ⟨W3,hW3⟩ : ∃ W3 : World,W3 = (((w.alloc (.cells #[.slice none 0 0] 26)).alloc (.cells #[.int .i64 0] 31)).alloc (.cells #[.slice a 0 c,.int .i64 0,.int .i64 0,.int .i64 0,.int .i64 0,.int .i64 0,.slice none 0 0] 139)):=⟨_,rfl⟩
  rw [← hW3] at hend i6 hb3 qA qB hsz
  clear hM
  have qa : W3.cell? ⟨w.heap.size,0,none⟩ = some (.slice none 0 0):=by simp [World.cell?,qA]
  have qb : W3.cell? ⟨w.heap.size + 1,0,none⟩ = some (.int .i64 0):=by simp [World.cell?,qB]
  have fa : W3.frozen? ⟨w.heap.size,0,none⟩ = false:=by simp [World.frozen?,qA]
  have fb : W3.frozen? ⟨w.heap.size + 1,0,none⟩ = false:=by simp [World.frozen?,qB]
  go_enter_defers Tryz.func30,Tryz.ntmps30
  go_wp2_with fail
  rw [← hW3]
  clear hW3
  refine wp_loop_rounds 1 ?_
  rw [rounds_succ]
  go_wp2_with (go_at_call 104;refine hend.mono ?_;rintro e w1 ⟨rfl,k,rfl⟩)
  refine leaves_cons (f:=103) (args:=#[.pointer (some ⟨w.heap.size,0,none⟩),.pointer (some ⟨w.heap.size + 1,0,none⟩)]) (by simp) (by simp [go_sem]) ?_
  refine catch_idle.mono ?_
  rintro e u' w'' ⟨rfl,rfl,rfl⟩
  have hb5:=((below_drewN hb3 k).setCell (p:=⟨w.heap.size,0,none⟩) (Nat.le_refl _) (.slice none 0 0)).setCell (p:=⟨w.heap.size + 1,0,none⟩) (by simp) (.int .i64 0)
  have hb6:=Lib.hid (hb5.alloc hb5.size (.cells #[.int .i64 0,.int .i64 0] 119))
  have h0 : ((W3.drewN k).setCell ⟨w.heap.size,0,none⟩ (.slice none 0 0)).heap[w.heap.size + 1]? = some (.cells #[.int .i64 0] 31 (0,0)):=(heap_setCell_other _ _ _ _ (by simp)).trans qB
  have rb : ((((W3.drewN k).setCell ⟨w.heap.size,0,none⟩ (.slice none 0 0)).setCell ⟨w.heap.size + 1,0,none⟩ (.int .i64 0)).alloc (.cells #[.int .i64 0,.int .i64 0] 119)).heap[w.heap.size + 1]? = some (.cells #[.int .i64 0] 31 (0,0)):=by
    rw [heap_alloc_old _ _ (by simp [hsz])]
    exact heap_setCell_same _ _ 0 _ _ _ h0
  have ra : ((((W3.drewN k).setCell ⟨w.heap.size,0,none⟩ (.slice none 0 0)).setCell ⟨w.heap.size + 1,0,none⟩ (.int .i64 0)).alloc (.cells #[.int .i64 0,.int .i64 0] 119)).heap[w.heap.size]? = some (.cells #[.slice none 0 0] 26 (0,0)):=by
    rw [heap_alloc_old _ _ (by simp [hsz]),heap_setCell_other _ _ _ _ (by simp)]
    exact heap_setCell_same _ _ 0 _ _ _ qA
  clear hb5
  generalize hWd : ((((W3.drewN k).setCell ⟨w.heap.size,0,none⟩ (.slice none 0 0)).setCell ⟨w.heap.size + 1,0,none⟩ (.int .i64 0)).alloc (.cells #[.int .i64 0,.int .i64 0] 119)) = Wd at *
  clear hWd
  have ca : Wd.cell? ⟨w.heap.size,0,none⟩ = some (.slice none 0 0):=by simp [World.cell?,ra]
  have cb : Wd.cell? ⟨w.heap.size + 1,0,none⟩ = some (.int .i64 0):=by simp [World.cell?,rb]
  clear ra rb
  simp [Leaves,settle,results,Tryz.f30,go_sem,ca,cb]
  exact ⟨hb6.out,.inr ⟨[],_,rfl,rfl,⟨none,0,rfl,.inl rfl⟩⟩⟩
end Go.Ev

namespace Go.Ev
open Go.RowKit Go.Proofs Go.Rw
theorem numL_byte (n : Nat) : ∀ z ∈ numL n,0 ≤ z ∧ z < 256:=by
  induction n using Nat.strongRecOn with
  | ind n ih =>
    intro z hz
    by_cases h : n < 128
    · rw [numL_lt h,List.mem_singleton] at hz
      omega
    · rw [numL_ge h,List.mem_cons] at hz
      rcases hz with hz | hz
      · omega
      · exact ih (n / 128) (by omega) z hz
theorem entry_byte (a b : LineT) (h1 : RngOk a) (h2 : RngOk b) (hs : a.sec ≤ b.sec) (ho : a.sec = b.sec → a.off ≤ b.off) : ∀ z ∈ entryL a b,0 ≤ z ∧ z < 256:=by
  intro z hz
  have hd : 0 ≤ offD a b:=by
    unfold offD
    unfold RngOk at h1 h2
    split
    · have:=ho (by omega);omega
    · omega
  have hcons : ∀ (k : Int) (n : Nat),0 ≤ k → k < 256 → ∀ z ∈ k :: numL n,0 ≤ z ∧ z < 256:=fun k n k0 k1 z hz=>by
    rcases List.mem_cons.1 hz with hz | hz
    · omega
    · exact numL_byte _ z hz
  unfold entryL at hz
  simp only [List.mem_append] at hz
  rcases hz with hz | hz | hz | hz | hz
  · unfold secP at hz
    split at hz
    · simp at hz
    · exact hcons 4 _ (by omega) (by omega) z hz
  · unfold fileP at hz
    split at hz
    · simp at hz
    · exact hcons 3 _ (by omega) (by omega) z hz
  · unfold offP at hz
    split at hz
    · simp at hz
    · exact hcons 1 _ (by omega) (by omega) z hz
  · unfold lineP at hz
    split at hz
    · simp at hz
    · exact hcons 2 _ (by omega) (by omega) z hz
  · rw [List.mem_singleton] at hz
    generalize offD a b = d at hz hd
    generalize b.line - a.line = e at hz
    subst hz
    unfold lastP offB lineB
    repeat' split
    all_goals omega
theorem packL_byte {l : List LineT} (ht : TabOk l) : ∀ z ∈ packL default l,0 ≤ z ∧ z < 256:=by
  have hk : ∀ k,k ≤ l.length → ∀ z ∈ packL default (l.take k),0 ≤ z ∧ z < 256:=by
    intro k
    induction k with
    | zero=>intro _ z hz;simp [packL] at hz
    | succ k ih =>
      intro hk z hz
      have hlt : k < l.length:=by omega
      have hx : l[k]? = some l[k]:=List.getElem?_eq_getElem hlt
      rw [pack_step hx,List.mem_append] at hz
      rcases hz with hz | hz
      · exact ih (by omega) z hz
      · have hxR:=(ht.2.1 _ (List.mem_of_getElem? hx)).1
        have hord : (nowAt l k).sec ≤ (l[k]).sec ∧ ((nowAt l k).sec = (l[k]).sec → (nowAt l k).off ≤ (l[k]).off):=by
          cases k with
          | zero=>exact ⟨hxR.1.1,fun _=>hxR.2.1.1⟩
          | succ k =>
            have h1 : k < l.length:=by omega
            have e : nowAt l (k + 1) = l[k]:=by simp [nowAt,h1]
            have:=ht.2.2 k _ _ (List.getElem?_eq_getElem h1) hx
            rw [e]
            omega
        exact entry_byte _ _ (nowAt_rng (fun y hy=>(ht.2.1 y hy).1) (by omega)) hxR hord.1 hord.2 z hz
  have:=hk l.length (Nat.le_refl _)
  rwa [List.take_length] at this
end Go.Ev

namespace Go.Ev
open Go.RowKit Go.Proofs Go.Rw
def bodyL (o : ObjT) (C : SecT → ByteArray) : List Int:=[67,78,68,79] ++ listL (secL2 C) o.secs ++ listL symL o.syms ++ listL relL o.rels ++ listL textL o.files ++ (numL (packL default o.lines).length ++ packL default o.lines)
def sumL (l : List Int) : Int:=sumV (fun j=>l.getD j 0) l.length
def fileL (o : ObjT) (C : SecT → ByteArray) : List Int:=bodyL o C ++ wordL (sumL (bodyL o C))
def BytesR (o : ObjT) (C : SecT → ByteArray) (w : World) (e : Ending) (w' : World) : Prop:=Below w.heap.size w w' ∧ ((¬ ObjOk o ∧ e = .returned (.tuple #[.slice none 0 0,.int .i64 30])) ∨ (ObjOk o ∧ ∃ v,e = .returned (.tuple #[v,.int .i64 0]) ∧ w'.ownsRow w.heap.size 5 1 v (fileL o C).length (byL (fileL o C))))
theorem flat_bound {α : Type} (f : α → List Int) (b : Nat) : ∀ (l : List α),(∀ x ∈ l,(f x).length ≤ b) → (l.flatMap f).length ≤ l.length * b
  | [],_=>by simp
  | x :: l,h=>by
    have h1:=h x (List.mem_cons_self ..)
    have h2:=flat_bound f b l (fun y hy=>h y (List.mem_cons_of_mem _ hy))
    rw [List.flatMap_cons,List.length_append,List.length_cons,Nat.succ_mul]
    omega
theorem numL_l9 (n : Nat) (h : n ≤ 4611686018427387904) : (numL n).length ≤ 9:=numL_len 8 n (by omega)
theorem textL_l (s : ByteArray) (h : s.size ≤ 1000) : (textL s).length ≤ 1009:=by
  have:=numL_l9 s.size (by omega)
  rw [textL,List.length_append,strI_len]
  omega
theorem secL2_l {x : SecT} {C : SecT → ByteArray} (h : SecOk x) (hb : (C x).size = x.bn) (hn : x.bn ≤ 65536) : (secL2 C x).length ≤ 66581:=by
  obtain ⟨h1,⟨r0,r1⟩,⟨a0,a1⟩, -,z0,z1⟩:=h
  have t:=textL_l x.name (by have:=h1.2.1;omega)
  have n1:=numL_l9 x.rights.toNat (by omega)
  have n2:=numL_l9 x.align.toNat (by omega)
  have n3:=numL_l9 x.bn (by omega)
  have n4:=numL_l9 x.zero.toNat (by omega)
  unfold secL2 secL
  simp only [List.length_append,strI_len]
  omega
theorem symL_l {x : SymT} (h1 : x.name.size ≤ 1000) (h : (-1000000000 ≤ x.sec ∧ x.sec ≤ 1000000000) ∧ (0 ≤ x.val ∧ x.val ≤ 4294967295) ∧ (0 ≤ x.size ∧ x.size ≤ 4294967295) ∧ (0 ≤ x.bind ∧ x.bind ≤ 2) ∧ (0 ≤ x.kind ∧ x.kind ≤ 2)) : (symL x).length ≤ 1045:=by
  have t:=textL_l x.name h1
  have n1:=numL_l9 (zig x.sec) (zig_le (by omega) (by omega))
  have n2:=numL_l9 x.val.toNat (by omega)
  have n3:=numL_l9 x.size.toNat (by omega)
  have n4:=numL_l9 (x.bind + 4 * x.kind).toNat (by omega)
  unfold symL
  simp only [List.length_append]
  omega
theorem relL_l {x : RelT} (h : (0 ≤ x.sec ∧ x.sec ≤ 1000000000) ∧ (0 ≤ x.off ∧ x.off ≤ 1000000000) ∧ (0 ≤ x.kind ∧ x.kind ≤ 1000000000) ∧ (0 ≤ x.sym ∧ x.sym ≤ 1000000000) ∧ (-2147483648 ≤ x.add ∧ x.add ≤ 2147483647)) : (relL x).length ≤ 45:=by
  have n0:=numL_l9 x.sec.toNat (by omega)
  have n1:=numL_l9 x.off.toNat (by omega)
  have n2:=numL_l9 x.kind.toNat (by omega)
  have n3:=numL_l9 x.sym.toNat (by omega)
  have n4:=numL_l9 (zig x.add) (by unfold zig;split <;> omega)
  unfold relL
  simp only [List.length_append]
  omega
theorem secIn_size {w : World} {a : Option Addr} {n : Nat} {B : ByteArray} (h : SecIn w a n B) : B.size = n:=by
  have:=(srcB_of h).1
  rwa [strI_len] at this
theorem sec_small {o : ObjT} (h : ObjOk o) : ∀ x ∈ o.secs,SecOk x ∧ x.bn ≤ 65536 ∧ x.name.size ≤ 1000:=fun x hx=>by
  have h1:=h.1.2.1 x hx
  have h2:=lens_mem o.secs h.1.2.1 x hx
  have h3:=h.1.2.2.2
  have h4:=h1.2.2.2.2.1
  exact ⟨h1,by omega,by have:=h1.1.2.1;omega⟩
theorem sym_small {o : ObjT} (h : ObjOk o) (hR : o.R) : ∀ x ∈ o.syms,((-1000000000 ≤ x.sec ∧ x.sec ≤ 1000000000) ∧ (0 ≤ x.val ∧ x.val ≤ 4294967295) ∧ (0 ≤ x.size ∧ x.size ≤ 4294967295) ∧ (0 ≤ x.bind ∧ x.bind ≤ 2) ∧ (0 ≤ x.kind ∧ x.kind ≤ 2)) ∧ x.name.size ≤ 1000:=fun x hx=>by
  obtain ⟨h1,h2,h3,h4⟩:=h.2.1.2.1 x hx
  have hv : 0 ≤ x.val ∧ x.val ≤ 4294967295:=(hR.2.1 x hx).2.1
  have hn:=h1.2.1
  have hl:=h.1.1
  unfold DefOk at h4
  rcases h4 with ⟨e, -, -,es⟩ | ⟨e,es⟩ | ⟨e,y,hy,hs,-⟩
  · exact ⟨⟨by omega,hv,by omega,h2,h3⟩,by omega⟩
  · exact ⟨⟨by omega,hv,by omega,h2,h3⟩,by omega⟩
  · have hlt:=(List.getElem?_eq_some_iff.1 hy).1
    have hm:=lens_mem o.secs h.1.2.1 y (List.mem_of_getElem? hy)
    have hm2:=h.1.2.2.2
    exact ⟨⟨by omega,hv,by omega,h2,h3⟩,by omega⟩
theorem rel_small {o : ObjT} (h : ObjOk o) : ∀ x ∈ o.rels,(0 ≤ x.sec ∧ x.sec ≤ 1000000000) ∧ (0 ≤ x.off ∧ x.off ≤ 1000000000) ∧ (0 ≤ x.kind ∧ x.kind ≤ 1000000000) ∧ (0 ≤ x.sym ∧ x.sym ≤ 1000000000) ∧ (-2147483648 ≤ x.add ∧ x.add ≤ 2147483647):=fun x hx=>by
  obtain ⟨h1,h2,h3,h4,y,hy,h5,h6⟩:=h.2.2.1.2.1 x hx
  have hl:=h.1.1
  have hl2:=h.2.1.1
  have hm:=lens_mem o.secs h.1.2.1 y (List.mem_of_getElem? hy)
  have hm2:=h.1.2.2.2
  have hz:=(h.1.2.1 y (List.mem_of_getElem? hy)).2.2.2.2.1
  have hw:=width_in x.kind
  exact ⟨by omega,by omega,by omega,by omega,h4⟩
theorem owns_bytes {w : World} {base n c : Nat} {a : Option Addr} {L : List Int} (h : w.ownsRow base 5 1 (.slice a n c) n (byL L)) : BytesAt w a n (fun j=>L.getD j 0):=by
  have hl : L.length = n:=by have:=h.1;rw [byL_length] at this;omega
  have h':=h
  rcases h'.2 with ⟨h0,h1⟩ | ⟨g,cap,cur,h0,_⟩
  · cases h0
    exact .inl ⟨rfl,rfl⟩
  · cases h0
    refine .inr ⟨g,0,rfl,fun j hj=>?_⟩
    have h1:=h.cells (g:=g) rfl j (.int .u8 (L.getD j 0)) (by simp [byL,List.getD,show j < L.length by omega])
    rwa [cell_add] at h1
theorem bodyL_in {o : ObjT} {C : SecT → ByteArray} (h : ObjOk o) : ∀ z ∈ bodyL o C,InB z:=by
  have hb : ∀ z : Int,(0 ≤ z ∧ z < 256) → InB z:=fun z hz=>⟨hz.1,by omega⟩
  have hn : ∀ n,∀ z ∈ numL n,InB z:=fun n z hz=>hb z (numL_byte n z hz)
  have ht : ∀ s,∀ z ∈ textL s,InB z:=fun s z hz=>by
    unfold textL at hz
    rcases List.mem_append.1 hz with hz | hz
    · exact hn _ z hz
    · exact strI_in s z hz
  have hlist : ∀ {α : Type} (f : α → List Int) (l : List α),(∀ x,∀ z ∈ f x,InB z) → ∀ z ∈ listL f l,InB z:=fun f l hf z hz=>by
    unfold listL at hz
    rcases List.mem_append.1 hz with hz | hz
    · exact hn _ z hz
    · obtain ⟨x,_,hx⟩:=List.mem_flatMap.1 hz
      exact hf x z hx
  intro z hz
  unfold bodyL at hz
  simp only [List.mem_append] at hz
  rcases hz with ((((hz | hz) | hz) | hz) | hz) | hz | hz
  · simp only [List.mem_cons,List.not_mem_nil,or_false] at hz
    rcases hz with rfl | rfl | rfl | rfl <;> exact ⟨by omega,by omega⟩
  · refine hlist _ _ (fun x z hz=>?_) z hz
    unfold secL2 secL at hz
    simp only [List.mem_append] at hz
    rcases hz with hz | hz | hz | (hz | hz) | hz
    · exact ht _ z hz
    · exact hn _ z hz
    · exact hn _ z hz
    · exact hn _ z hz
    · exact strI_in _ z hz
    · exact hn _ z hz
  · refine hlist _ _ (fun x z hz=>?_) z hz
    unfold symL at hz
    simp only [List.mem_append] at hz
    rcases hz with hz | hz | hz | hz | hz
    · exact ht _ z hz
    all_goals exact hn _ z hz
  · refine hlist _ _ (fun x z hz=>?_) z hz
    unfold relL at hz
    simp only [List.mem_append] at hz
    rcases hz with hz | hz | hz | hz | hz
    all_goals exact hn _ z hz
  · exact hlist _ _ (fun x=>ht x) z hz
  · exact hn _ z hz
  · exact hb z (packL_byte h.2.2.2.2.1 z hz)
theorem sumL_in (l : List Int) : 0 ≤ sumL l ∧ sumL l ≤ 4294967295:=by unfold sumL sumV;exact bits_u32 _ _ _
end Go.Ev

namespace Go.Ev
open Go.RowKit Go.Proofs Go.Rw
abbrev Rx (α : Type):=Except (Nat × Int) (α × Nat)
def Beg (all : List Nat) (p : Nat) (l : List Nat) (q : Nat) : Prop:=q = p + l.length ∧ q ≤ all.length ∧ all.drop p = l ++ all.drop q
theorem Beg.split {all : List Nat} {p q : Nat} {l1 l2 : List Nat} (h : Beg all p (l1 ++ l2) q) : Beg all p l1 (p + l1.length) ∧ Beg all (p + l1.length) l2 q:=by
  obtain ⟨h1,h2,h3⟩:=h
  rw [List.length_append] at h1
  have e : all.drop (p + l1.length) = l2 ++ all.drop q:=by
    rw [← List.drop_drop,h3,List.append_assoc,List.drop_left]
  exact ⟨⟨rfl,by omega,by rw [h3,e,List.append_assoc]⟩,by omega,h2,e⟩
theorem Beg.join {all : List Nat} {p q r : Nat} {l1 l2 : List Nat} (h : Beg all p l1 q) (h' : Beg all q l2 r) : Beg all p (l1 ++ l2) r:=by
  obtain ⟨h1,h2,h3⟩:=h
  obtain ⟨h4,h5,h6⟩:=h'
  exact ⟨by rw [List.length_append];omega,h5,by rw [h3,h6,List.append_assoc]⟩
theorem Beg.nil {all : List Nat} {p : Nat} (h : p ≤ all.length) : Beg all p [] p:=⟨rfl,h,rfl⟩
theorem Beg.le {all : List Nat} {p q : Nat} {l : List Nat} (h : Beg all p l q) : p + l.length = q ∧ q ≤ all.length:=⟨h.1.symm,h.2.1⟩
def upF (all : List Nat) (p most : Nat) : Rx Nat:=match leadF (all.drop p) with
  | none=>.error (p,4)
  | some (x,s)=>if x ≤ most then .ok (x,p + s) else .error (p,4)
theorem leadF_in {l : List Nat} {x s : Nat} (h : leadF l = some (x,s)) : 0 < s ∧ s ≤ l.length ∧ x ≤ 4294967295:=by
  have:=leadGo_le l 0 0 x s h
  omega
theorem upF_ok {all : List Nat} {p most : Nat} {y : Nat × Nat} (hy : upF all p most = .ok y) : ∃ s,leadF (all.drop p) = some (y.1,s) ∧ y.2 = p + s ∧ y.1 ≤ most:=by
  unfold upF at hy
  cases hl : leadF (all.drop p) with
  | none=>rw [hl] at hy;cases hy
  | some r =>
    rw [hl] at hy
    dsimp only at hy
    split at hy
    · cases hy;exact ⟨_,rfl,rfl,by assumption⟩
    · cases hy
theorem upF_le {all : List Nat} {p most : Nat} {y : Nat × Nat} (hy : upF all p most = .ok y) : y.1 ≤ most ∧ y.1 ≤ 4294967295 ∧ p < y.2:=by
  obtain ⟨s,h1,h2,h3⟩:=upF_ok hy
  have:=leadF_in h1
  omega
theorem numL_step {c m : Nat} (hc : 128 ≤ c) (hc2 : c < 256) : toN (numL (c % 128 + 128 * m)) = if m = 0 ∧ False then [] else (if c % 128 + 128 * m < 128 then [c % 128 + 128 * m] else c :: toN (numL m)):=by
  rw [if_neg (by simp)]
  by_cases h : c % 128 + 128 * m < 128
  · rw [if_pos h,numL_lt h];simp only [toN,List.map_cons,List.map_nil,Int.toNat_natCast]
  · rw [if_neg h,numL_ge h]
    have e1 : (c % 128 + 128 * m) % 128 + 128 = c:=by omega
    have e2 : (c % 128 + 128 * m) / 128 = m:=by omega
    rw [e1,e2]
    simp [toN]
theorem lead_back : ∀ (l : List Nat) (i acc x s : Nat),(∀ y ∈ l,y < 256) → leadGo i acc l = some (x,s) → ∃ n k,x = acc + n * 128 ^ i ∧ s = i + k ∧ (0 < i → 0 < n) ∧ k = (toN (numL n)).length ∧ l.take k = toN (numL n)
  | [],i,acc,x,s,_,h=>by simp [leadGo] at h
  | c :: r,i,acc,x,s,hb,h=>by
    have hc:=hb c (by simp)
    rw [leadGo] at h
    by_cases h5 : 5 ≤ i
    · rw [if_pos h5] at h;cases h
    · rw [if_neg h5] at h
      by_cases h1 : c < 128
      · rw [if_pos h1] at h
        by_cases h2 : (c = 0 ∧ 0 < i) ∨ 4294967295 < acc + c % 128 * 128 ^ i
        · rw [if_pos h2] at h;cases h
        · rw [if_neg h2] at h
          cases h
          have e : c % 128 = c:=by omega
          have e3 : toN (numL c) = [c]:=by rw [numL_lt h1];simp [toN]
          refine ⟨c,1,by rw [e],rfl,fun hi=>?_,by rw [e3];rfl,by rw [e3];rfl⟩
          have:=fun h=>h2 (.inl h)
          omega
      · rw [if_neg h1] at h
        obtain ⟨n,k,h6,h7,h8,h9,h10⟩:=lead_back r (i + 1) _ x s (fun y hy=>hb y (by simp [hy])) h
        have hn:=h8 (by omega)
        have e : toN (numL (c % 128 + 128 * n)) = c :: toN (numL n):=by
          have:=numL_step (c:=c) (m:=n) (by omega) hc
          rw [if_neg (by simp),if_neg (by omega)] at this
          exact this
        refine ⟨c % 128 + 128 * n,k + 1,?_,by omega,fun _=>by omega,by rw [e,List.length_cons,h9],by rw [e,List.take_succ_cons,h10]⟩
        rw [h6,Nat.pow_succ,Nat.add_mul,Nat.add_assoc]
        congr 2
        rw [Nat.mul_comm (128 ^ i) 128,← Nat.mul_assoc,Nat.mul_comm n 128]
theorem upF_back {all : List Nat} {p most : Nat} {y : Nat × Nat} (hb : ∀ x ∈ all,x < 256) (hp : p ≤ all.length) (hy : upF all p most = .ok y) : Beg all p (toN (numL y.1)) y.2 ∧ y.1 ≤ most ∧ y.1 ≤ 4294967295:=by
  obtain ⟨s,h1,h2,h3⟩:=upF_ok hy
  obtain ⟨h4,h5,h6⟩:=leadF_in h1
  obtain ⟨n,k,e1,e2, -,e3,e4⟩:=lead_back _ 0 0 _ s (fun x hx=>hb x (List.mem_of_mem_drop hx)) h1
  rw [Nat.pow_zero,Nat.mul_one,Nat.zero_add] at e1
  rw [Nat.zero_add] at e2
  rw [List.length_drop] at h5
  subst e2
  rw [e1]
  refine ⟨⟨by omega,by omega,?_⟩,by omega,by omega⟩
  rw [h2,← List.drop_drop,← e4,List.take_append_drop]
theorem upF_fwd {all : List Nat} {p q most n : Nat} (h : Beg all p (toN (numL n)) q) (hn : n ≤ 4294967295) (hm : n ≤ most) : upF all p most = .ok (n,q):=by
  obtain ⟨h1,h2,h3⟩:=h
  have h5 : nbs n ≤ 5:=numL_len 4 n (by omega)
  have:=lead_num n 0 0 (all.drop q) (by omega) (by omega) (by omega)
  have hl : leadF (all.drop p) = some (n,nbs n):=by
    unfold leadF
    rw [h3,this]
    simp
  unfold upF
  rw [hl]
  dsimp only
  rw [if_pos hm,h1,toN_len]
def nbF (all : List Nat) (p : Nat) : Rx Nat:=upF all p 4294967295
def tkF (all : List Nat) (p k : Nat) : Rx (List Nat):=if k ≤ all.length - p then .ok ((all.drop p).take k,p + k) else .error (p,4)
theorem tkF_fwd {all l : List Nat} {p q k : Nat} (h : Beg all p l q) (hk : k = l.length) : tkF all p k = .ok (l,q):=by
  obtain ⟨h1,h2,h3⟩:=h
  unfold tkF
  rw [if_pos (by omega),h3,hk,List.take_left,h1]
theorem tkF_back {all : List Nat} {p k : Nat} {y : List Nat × Nat} (hp : p ≤ all.length) (h : tkF all p k = .ok y) : Beg all p y.1 y.2 ∧ y.1.length = k:=by
  unfold tkF at h
  split at h
  · cases h
    have e : ((all.drop p).take k).length = k:=by rw [List.length_take,List.length_drop];omega
    exact ⟨⟨by rw [e],by dsimp only;omega,by dsimp only;rw [← List.drop_drop,List.take_append_drop]⟩,e⟩
  · cases h
def cntF (all : List Nat) (p most : Nat) : Rx (List Nat):=(upF all p most).bind fun y=>tkF all y.2 y.1
theorem bind_ok {α β : Type} {m : Rx α} {f : α × Nat → Rx β} {z : β × Nat} (h : m.bind f = .ok z) : ∃ y,m = .ok y ∧ f y = .ok z:=by
  cases m with
  | error x=>cases h
  | ok y=>exact ⟨y,rfl,h⟩
def cntL (l : List Nat) : List Nat:=toN (numL l.length) ++ l
theorem cntF_fwd {all l : List Nat} {p q most : Nat} (h : Beg all p (cntL l) q) (hn : l.length ≤ 4294967295) (hm : l.length ≤ most) : cntF all p most = .ok (l,q):=by
  obtain ⟨h1,h2⟩:=h.split
  unfold cntF
  rw [upF_fwd h1 hn hm]
  exact tkF_fwd h2 rfl
theorem cntF_back {all : List Nat} {p most : Nat} {y : List Nat × Nat} (hb : ∀ x ∈ all,x < 256) (hp : p ≤ all.length) (h : cntF all p most = .ok y) : Beg all p (cntL y.1) y.2 ∧ y.1.length ≤ most:=by
  obtain ⟨z,h1,h2⟩:=bind_ok h
  obtain ⟨h3,h4,h5⟩:=upF_back hb hp h1
  obtain ⟨h6,h7⟩:=tkF_back h3.2.1 h2
  unfold cntL
  rw [h7]
  exact ⟨h3.join h6,h4⟩
def strN (l : List Nat) : ByteArray:=Go.strOfNums (l.map (fun x : Nat=>(x : Int)))
theorem strN_data (l : List Nat) : (strN l).data.toList = l.map UInt8.ofNat:=by
  unfold strN Go.strOfNums
  simp
theorem strN_strI (s : ByteArray) : strN (toN (strI s)) = s:=by
  have h : (strN (toN (strI s))).data.toList = s.data.toList:=by
    rw [strN_data]
    unfold toN strI
    rw [List.map_map,List.map_map]
    conv=>rhs;rw [← List.map_id s.data.toList]
    apply List.map_congr_left
    intro b _
    simp
  cases s with
  | mk d =>
    have h2 : (strN (toN (strI ⟨d⟩))).data = d:=Array.toList_inj.1 h
    cases h3 : strN (toN (strI ⟨d⟩)) with
    | mk d2=>rw [h3] at h2;exact congrArg ByteArray.mk h2
theorem strI_strN {l : List Nat} (h : ∀ x ∈ l,x < 256) : toN (strI (strN l)) = l:=by
  unfold strI
  rw [strN_data]
  unfold toN
  rw [List.map_map,List.map_map]
  conv=>rhs;rw [← List.map_id l]
  apply List.map_congr_left
  intro x hx
  have:=h x hx
  simp [Nat.mod_eq_of_lt this]
theorem strN_size (l : List Nat) : (strN l).size = l.length:=by
  have:=congrArg List.length (strN_data l)
  simpa using this
def txtF (all : List Nat) (p most : Nat) : Rx ByteArray:=(cntF all p most).bind fun y=>.ok (strN y.1,y.2)
theorem textL_cnt (s : ByteArray) : toN (textL s) = cntL (toN (strI s)):=by
  unfold textL cntL
  rw [toN_append,toN_len,strI_len]
theorem Beg.mem {all l : List Nat} {p q : Nat} (h : Beg all p l q) : ∀ x ∈ l,x ∈ all:=fun x hx=>List.mem_of_mem_drop (by rw [h.2.2];exact List.mem_append_left _ hx)
theorem txtF_fwd {all : List Nat} {p q most : Nat} {s : ByteArray} (h : Beg all p (toN (textL s)) q) (hm : s.size ≤ most) (hn : s.size ≤ 4294967295) : txtF all p most = .ok (s,q):=by
  rw [textL_cnt] at h
  have hl : (toN (strI s)).length = s.size:=by rw [toN_len,strI_len]
  unfold txtF
  rw [cntF_fwd h (by omega) (by omega)]
  show Except.ok (strN (toN (strI s)),q) = _
  rw [strN_strI]
theorem txtF_back {all : List Nat} {p most : Nat} {y : ByteArray × Nat} (hb : ∀ x ∈ all,x < 256) (hp : p ≤ all.length) (h : txtF all p most = .ok y) : Beg all p (toN (textL y.1)) y.2 ∧ y.1.size ≤ most:=by
  obtain ⟨z,h1,h2⟩:=bind_ok h
  cases h2
  obtain ⟨h3,h4⟩:=cntF_back hb hp h1
  dsimp only
  rw [textL_cnt,strN_size]
  have hz : ∀ x ∈ z.1,x < 256:=fun x hx=>hb x (h3.mem x (List.mem_append_right _ hx))
  rw [strI_strN hz]
  exact ⟨h3,h4⟩
def sgnF (all : List Nat) (p : Nat) : Rx Int:=(nbF all p).bind fun y=>.ok (unzig y.1,y.2)
theorem sgnF_fwd {all : List Nat} {p q : Nat} {z : Int} (h : Beg all p (toN (numL (zig z))) q) (hz : zig z ≤ 4294967295) : sgnF all p = .ok (z,q):=by
  unfold sgnF nbF
  rw [upF_fwd h hz hz]
  show Except.ok (unzig (zig z),q) = _
  rw [unzig_zig]
theorem sgnF_back {all : List Nat} {p : Nat} {y : Int × Nat} (hb : ∀ x ∈ all,x < 256) (hp : p ≤ all.length) (h : sgnF all p = .ok y) : Beg all p (toN (numL (zig y.1))) y.2:=by
  obtain ⟨z,h1,h2⟩:=bind_ok h
  cases h2
  dsimp only
  rw [zig_unzig]
  exact (upF_back hb hp h1).1
end Go.Ev

namespace Go.Ev
open Go.RowKit Go.Proofs Go.Rw
structure RS (w : World) (R b o n c : Nat) (all : List Nat) (p : Nat) : Prop where
  blk : w.heap[R]? = some (.cells #[.slice (some ⟨b,o,none⟩) n c,.int .i64 p] 125 (0,0))
  at_ : AllAt w b o n all
  ne : b ≠ R
  low : b < w.heap.size
  pn : p ≤ n
  nc : n ≤ c
  nn : n ≤ 140737488351232
def Stp (R : Nat) (w w' : World) : Prop:=Wst w w' R none none
theorem Stp.refl (R : Nat) (w : World) : Stp R w w:=Wst.refl w R none
theorem Stp.trans {R : Nat} {w w1 w2 : World} (h : Stp R w w1) (h' : Stp R w1 w2) : Stp R w w2:=Wst.trans h h'
theorem Stp.cell {R : Nat} {w w' : World} (h : Stp R w w') {p : Addr} {v : Value} (hc : w.cell? p = some v) (hg : p.block ≠ R) : w'.cell? p = some v:=Wst.cell h hc hg (fun e=>by cases e)
theorem Stp.drewN {R : Nat} {w w' : World} (h : Stp R w w') (k : Nat) : Stp R w (w'.drewN k):=⟨h.os,h.tape,h.output,h.size,h.block,h.fresh⟩
theorem Stp.set {R : Nat} {w w' : World} (h : Stp R w w') (i : Nat) (x : Value) : Stp R w (w'.setCell ⟨R,i,none⟩ x):=⟨h.os,h.tape,h.output,by rw [World.size_setCell];exact h.size,fun k hk hg ho=>(heap_setCell_other w' ⟨R,i,none⟩ k x hg).trans (h.block k hk hg ho),h.fresh⟩
theorem Stp.alloc {R : Nat} {w w' : World} (h : Stp R w w') (A : Obj) : Stp R w (w'.alloc A):=Wst.alloc h A
theorem Stp.of_below {R : Nat} {w w' : World} (h : Below w.heap.size w w') : Stp R w w':=⟨h.os,h.tape,h.output,h.size,fun k hk _ _=>h.block k hk,.inl rfl⟩
theorem Stp.below {R base : Nat} {w w' : World} (h : Stp R w w') (hb : base ≤ w.heap.size) (hg : base ≤ R) : Below base w w':=Wst.below h hb hg (fun k e=>by cases e)
section
variable {w w' : World} {R b o n c p : Nat} {all : List Nat}
theorem RS.cells (h : RS w R b o n c all p) : w.cell? ⟨R,0,none⟩ = some (.slice (some ⟨b,o,none⟩) n c) ∧ w.cell? ⟨R,1,none⟩ = some (.int .i64 (p : Int)) ∧ w.frozen? ⟨R,1,none⟩ = false:=by
  have h0:=h.blk
  refine ⟨?_,?_,?_⟩ <;> simp [World.cell?,World.frozen?,h0]
theorem RS.rlow (h : RS w R b o n c all p) : R < w.heap.size:=(Array.getElem?_eq_some_iff.1 h.blk).1
theorem AllAt.stp (h : AllAt w b o n all) (hs : Stp R w w') (hne : b ≠ R) : AllAt w' b o n all:=⟨h.1,h.2.1,fun j hj=>hs.cell (h.2.2 j hj) hne⟩
theorem RS.to (h : RS w R b o n c all p) (hs : Stp R w w') {q : Nat} (hq : q ≤ n) (hb : w'.heap[R]? = some (.cells #[.slice (some ⟨b,o,none⟩) n c,.int .i64 q] 125 (0,0))) : RS w' R b o n c all q :=
  ⟨hb,h.at_.stp hs h.ne,h.ne,Nat.lt_of_lt_of_le h.low hs.size,hq,h.nc,h.nn⟩
theorem RS.set (h : RS w R b o n c all p) {q : Nat} (hq : q ≤ n) : RS (w.setCell ⟨R,1,none⟩ (.int .i64 q)) R b o n c all q :=
  h.to ((Stp.refl R w).set 1 _) hq (heap_setCell_same _ _ 1 _ _ _ h.blk)
theorem RS.keep (h : RS w R b o n c all p) (hb : Below w.heap.size w w') : RS w' R b o n c all p :=
  h.to (Stp.of_below hb) h.pn ((hb.block R h.rlow).trans h.blk)
theorem RS.drewN (h : RS w R b o n c all p) (k : Nat) : RS (w.drewN k) R b o n c all p:=h.to ((Stp.refl R w).drewN k) h.pn h.blk
end
def RdR {α : Type} (R b o n c : Nat) (all : List Nat) (V : α → World → Value → Prop) (m : Except (Nat × Int) (α × Nat)) (w : World) (e : Ending) (w' : World) : Prop :=
  Stp R w w' ∧ match m with
    | .error x=>e = .panicked [fltV x.1 x.2]
    | .ok y=>∃ v,e = .returned v ∧ V y.1 w' v ∧ RS w' R b o n c all y.2
theorem RdR.no {α : Type} {R b o n c f : Nat} {all : List Nat} {V : α → World → Value → Prop} {m : Except (Nat × Int) (α × Nat)} {w : World} {args : Array Value} (h : Calls Tryz.prog f args w (RdR R b o n c all V m w)) {x : Nat × Int} (hm : m = .error x) :
    Calls Tryz.prog f args w fun e w'=>e = .panicked [fltV x.1 x.2] ∧ Stp R w w':=by
  subst hm
  exact h.mono fun e w' ⟨h1,h2⟩=>⟨h2,h1⟩
theorem RdR.yes {α : Type} {R b o n c f : Nat} {all : List Nat} {V : α → World → Value → Prop} {m : Except (Nat × Int) (α × Nat)} {w : World} {args : Array Value} (h : Calls Tryz.prog f args w (RdR R b o n c all V m w)) {y : α × Nat} (hm : m = .ok y) :
    Calls Tryz.prog f args w fun e w'=>∃ v,e = .returned v ∧ V y.1 w' v ∧ RS w' R b o n c all y.2 ∧ Stp R w w':=by
  subst hm
  exact h.mono fun e w' ⟨h1,v,h2,h3,h4⟩=>⟨v,h2,h3,h4,h1⟩
def NumV (x : Nat) (_ : World) (v : Value) : Prop:=v = .int .i64 (x : Int)
theorem upF_none {all : List Nat} {p most : Nat} (h : leadF (all.drop p) = none) : upF all p most = .error (p,4):=by unfold upF;rw [h]
theorem upF_yes {all : List Nat} {p most x s : Nat} (h : leadF (all.drop p) = some (x,s)) (hx : x ≤ most) : upF all p most = .ok (x,p + s):=by unfold upF;rw [h];exact if_pos hx
theorem upF_no {all : List Nat} {p most x s : Nat} (h : leadF (all.drop p) = some (x,s)) (hx : ¬ x ≤ most) : upF all p most = .error (p,4):=by unfold upF;rw [h];exact if_neg hx
set_option maxRecDepth 100000 in
set_option maxHeartbeats 400000 in
theorem upTo2_c {w : World} {R b o n c p most : Nat} {all : List Nat} (h : RS w R b o n c all p) (hm : most ≤ 4294967295) :
    Calls Tryz.prog 227 #[.pointer (some ⟨R,0,none⟩),.int .i64 (most : Int)] w (RdR R b o n c all NumV (upF all p most) w):=by
  obtain ⟨c0,c1,f1⟩:=h.cells
  have hst:=h
  obtain ⟨h0,hA,hbR,hlo,hp,hnc,hc⟩:=h
  obtain ⟨a1,a2,a3⟩:=hA
  have hst:=Lib.hid hst
  clear h0 hlo
  obtain ⟨L,hL⟩ : ∃ L,L = leadF (all.drop p):=⟨_,rfl⟩
  have hl:=fun (W : World) (a : Option Addr) (c2 : Nat) (hb : BytesAt W a (all.drop p).length (fun j=>(((all.drop p).getD j 0 : Nat) : Int))) (hc2 : (all.drop p).length ≤ c2)=>lead_c (all.drop p) hb (fun x hx=>a2 x (List.mem_of_mem_drop hx)) (by rw [List.length_drop];omega) hc2
  have hlen : (all.drop p).length = n - p:=by rw [List.length_drop,a1]
  rw [← hL,hlen] at hl
  have hpn : (p : Int) ≤ (n : Int):=by omega
  by_cases hcp : c = p
  · subst hcp
    have hnc2 : n = c:=by omega
    subst hnc2
    rw [Nat.sub_self] at hl hlen
    obtain rfl : L = none:=by rw [hL,List.drop_eq_nil_of_le (by omega)];rfl
    rw [upF_none hL.symm]
    have hcl:=show Calls Tryz.prog 238 #[.slice (some ⟨b,o,none⟩) 0 0] w fun e w'=>e = .returned (.tuple #[.int .i64 0,.int .i64 0]) ∧ ∃ k,w' = w.drewN k from hl w _ 0 (.inr ⟨b,o,rfl,fun j hj=>by omega⟩) (Nat.le_refl _)
    clear a2 a3 hL hl
    go_enter Tryz.func227,Tryz.ntmps227
    go_wp2_with fail
    refine hcl.mono ?_
    rintro e w1 ⟨rfl,q1,rfl⟩
    go_wp2_with (go_at_call 172;refine (must_no _ _).mono ?_;rintro e w2 ⟨rfl,rfl⟩)
    exact ⟨rfl,(Stp.refl R w).drewN q1,rfl⟩
  · have ha3 : ∀ j,j < n - p → w.cell? ⟨b,o + p + j,none⟩ = some (.int .u8 (((all.drop p).getD j 0 : Nat) : Int)):=fun j hj=>by
      have:=a3 (p + j) (by omega)
      rw [← Nat.add_assoc] at this
      rw [this]
      simp [List.getD,List.getElem?_drop]
    cases L with
    | none =>
      rw [upF_none hL.symm]
      have hcl:=show Calls Tryz.prog 238 #[.slice (some ⟨b,o + p,none⟩) (n - p) (c - p)] w fun e w'=>e = .returned (.tuple #[.int .i64 0,.int .i64 0]) ∧ ∃ k,w' = w.drewN k from hl w _ _ (.inr ⟨b,o + p,rfl,ha3⟩) (by omega)
      clear a2 a3 hL hl ha3
      go_enter Tryz.func227,Tryz.ntmps227
      go_wp2_with fail
      refine hcl.mono ?_
      rintro e w1 ⟨rfl,q1,rfl⟩
      go_wp2_with (go_at_call 172;refine (must_no _ _).mono ?_;rintro e w2 ⟨rfl,rfl⟩)
      exact ⟨rfl,(Stp.refl R w).drewN q1,rfl⟩
    | some r =>
      obtain ⟨x,s⟩:=r
      have hcl:=show Calls Tryz.prog 238 #[.slice (some ⟨b,o + p,none⟩) (n - p) (c - p)] w fun e w'=>e = .returned (.tuple #[.int .i64 (x : Int),.int .i64 (s : Int)]) ∧ ∃ k,w' = w.drewN k from hl w _ _ (.inr ⟨b,o + p,rfl,ha3⟩) (by omega)
      obtain ⟨hs0,hs1,hx⟩:=leadF_le hL.symm
      rw [hlen] at hs1
      have hsd : decide ((0 : Int) < (s : Int)) = true:=decide_eq_true (by omega)
      have hsd2 : decide (0 < s) = true:=decide_eq_true (by omega)
      by_cases hxm : x ≤ most
      · rw [upF_yes hL.symm hxm]
        have hxd : decide ((x : Int) ≤ (most : Int)) = true:=decide_eq_true (by omega)
        have hxd2 : decide (x ≤ most) = true:=decide_eq_true (by omega)
        obtain ⟨q,hq⟩ : ∃ q : Nat,q = p + s:=⟨_,rfl⟩
        have hqn : q ≤ n:=by clear hcl hl ha3 a2 a3;omega
        have hw4 : (p : Int) + (s : Int) = (q : Int):=by omega
        have hq0 : (-9223372036854775808 : Int) ≤ (q : Int):=by clear hcl hl ha3 a2 a3;omega
        have hq1 : (q : Int) ≤ 9223372036854775807:=by clear hcl hl ha3 a2 a3;omega
        have hw5 : wrap64 (q : Int) = (q : Int):=wrap_in hq0 hq1
        have hw3 : wrap64 ((p : Int) + (s : Int)) = (q : Int):=by rw [hw4];exact hw5
        clear hq0 hq1
        rw [← hq]
        have hfin:=Lib.hid (fun k=>(hst.out.drewN k).set hqn)
        clear hq a2 a3 hL hl ha3 hxm
        go_enter Tryz.func227,Tryz.ntmps227
        go_wp2_with fail
        refine hcl.mono ?_
        rintro e w1 ⟨rfl,q1,rfl⟩
        go_wp2_with (go_at_call 172;refine (must_yes _ _).mono ?_;rintro e w2 ⟨rfl,rfl⟩)
        go_ret
        exact ⟨((Stp.refl R w).drewN q1).set 1 _,_,rfl,rfl,by first | exact hfin.out q1 | (rw [hw5];exact hfin.out q1)⟩
      · rw [upF_no hL.symm hxm]
        have hxd : decide ((x : Int) ≤ (most : Int)) = false:=decide_eq_false (by omega)
        have hxd2 : decide (x ≤ most) = false:=decide_eq_false hxm
        clear a2 a3 hL hl ha3 hxm
        go_enter Tryz.func227,Tryz.ntmps227
        go_wp2_with fail
        refine hcl.mono ?_
        rintro e w1 ⟨rfl,q1,rfl⟩
        go_wp2_with (go_at_call 172;refine (must_no _ _).mono ?_;rintro e w2 ⟨rfl,rfl⟩)
        exact ⟨rfl,(Stp.refl R w).drewN q1,rfl⟩
theorem number2_c {w : World} {R b o n c p : Nat} {all : List Nat} (h : RS w R b o n c all p) :
    Calls Tryz.prog 191 #[.pointer (some ⟨R,0,none⟩)] w (RdR R b o n c all NumV (nbF all p) w):=by
  have hu:=upTo2_c (most:=4294967295) h (by omega)
  change Calls Tryz.prog 227 _ w (RdR R b o n c all NumV (nbF all p) w) at hu
  generalize nbF all p = m at hu
  cases m with
  | error x =>
    have hu:=RdR.no hu rfl
    go_enter Tryz.func191,Tryz.ntmps191
    go_wp2_with fail
    refine hu.mono ?_
    rintro e w1 ⟨rfl,hs⟩
    go_wp2
    exact ⟨rfl,hs,rfl⟩
  | ok y =>
    have hu:=RdR.yes hu rfl
    go_enter Tryz.func191,Tryz.ntmps191
    go_wp2_with fail
    refine hu.mono ?_
    rintro e w1 ⟨v,rfl,rfl,hr,hs⟩
    go_wp2
    go_ret
    exact ⟨hs,_,rfl,rfl,hr⟩
end Go.Ev

