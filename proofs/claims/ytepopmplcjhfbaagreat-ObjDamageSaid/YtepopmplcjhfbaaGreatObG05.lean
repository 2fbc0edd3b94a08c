import Derived.Test.YtepopmplcjhfbaaGreatObG00
import Derived.Test.YtepopmplcjhfbaaGreatObG01
import Derived.Maps.OwnSet
import Derived.Maps.Views
import Derived.Deep.LoopGhost
set_option linter.unusedSectionVars false
set_option linter.unusedVariables false
set_option linter.unusedSimpArgs false
set_option linter.unnecessarySimpa false
namespace Go.Ev
open Go.RowKit Go.Proofs Go.Rw
def startC (c : Nat) : Prop:=(65 ≤ c ∧ c ≤ 90) ∨ (97 ≤ c ∧ c ≤ 122) ∨ c = 95 ∨ c = 46
instance (c : Nat) : Decidable (startC c):=by unfold startC;exact inferInstance
def partC (c : Nat) : Prop:=startC c ∨ (48 ≤ c ∧ c ≤ 57) ∨ c = 36
instance (c : Nat) : Decidable (partC c):=by unfold partC;exact inferInstance
def BoolX (r : Bool) (w : World) (e : Ending) (w' : World) : Prop:=e = .returned (.bool r) ∧ w' = w
theorem boolx_eq {x r : Bool} {w : World} (h : x = r) : BoolX r w (.returned (.bool x)) w:=by subst h;exact ⟨rfl,rfl⟩
theorem boolx_yes {r : Bool} {w : World} (h : r = true) : BoolX r w (.returned (.bool true)) w:=by subst h;exact ⟨rfl,rfl⟩
set_option maxRecDepth 100000 in
set_option maxHeartbeats 1000000 in
theorem start_c {w : World} {c : Nat} (hc : c < 256) : Calls Tryz.prog 236 #[.int .u8 (c : Int)] w (BoolX (decide (startC c)) w):=by
  have hy:=Lib.hid (fun (h : startC c)=>decide_eq_true h)
  have hn:=Lib.hid (fun (h : ¬ startC c)=>decide_eq_false h)
  generalize decide (startC c) = r at hy hn
  go_enter Tryz.func236,Tryz.ntmps236
  go_wp2
  all_goals (go_ret;refine boolx_eq ?_;by_cases h : startC c)
  all_goals first
    | exact (hy.out h).symm
    | exact (hn.out h).symm
    | (rw [hy.out h];unfold startC at h;first | rfl | (simp;omega) | (exfalso;omega))
    | (rw [hn.out h];unfold startC at h;first | rfl | (simp;omega) | (exfalso;omega))
set_option maxRecDepth 100000 in
set_option maxHeartbeats 1000000 in
theorem part_c {w : World} {c : Nat} (hc : c < 256) : Calls Tryz.prog 237 #[.int .u8 (c : Int)] w (BoolX (decide (partC c)) w):=by
  have hS:=start_c (w:=w) hc
  have hy:=Lib.hid (fun (h : partC c)=>decide_eq_true h)
  have hn:=Lib.hid (fun (h : ¬ partC c)=>decide_eq_false h)
  generalize decide (partC c) = r at hy hn
  by_cases hs : startC c
  · rw [decide_eq_true hs] at hS
    have hr:=Lib.hid (hy.out (.inl hs))
    clear hs hy hn
    go_enter Tryz.func237,Tryz.ntmps237
    go_wp2_with (go_at_call 236;refine hS.mono ?_;rintro e w1 ⟨rfl,rfl⟩)
    go_ret
    exact boolx_yes hr.out
  · rw [decide_eq_false hs] at hS
    have hs2:=Lib.hid hs
    clear hs
    go_enter Tryz.func237,Tryz.ntmps237
    go_wp2_with (go_at_call 236;refine hS.mono ?_;rintro e w1 ⟨rfl,rfl⟩)
    all_goals (go_ret;refine boolx_eq ?_;by_cases h : (48 ≤ c ∧ c ≤ 57) ∨ c = 36)
    all_goals first
      | exact (hy.out (.inr h)).symm
      | exact (hn.out (fun h'=>h'.elim hs2.out h)).symm
      | (rw [hy.out (.inr h)];first | rfl | (simp;omega) | (exfalso;omega))
      | (rw [hn.out (fun h'=>h'.elim hs2.out h)];first | rfl | (simp;omega) | (exfalso;omega))
theorem name_part {k c : Nat} (h : okC k c) : partC c:=by
  unfold okC at h
  unfold partC startC
  omega
theorem name_start {c : Nat} : okC 0 c ↔ startC c:=by
  unfold okC startC
  omega
theorem name_of {s : ByteArray} (h1 : 1 ≤ s.size) (h2 : s.size ≤ 40) (h0 : startC (s[0]'h1).toNat) (h : ∀ k,(h : k < s.size) → partC (s[k]'h).toNat) : NameOk s:=by
  refine ⟨h1,h2,fun k hk=>?_⟩
  by_cases e : k = 0
  · subst e;exact name_start.2 h0
  · have:=h k hk
    unfold partC startC at this
    unfold okC
    omega
set_option maxRecDepth 100000 in
set_option maxHeartbeats 1000000 in
theorem pname_c {w : World} (s : ByteArray) (hs : s.size ≤ 140737488351232) : Calls Tryz.prog 223 #[.string s] w (NmR s w):=by
  by_cases hw : 1 ≤ s.size ∧ s.size ≤ 40
  · have hW:=within_yes (w:=w) (n:=(s.size : Int)) (a:=1) (b:=40) (by omega) (by omega)
    have h1 : 0 < s.size:=hw.1
    have hS:=start_c (w:=w) (s[0]'h1).toNat_lt
    by_cases h0 : startC (s[0]'h1).toNat
    · rw [decide_eq_true h0] at hS
      have hok:=Lib.hid (name_of hw.1 hw.2 h0)
      have hP:=fun k (h : k < s.size)=>part_c (w:=w) (s[k]'h).toNat_lt
      have hno:=Lib.hid (fun k (h : k < s.size) (hn : ¬ partC (s[k]'h).toNat) (h' : NameOk s)=>hn (name_part (h'.2.2 k h)))
      clear h0
      go_enter Tryz.func223,Tryz.ntmps223
      go_wp2_with (first | (go_at_call 221;refine hW.mono ?_;rintro e w1 ⟨rfl,rfl⟩) | (go_at_call 236;refine hS.mono ?_;rintro e w1 ⟨rfl,rfl⟩))
      go_loop [16] (fun i=>∃ k : Nat,k ≤ s.size ∧ i = .int .i64 k ∧ (∀ j,(h : j < s.size) → j < k → partC (s[j]'h).toNat)) (fun i=>s.size - (intOf i).toNat)
      case atStart=>exact ⟨0,by omega,rfl,fun j _ hj=>by omega⟩
      case round =>
        obtain ⟨k,hk,rfl,hall⟩:=hrel
        have hall:=Lib.hid hall
        by_cases hlt : k < s.size
        · have hPk:=hP k hlt
          by_cases hp : partC (s[k]'hlt).toNat
          · rw [decide_eq_true hp] at hPk
            have hp2:=Lib.hid hp
            clear hp hP
            go_wp2_with (go_at_call 237;refine hPk.mono ?_;rintro e w1 ⟨rfl,rfl⟩)
            go_round
            case rel =>
              refine ⟨k + 1,by omega,by go_num,fun j hj hjk=>?_⟩
              by_cases e : j < k
              · exact hall.out j hj e
              · obtain rfl : j = k:=by omega
                exact hp2.out
            case measure=>simp [intOf];omega
          · rw [decide_eq_false hp] at hPk
            have hp2:=Lib.hid (hno.out k hlt hp)
            clear hp hP
            go_wp2_with (go_at_call 237;refine hPk.mono ?_;rintro e w1 ⟨rfl,rfl⟩)
            go_ret
            exact nm_no hp2.out
        · clear hP
          go_wp2
          go_ret
          exact nm_yes (hok.out (fun j hj=>hall.out j hj (by omega)))
    · rw [decide_eq_false h0] at hS
      have hno:=Lib.hid (show ¬ NameOk s from fun h'=>h0 (name_start.1 (h'.2.2 0 h1)))
      clear h0
      go_enter Tryz.func223,Tryz.ntmps223
      go_wp2_with (first | (go_at_call 221;refine hW.mono ?_;rintro e w1 ⟨rfl,rfl⟩) | (go_at_call 236;refine hS.mono ?_;rintro e w1 ⟨rfl,rfl⟩))
      go_ret
      exact nm_no hno.out
  · have hW:=within_no (w:=w) (n:=(s.size : Int)) (a:=1) (b:=40) (by omega)
    have hno:=Lib.hid (show ¬ NameOk s from fun h'=>hw ⟨h'.1,h'.2.1⟩)
    clear hw
    go_enter Tryz.func223,Tryz.ntmps223
    go_wp2_with (go_at_call 221;refine hW.mono ?_;rintro e w1 ⟨rfl,rfl⟩)
    go_ret
    exact nm_no hno.out
end Go.Ev

namespace Go.Ev
open Go.RowKit Go.Proofs Go.Rw
def FileOk (s : ByteArray) : Prop:=1 ≤ s.size ∧ s.size ≤ 100 ∧ ∀ k,(h : k < s.size) → 33 ≤ (s[k]'h).toNat ∧ (s[k]'h).toNat ≤ 126
def FlR (s : ByteArray) (w : World) (e : Ending) (w' : World) : Prop:=e = .returned (.bool (dec (FileOk s))) ∧ w' = w
theorem fl_yes {s : ByteArray} {w : World} (h : FileOk s) : FlR s w (.returned (.bool true)) w:=⟨by rw [dec_yes h],rfl⟩
theorem fl_no {s : ByteArray} {w : World} (h : ¬ FileOk s) : FlR s w (.returned (.bool false)) w:=⟨by rw [dec_no h],rfl⟩
set_option maxRecDepth 100000 in
set_option maxHeartbeats 1000000 in
theorem pfile_c {w : World} (s : ByteArray) (hs : s.size ≤ 140737488351232) : Calls Tryz.prog 165 #[.string s] w (FlR s w):=by
  by_cases hw : 1 ≤ s.size ∧ s.size ≤ 100
  · have hW:=within_yes (w:=w) (n:=(s.size : Int)) (a:=1) (b:=100) (by omega) (by omega)
    have hY:=fun (c : Nat) (h : 33 ≤ c ∧ c ≤ 126)=>within_yes (w:=w) (n:=(c : Int)) (a:=33) (b:=126) (by omega) (by omega)
    have hN:=fun (c : Nat) (h : ¬ (33 ≤ c ∧ c ≤ 126))=>within_no (w:=w) (n:=(c : Int)) (a:=33) (b:=126) (by omega)
    have hw2:=Lib.hid hw
    have hs0 : 1 ≤ s.size:=hw.1
    clear hw
    go_enter Tryz.func165,Tryz.ntmps165
    go_wp2_with (go_at_call 221;refine hW.mono ?_;rintro e w1 ⟨rfl,rfl⟩)
    go_loop [10] (fun i=>∃ k : Nat,k ≤ s.size ∧ i = .int .i64 k ∧ (∀ j,(h : j < s.size) → j < k → 33 ≤ (s[j]'h).toNat ∧ (s[j]'h).toNat ≤ 126)) (fun i=>s.size - (intOf i).toNat)
    case atStart=>exact ⟨0,by omega,rfl,fun j _ hj=>by omega⟩
    case round =>
      obtain ⟨k,hk,rfl,hall⟩:=hrel
      have hall:=Lib.hid hall
      by_cases hlt : k < s.size
      · have hlt2:=(s[k]'hlt).toNat_lt
        by_cases hp : 33 ≤ (s[k]'hlt).toNat ∧ (s[k]'hlt).toNat ≤ 126
        · have hY:=hY _ hp
          have hp2:=Lib.hid hp
          clear hp hN
          go_wp2_with (go_at_call 221;refine hY.mono ?_;rintro e w1 ⟨rfl,rfl⟩)
          go_round
          case rel =>
            refine ⟨k + 1,by omega,by go_num,fun j hj hjk=>?_⟩
            by_cases e : j < k
            · exact hall.out j hj e
            · obtain rfl : j = k:=by omega
              exact hp2.out
          case measure=>simp [intOf];omega
        · have hN:=hN _ hp
          have hp2:=Lib.hid (show ¬ FileOk s from fun h=>hp (h.2.2 k hlt))
          clear hp hY
          go_wp2_with (go_at_call 221;refine hN.mono ?_;rintro e w1 ⟨rfl,rfl⟩)
          go_ret
          exact fl_no hp2.out
      · clear hY hN
        go_wp2
        go_ret
        exact fl_yes ⟨hw2.out.1,hw2.out.2,fun j hj=>hall.out j hj (by omega)⟩
  · have hW:=within_no (w:=w) (n:=(s.size : Int)) (a:=1) (b:=100) (by omega)
    have hno:=Lib.hid (show ¬ FileOk s from fun h'=>hw ⟨h'.1,h'.2.1⟩)
    clear hw
    go_enter Tryz.func165,Tryz.ntmps165
    go_wp2_with (go_at_call 221;refine hW.mono ?_;rintro e w1 ⟨rfl,rfl⟩)
    go_ret
    exact fl_no hno.out
end Go.Ev

namespace Go.Ev
open Go.RowKit Go.Proofs Go.Rw
set_option maxRecDepth 100000 in
theorem every_sec {w : World} {s : Value} {l : List SecT} (h : RowsAt w s SecT.cells 5 l) (hl : l.length ≤ 140737488351232) (m : Int) (g : Nat) (lb : Array Value) (eg : ∀ args w,(callFunc g args).run Tryz.prog w = .ok (.enter g args) w) (p : SecT → Bool)
    (hp : ∀ W,Below w.heap.size w W → ∀ x ∈ l,Calls Tryz.prog g (#[.agg #[.string x.name,.int .i64 x.rights,.int .i64 x.align,.slice x.ba x.bn x.bc,.int .i64 x.zero]] ++ lb) W fun e w'=>e = .returned (.bool (p x)) ∧ Below W.heap.size W w') :
    Calls Tryz.prog 152 #[s,.int .i64 m,.func (.func g) #[] lb] w fun e w'=>e = .returned (.bool (decide ((l.length : Int) ≤ m) && l.all p)) ∧ Below w.heap.size w w':=by
  obtain ⟨a,c,rfl⟩:=rows_slice h
  by_cases hm : (l.length : Int) ≤ m
  · rw [decide_eq_true hm,Bool.true_and]
    obtain ⟨r,hr⟩ : ∃ r,r = l.all p:=⟨_,rfl⟩
    rw [← hr]
    have hr:=Lib.hid hr
    go_enter Tryz.func152,Tryz.ntmps152
    go_wp2
    go_loopw [15] (fun i wr=>∃ k : Nat,k ≤ l.length ∧ i = .int .i64 k ∧ Below w.heap.size w wr ∧ (∀ j x,j < k → l[j]? = some x → p x = true)) (fun i _=>l.length - (intOf i).toNat)
    case atStart=>exact ⟨0,by omega,rfl,Below.refl _ _,fun j x hj=>by omega⟩
    case round =>
      obtain ⟨k,hk,rfl,hbl,hA⟩:=hrel
      have hA:=Lib.hid hA
      by_cases hlt : k < l.length
      · obtain ⟨b,of,rfl⟩:=rows_some2 h hlt
        obtain ⟨x,hx⟩ : ∃ x,l[k]? = some x:=⟨l[k],by simp [hlt]⟩
        have hB:=hbl.size
        have hcall:=fun o=>hp (wr.alloc o) (hbl.alloc hB o) x (List.mem_of_getElem? hx)
        obtain ⟨g0,g1,g2,g3,g4⟩:=rows_sec (h.below hbl) hx
        have hlt' : (k : Int) < (l.length : Int):=by omega
        have hx:=Lib.hid hx
        clear hp h
        cases hpx : p x
        · simp only [hpx] at hcall
          have hf:=Lib.hid (show r = false by
            rw [hr.out,List.all_eq_false]
            exact ⟨_,List.mem_of_getElem? hx.out,by simp [hpx]⟩)
          clear hpx
          obtain ⟨xn,xr,xa,xba,xbn,xbc,xz⟩:=x
          dsimp only at hcall g0 g1 g2 g3 g4
          go_wp2_with (go_at_fn g;refine (hcall _).mono ?_;rintro e w' ⟨rfl,hb'⟩)
          go_ret
          exact ⟨by rw [hf.out];rfl,bel_then (hbl.alloc hB _) (Nat.le_refl _) hb'⟩
        · simp only [hpx] at hcall
          have hpx:=Lib.hid hpx
          obtain ⟨xn,xr,xa,xba,xbn,xbc,xz⟩:=x
          dsimp only at hcall g0 g1 g2 g3 g4
          go_wp2_with (go_at_fn g;refine (hcall _).mono ?_;rintro e w' ⟨rfl,hb'⟩)
          go_roundw
          case rel =>
            refine ⟨k + 1,by omega,by go_num,bel_then (hbl.alloc hB _) (Nat.le_refl _) hb',fun j y hj hy=>?_⟩
            by_cases hjk : j < k
            · exact hA.out j y hjk hy
            · obtain rfl : j = k:=by omega
              rw [hx.out] at hy
              cases hy
              exact hpx.out
          case measure=>simp [intOf];omega
      · have : k = l.length:=by omega
        subst this
        have hf:=Lib.hid (show r = true by
          rw [hr.out,List.all_eq_true]
          intro x hx
          obtain ⟨j,hj⟩:=List.getElem?_of_mem hx
          exact hA.out j x (List.getElem?_eq_some_iff.1 hj).1 hj)
        go_wp2
        go_ret
        exact ⟨by rw [hf.out];rfl,hbl⟩
  · rw [decide_eq_false hm,Bool.false_and]
    go_enter Tryz.func152,Tryz.ntmps152
    go_wp2
    go_ret
    exact ⟨rfl,Below.refl _ _⟩
set_option maxRecDepth 100000 in
theorem every_sym {w : World} {s : Value} {l : List SymT} (h : RowsAt w s SymT.cells 6 l) (hl : l.length ≤ 140737488351232) (m : Int) (g : Nat) (lb : Array Value) (eg : ∀ args w,(callFunc g args).run Tryz.prog w = .ok (.enter g args) w) (p : SymT → Bool)
    (hp : ∀ W,Below w.heap.size w W → ∀ x ∈ l,Calls Tryz.prog g (#[.agg #[.string x.name,.int .i64 x.sec,.int .u32 x.val,.int .i64 x.size,.int .i64 x.bind,.int .i64 x.kind]] ++ lb) W fun e w'=>e = .returned (.bool (p x)) ∧ Below W.heap.size W w') :
    Calls Tryz.prog 158 #[s,.int .i64 m,.func (.func g) #[] lb] w fun e w'=>e = .returned (.bool (decide ((l.length : Int) ≤ m) && l.all p)) ∧ Below w.heap.size w w':=by
  obtain ⟨a,c,rfl⟩:=rows_slice h
  by_cases hm : (l.length : Int) ≤ m
  · rw [decide_eq_true hm,Bool.true_and]
    obtain ⟨r,hr⟩ : ∃ r,r = l.all p:=⟨_,rfl⟩
    rw [← hr]
    have hr:=Lib.hid hr
    go_enter Tryz.func158,Tryz.ntmps158
    go_wp2
    go_loopw [15] (fun i wr=>∃ k : Nat,k ≤ l.length ∧ i = .int .i64 k ∧ Below w.heap.size w wr ∧ (∀ j x,j < k → l[j]? = some x → p x = true)) (fun i _=>l.length - (intOf i).toNat)
    case atStart=>exact ⟨0,by omega,rfl,Below.refl _ _,fun j x hj=>by omega⟩
    case round =>
      obtain ⟨k,hk,rfl,hbl,hA⟩:=hrel
      have hA:=Lib.hid hA
      by_cases hlt : k < l.length
      · obtain ⟨b,of,rfl⟩:=rows_some2 h hlt
        obtain ⟨x,hx⟩ : ∃ x,l[k]? = some x:=⟨l[k],by simp [hlt]⟩
        have hB:=hbl.size
        have hcall:=fun o=>hp (wr.alloc o) (hbl.alloc hB o) x (List.mem_of_getElem? hx)
        obtain ⟨g0,g1,g2,g3,g4,g5⟩:=rows_sym (h.below hbl) hx
        have hlt' : (k : Int) < (l.length : Int):=by omega
        have hx:=Lib.hid hx
        clear hp h
        cases hpx : p x
        · simp only [hpx] at hcall
          have hf:=Lib.hid (show r = false by
            rw [hr.out,List.all_eq_false]
            exact ⟨_,List.mem_of_getElem? hx.out,by simp [hpx]⟩)
          clear hpx
          obtain ⟨xn,xs,xv,xz,xb,xk⟩:=x
          dsimp only at hcall g0 g1 g2 g3 g4 g5
          go_wp2_with (go_at_fn g;refine (hcall _).mono ?_;rintro e w' ⟨rfl,hb'⟩)
          go_ret
          exact ⟨by rw [hf.out];rfl,bel_then (hbl.alloc hB _) (Nat.le_refl _) hb'⟩
        · simp only [hpx] at hcall
          have hpx:=Lib.hid hpx
          obtain ⟨xn,xs,xv,xz,xb,xk⟩:=x
          dsimp only at hcall g0 g1 g2 g3 g4 g5
          go_wp2_with (go_at_fn g;refine (hcall _).mono ?_;rintro e w' ⟨rfl,hb'⟩)
          go_roundw
          case rel =>
            refine ⟨k + 1,by omega,by go_num,bel_then (hbl.alloc hB _) (Nat.le_refl _) hb',fun j y hj hy=>?_⟩
            by_cases hjk : j < k
            · exact hA.out j y hjk hy
            · obtain rfl : j = k:=by omega
              rw [hx.out] at hy
              cases hy
              exact hpx.out
          case measure=>simp [intOf];omega
      · have : k = l.length:=by omega
        subst this
        have hf:=Lib.hid (show r = true by
          rw [hr.out,List.all_eq_true]
          intro x hx
          obtain ⟨j,hj⟩:=List.getElem?_of_mem hx
          exact hA.out j x (List.getElem?_eq_some_iff.1 hj).1 hj)
        go_wp2
        go_ret
        exact ⟨by rw [hf.out];rfl,hbl⟩
  · rw [decide_eq_false hm,Bool.false_and]
    go_enter Tryz.func158,Tryz.ntmps158
    go_wp2
    go_ret
    exact ⟨rfl,Below.refl _ _⟩
set_option maxRecDepth 100000 in
theorem every_rel {w : World} {s : Value} {l : List RelT} (h : RowsAt w s RelT.cells 5 l) (hl : l.length ≤ 140737488351232) (m : Int) (g : Nat) (lb : Array Value) (eg : ∀ args w,(callFunc g args).run Tryz.prog w = .ok (.enter g args) w) (p : RelT → Bool)
    (hp : ∀ W,Below w.heap.size w W → ∀ x ∈ l,Calls Tryz.prog g (#[.agg #[.int .i64 x.sec,.int .i64 x.off,.int .i64 x.kind,.int .i64 x.sym,.int .i64 x.add]] ++ lb) W fun e w'=>e = .returned (.bool (p x)) ∧ Below W.heap.size W w') :
    Calls Tryz.prog 162 #[s,.int .i64 m,.func (.func g) #[] lb] w fun e w'=>e = .returned (.bool (decide ((l.length : Int) ≤ m) && l.all p)) ∧ Below w.heap.size w w':=by
  obtain ⟨a,c,rfl⟩:=rows_slice h
  by_cases hm : (l.length : Int) ≤ m
  · rw [decide_eq_true hm,Bool.true_and]
    obtain ⟨r,hr⟩ : ∃ r,r = l.all p:=⟨_,rfl⟩
    rw [← hr]
    have hr:=Lib.hid hr
    go_enter Tryz.func162,Tryz.ntmps162
    go_wp2
    go_loopw [15] (fun i wr=>∃ k : Nat,k ≤ l.length ∧ i = .int .i64 k ∧ Below w.heap.size w wr ∧ (∀ j x,j < k → l[j]? = some x → p x = true)) (fun i _=>l.length - (intOf i).toNat)
    case atStart=>exact ⟨0,by omega,rfl,Below.refl _ _,fun j x hj=>by omega⟩
    case round =>
      obtain ⟨k,hk,rfl,hbl,hA⟩:=hrel
      have hA:=Lib.hid hA
      by_cases hlt : k < l.length
      · obtain ⟨b,of,rfl⟩:=rows_some2 h hlt
        obtain ⟨x,hx⟩ : ∃ x,l[k]? = some x:=⟨l[k],by simp [hlt]⟩
        have hB:=hbl.size
        have hcall:=fun o=>hp (wr.alloc o) (hbl.alloc hB o) x (List.mem_of_getElem? hx)
        obtain ⟨g0,g1,g2,g3,g4⟩:=rows_rel (h.below hbl) hx
        have hlt' : (k : Int) < (l.length : Int):=by omega
        have hx:=Lib.hid hx
        clear hp h
        cases hpx : p x
        · simp only [hpx] at hcall
          have hf:=Lib.hid (show r = false by
            rw [hr.out,List.all_eq_false]
            exact ⟨_,List.mem_of_getElem? hx.out,by simp [hpx]⟩)
          clear hpx
          obtain ⟨xs,xo,xk,xy,xa⟩:=x
          dsimp only at hcall g0 g1 g2 g3 g4
          go_wp2_with (go_at_fn g;refine (hcall _).mono ?_;rintro e w' ⟨rfl,hb'⟩)
          go_ret
          exact ⟨by rw [hf.out];rfl,bel_then (hbl.alloc hB _) (Nat.le_refl _) hb'⟩
        · simp only [hpx] at hcall
          have hpx:=Lib.hid hpx
          obtain ⟨xs,xo,xk,xy,xa⟩:=x
          dsimp only at hcall g0 g1 g2 g3 g4
          go_wp2_with (go_at_fn g;refine (hcall _).mono ?_;rintro e w' ⟨rfl,hb'⟩)
          go_roundw
          case rel =>
            refine ⟨k + 1,by omega,by go_num,bel_then (hbl.alloc hB _) (Nat.le_refl _) hb',fun j y hj hy=>?_⟩
            by_cases hjk : j < k
            · exact hA.out j y hjk hy
            · obtain rfl : j = k:=by omega
              rw [hx.out] at hy
              cases hy
              exact hpx.out
          case measure=>simp [intOf];omega
      · have : k = l.length:=by omega
        subst this
        have hf:=Lib.hid (show r = true by
          rw [hr.out,List.all_eq_true]
          intro x hx
          obtain ⟨j,hj⟩:=List.getElem?_of_mem hx
          exact hA.out j x (List.getElem?_eq_some_iff.1 hj).1 hj)
        go_wp2
        go_ret
        exact ⟨by rw [hf.out];rfl,hbl⟩
  · rw [decide_eq_false hm,Bool.false_and]
    go_enter Tryz.func162,Tryz.ntmps162
    go_wp2
    go_ret
    exact ⟨rfl,Below.refl _ _⟩
set_option maxRecDepth 100000 in
theorem every_file {w : World} {s : Value} {l : List ByteArray} (h : RowsAt w s fileCells 1 l) (hl : l.length ≤ 140737488351232) (m : Int) (g : Nat) (lb : Array Value) (eg : ∀ args w,(callFunc g args).run Tryz.prog w = .ok (.enter g args) w) (p : ByteArray → Bool)
    (hp : ∀ W,Below w.heap.size w W → ∀ x ∈ l,Calls Tryz.prog g (#[.string x] ++ lb) W fun e w'=>e = .returned (.bool (p x)) ∧ Below W.heap.size W w') :
    Calls Tryz.prog 164 #[s,.int .i64 m,.func (.func g) #[] lb] w fun e w'=>e = .returned (.bool (decide ((l.length : Int) ≤ m) && l.all p)) ∧ Below w.heap.size w w':=by
  obtain ⟨a,c,rfl⟩:=rows_slice h
  by_cases hm : (l.length : Int) ≤ m
  · rw [decide_eq_true hm,Bool.true_and]
    obtain ⟨r,hr⟩ : ∃ r,r = l.all p:=⟨_,rfl⟩
    rw [← hr]
    have hr:=Lib.hid hr
    go_enter Tryz.func164,Tryz.ntmps164
    go_wp2
    go_loopw [15] (fun i wr=>∃ k : Nat,k ≤ l.length ∧ i = .int .i64 k ∧ Below w.heap.size w wr ∧ (∀ j x,j < k → l[j]? = some x → p x = true)) (fun i _=>l.length - (intOf i).toNat)
    case atStart=>exact ⟨0,by omega,rfl,Below.refl _ _,fun j x hj=>by omega⟩
    case round =>
      obtain ⟨k,hk,rfl,hbl,hA⟩:=hrel
      have hA:=Lib.hid hA
      by_cases hlt : k < l.length
      · obtain ⟨b,of,rfl⟩:=rows_some2 h hlt
        obtain ⟨x,hx⟩ : ∃ x,l[k]? = some x:=⟨l[k],by simp [hlt]⟩
        have hB:=hbl.size
        have hcall:=hp wr hbl x (List.mem_of_getElem? hx)
        have g0:=rows_file (h.below hbl) hx
        have hlt' : (k : Int) < (l.length : Int):=by omega
        have hx:=Lib.hid hx
        clear hp h
        cases hpx : p x
        · simp only [hpx] at hcall
          have hf:=Lib.hid (show r = false by
            rw [hr.out,List.all_eq_false]
            exact ⟨_,List.mem_of_getElem? hx.out,by simp [hpx]⟩)
          clear hpx
          go_wp2_with (go_at_fn g;refine hcall.mono ?_;rintro e w' ⟨rfl,hb'⟩)
          go_ret
          exact ⟨by rw [hf.out];rfl,bel_then hbl (Nat.le_refl _) hb'⟩
        · simp only [hpx] at hcall
          have hpx:=Lib.hid hpx
          go_wp2_with (go_at_fn g;refine hcall.mono ?_;rintro e w' ⟨rfl,hb'⟩)
          go_roundw
          case rel =>
            refine ⟨k + 1,by omega,by go_num,bel_then hbl (Nat.le_refl _) hb',fun j y hj hy=>?_⟩
            by_cases hjk : j < k
            · exact hA.out j y hjk hy
            · obtain rfl : j = k:=by omega
              rw [hx.out] at hy
              cases hy
              exact hpx.out
          case measure=>simp [intOf];omega
      · have : k = l.length:=by omega
        subst this
        have hf:=Lib.hid (show r = true by
          rw [hr.out,List.all_eq_true]
          intro x hx
          obtain ⟨j,hj⟩:=List.getElem?_of_mem hx
          exact hA.out j x (List.getElem?_eq_some_iff.1 hj).1 hj)
        go_wp2
        go_ret
        exact ⟨by rw [hf.out];rfl,hbl⟩
  · rw [decide_eq_false hm,Bool.false_and]
    go_enter Tryz.func164,Tryz.ntmps164
    go_wp2
    go_ret
    exact ⟨rfl,Below.refl _ _⟩
end Go.Ev

namespace Go.Ev
open Go.RowKit Go.Proofs Go.Rw Go.Maps Go.WideMaps
def keyL (s : ByteArray) : Lit:=.string s.data.toList
theorem keyL_inj {s t : ByteArray} (h : keyL s = keyL t) : s = t:=by
  unfold keyL at h
  injection h with h
  cases s with
  | mk a=>cases t with
    | mk b =>
      cases a with
      | mk x=>cases b with
        | mk y=>simp at h;subst h;rfl
theorem lawK : Keyed Tryz.prog 9:=string_keyed Tryz.underlying9
theorem key_of (s : ByteArray) (h : s.size ≤ 140737488351232) : keyOf Tryz.prog 9 (.string s) = some (keyL s):=keyOf_string_mk Tryz.underlying9 (by unfold maxLen;omega)
def MapK (W : World) (b k : Nat) (l : List ByteArray) : Prop:=∃ D : DataW Unit,W.ownsMap Tryz.prog 9 (plainElem Tryz.prog 3) b k D ∧ (∀ s,has D (keyL s) = true ↔ s ∈ l.take k) ∧ size D ≤ k ∧ (size D = k ↔ (l.take k).Nodup)
theorem mapK_step {W : World} {b k : Nat} {l : List ByteArray} {D : DataW Unit} {d : DataW Unit} {s : ByteArray} {W' : World} (h0 : W.ownsMap Tryz.prog 9 (plainElem Tryz.prog 3) b k D) (h1 : ∀ s,has D (keyL s) = true ↔ s ∈ l.take k) (h2 : size D ≤ k) (h3 : size D = k ↔ (l.take k).Nodup)
    (hs : l[k]? = some s) (h : W'.ownsMap Tryz.prog 9 (plainElem Tryz.prog 3) b (k + 1) (D.put (keyL s) d)) : MapK W' b (k + 1) l:=by
  have ht:=h0.tidy lawK
  have htk : l.take (k + 1) = l.take k ++ [s]:=by
    have hk:=(List.getElem?_eq_some_iff.1 hs).1
    rw [List.take_add_one,hs];rfl
  have hsz:=size_put (k:=keyL s) ht d
  refine ⟨_,h,fun t=>?_,?_,?_⟩
  · rw [htk,List.mem_append,List.mem_singleton]
    by_cases e : t = s
    · subst e
      exact iff_of_true (has_put_same ht.isMap (show WideAt.IsKeyLit (keyL t) from trivial) d) (.inr rfl)
    · rw [has_put_other (fun h'=>e (keyL_inj h')) d,h1 t]
      simp [e]
  · rw [hsz];split <;> omega
  · rw [hsz,htk]
    by_cases hm : s ∈ l.take k
    · rw [if_pos ((h1 s).2 hm)]
      constructor
      · intro h;omega
      · intro h
        rw [List.nodup_append] at h
        exact absurd rfl (h.2.2 s hm s (by simp))
    · rw [if_neg (fun h'=>hm ((h1 s).1 h'))]
      constructor
      · intro h
        rw [List.nodup_append]
        refine ⟨h3.1 (by omega),by simp,fun a ha b hb=>?_⟩
        rw [List.mem_singleton.1 hb]
        rintro rfl
        exact hm ha
      · intro h
        rw [List.nodup_append] at h
        have:=h3.2 h.1
        omega
theorem mapK_new (w : World) (l : List ByteArray) : MapK (w.alloc (.map #[] 0)) w.heap.size 0 l :=
  ⟨_,World.ownsMap_made _ _ _ _,fun s=>by simp [has_eq],Nat.le_refl _,by simp [size_eq]⟩
def IdxR (l : List ByteArray) (w : World) (e : Ending) (w' : World) : Prop:=e = .returned (.map (some w.heap.size)) ∧ Below w.heap.size w w' ∧ MapK w' w.heap.size l.length l
theorem fname_c (s : ByteArray) (w : World) : Calls Tryz.prog 122 #[.string s] w fun e w'=>e = .returned (.string s) ∧ w' = w:=by
  go_enter Tryz.func122,Tryz.ntmps122
  go_wp2
  go_ret
  exact ⟨rfl,rfl⟩
theorem enters122 : ∀ args w,(callFunc 122 args).run Tryz.prog w = .ok (.enter 122 args) w:=enters_of Tryz.func122 (by kernel_rfl) rfl
theorem wf_i64 {z : Int} (h0 : 0 ≤ z) (h1 : z ≤ 140737488351232) : (Lit.int .i64 z).wf = true:=by
  simp [Lit.wf,IntKind.min,IntKind.max,IntKind.signed,IntKind.bits]
  omega
set_option maxRecDepth 100000 in
set_option maxHeartbeats 1000000 in
theorem indices_file {w : World} {s : Value} {l : List ByteArray} (h : RowsAt w s fileCells 1 l) (hr : ∀ x ∈ l,fileR x) (hl : l.length ≤ 140737488351232) : Calls Tryz.prog 212 #[s,.func (.func 122) #[] #[]] w (IdxR l w):=by
  obtain ⟨a,c,rfl⟩:=rows_slice h
  have hmm:=@run_makeMap Tryz.prog
  have e122:=enters122
  go_enter Tryz.func212,Tryz.ntmps212
  go_wp2
  go_loopw [11] (fun i wr=>∃ k : Nat,k ≤ l.length ∧ i = .int .i64 k ∧ MapK wr w.heap.size k l ∧ Below w.heap.size w wr) (fun i _=>l.length - (intOf i).toNat)
  case atStart=>exact ⟨0,Nat.zero_le _,rfl,mapK_new _ _,(Below.refl _ _).alloc (Nat.le_refl _) _⟩
  case round =>
    obtain ⟨k,hk,rfl,hM,hbl⟩:=hrel
    by_cases hlt : k < l.length
    · obtain ⟨b,of,rfl⟩:=rows_some2 h hlt
      obtain ⟨x,hx⟩ : ∃ x,l[k]? = some x:=⟨l[k],by simp [hlt]⟩
      have g0:=rows_file (h.below hbl) hx
      have hkey:=key_of x (hr x (List.mem_of_getElem? hx))
      have hlt' : (k : Int) < (l.length : Int):=by omega
      obtain ⟨D,m0,m1,m2,m3⟩:=hM
      have hx:=Lib.hid hx
      have hfc:=fun W=>fname_c x W
      have m1:=Lib.hid m1
      have m2:=Lib.hid m2
      have m3:=Lib.hid m3
      clear hr h
      go_wp2_with (first
        | (go_at_fn 122;refine (hfc _).mono ?_;rintro e w1 ⟨rfl,rfl⟩)
        | (at_mapUpdate;refine wpList_mapUpdate_own _ rfl _ _ _ 147 rfl 9 3 lawK Tryz.underlying147 _ w.heap.size k _ rfl m0 (by unfold maxLen;omega) _ _ _ rfl rfl hkey _ [] (plainElem_int Tryz.underlying3 (wf_i64 (by omega) (by omega))) ?_;intro w1 hown1 hgrow1))
      have R1:=mapK_step m0 m1.out m2.out m3.out hx.out hown1
      have R2:=hbl.grown hgrow1 hbl.size (fun j hj=>by cases hj;exact Nat.le_refl _)
      clear hown1 hgrow1 m0
      go_wp2
      go_roundw
      case rel=>exact ⟨k + 1,by omega,by go_num,R1,R2⟩
      case measure=>simp [intOf];omega
    · obtain rfl : k = l.length:=by omega
      go_wp2
      go_ret
      exact ⟨rfl,hbl,hM⟩
set_option maxRecDepth 100000 in
set_option maxHeartbeats 1000000 in
theorem differ_file {w : World} {s : Value} {l : List ByteArray} (h : RowsAt w s fileCells 1 l) (hr : ∀ x ∈ l,fileR x) (hl : l.length ≤ 140737488351232) : Calls Tryz.prog 166 #[s,.func (.func 122) #[] #[]] w fun e w'=>e = .returned (.bool (dec l.Nodup)) ∧ Below w.heap.size w w':=by
  have hI:=indices_file h hr hl
  obtain ⟨r,hr0⟩ : ∃ r,r = dec l.Nodup:=⟨_,rfl⟩
  rw [← hr0]
  have hrr:=Lib.hid hr0
  clear hr0
  obtain ⟨a,c,rfl⟩:=rows_slice h
  go_enter Tryz.func166,Tryz.ntmps166
  go_wp2_with fail
  refine hI.mono ?_
  rintro e w1 ⟨rfl,hb1,D,m0,m1,m2,m3⟩
  rw [List.take_length] at m3
  have hlen:=m0.len Tryz.underlying147 3
  clear m0 m1 m2
  by_cases hn : l.Nodup
  · have hz:=m3.2 hn
    have hr2:=Lib.hid (hrr.out.trans (dec_yes hn))
    have hzb : ((size D : Int) == (l.length : Int)) = true:=beq_iff_eq.2 (by omega)
    clear m3 hn hz
    go_wp2
    go_ret
    exact ⟨by rw [hr2.out];rfl,hb1⟩
  · have hz : ¬ size D = l.length:=fun e=>hn (m3.1 e)
    have hr2:=Lib.hid (hrr.out.trans (dec_no hn))
    have hzb : ((size D : Int) == (l.length : Int)) = false:=beq_eq_false_iff_ne.2 (by omega)
    clear m3 hn hz
    go_wp2
    go_ret
    exact ⟨by rw [hr2.out];rfl,hb1⟩
end Go.Ev

namespace Go.Ev
open Go.RowKit Go.Proofs Go.Rw
def FilesOk (l : List ByteArray) : Prop:=l.length ≤ 20 ∧ (∀ x ∈ l,FileOk x) ∧ l.Nodup
def BelR (r : Bool) (w : World) (e : Ending) (w' : World) : Prop:=e = .returned (.bool r) ∧ Below w.heap.size w w'
theorem enters165 : ∀ args w,(callFunc 165 args).run Tryz.prog w = .ok (.enter 165 args) w:=enters_of Tryz.func165 (by kernel_rfl) rfl
set_option maxRecDepth 100000 in
set_option maxHeartbeats 1000000 in
theorem pfiles_c {w : World} {s : Value} {l : List ByteArray} (h : RowsAt w s fileCells 1 l) (hr : ∀ x ∈ l,fileR x) (hl : l.length ≤ 140737488351232) : Calls Tryz.prog 68 #[s] w (BelR (dec (FilesOk l)) w):=by
  have hE:=every_file h hl 20 165 #[] enters165 (fun x=>dec (FileOk x)) (fun W hW x hx=>(pfile_c x (hr x hx)).mono fun e w' hh=>⟨hh.1,by rw [hh.2];exact Below.refl _ _⟩)
  obtain ⟨r,hr0⟩ : ∃ r,r = dec (FilesOk l):=⟨_,rfl⟩
  rw [← hr0]
  have hrr:=Lib.hid hr0
  clear hr0
  by_cases hc : (l.length : Int) ≤ 20 ∧ ∀ x ∈ l,FileOk x
  · rw [show (decide ((l.length : Int) ≤ 20) && l.all fun x=>dec (FileOk x)) = true by
      simp only [Bool.and_eq_true,decide_eq_true_eq,List.all_eq_true]
      exact ⟨hc.1,fun x hx=>dec_yes (hc.2 x hx)⟩] at hE
    have hD:=fun W (hW : Below w.heap.size w W)=>differ_file (h.below hW) hr hl
    have hrt : r = dec l.Nodup:=by
      rw [hrr.out]
      unfold dec
      congr 1
      exact propext ⟨fun h=>h.2.2,fun h=>⟨by have:=hc.1;omega,hc.2,h⟩⟩
    rw [← hrt] at hD
    clear hc hrt h hr
    go_enter Tryz.func68,Tryz.ntmps68
    go_wp2_with fail
    refine hE.mono ?_
    rintro e w1 ⟨rfl,hb1⟩
    go_wp2_with fail
    refine (hD _ hb1).mono ?_
    rintro e w2 ⟨rfl,hb2⟩
    go_wp2
    go_ret
    exact ⟨rfl,bel_then hb1 (Nat.le_refl _) hb2⟩
  · rw [show (decide ((l.length : Int) ≤ 20) && l.all fun x=>dec (FileOk x)) = false by
      rw [← Bool.not_eq_true]
      simp only [Bool.and_eq_true,decide_eq_true_eq,List.all_eq_true]
      exact fun h=>hc ⟨h.1,fun x hx=>dec_iff.1 (h.2 x hx)⟩] at hE
    have hrt:=Lib.hid (show r = false by
      rw [hrr.out]
      exact dec_no fun h=>hc ⟨by have:=h.1;omega,h.2.1⟩)
    clear hc h hr
    go_enter Tryz.func68,Tryz.ntmps68
    go_wp2_with fail
    refine hE.mono ?_
    rintro e w1 ⟨rfl,hb1⟩
    go_wp2
    go_ret
    exact ⟨by rw [hrt.out];rfl,hb1⟩
end Go.Ev

namespace Go.Ev
open Go.RowKit Go.Proofs Go.Rw
theorem bytes_ne {x y : ByteArray} (e : ¬ y = x) : (y.toList == x.toList) = false:=beq_eq_false_iff_ne.2 (fun h=>e (Go.WideShapes.bytes_inj (by rw [← ByteArray.toList_eq,← ByteArray.toList_eq,h])))
end Go.Ev

namespace Go.Ev
open Go.RowKit Go.Proofs Go.Rw Go.Maps Go.WideMaps
theorem sname_c (x : SecT) (w : World) : Calls Tryz.prog 119 #[.agg #[.string x.name,.int .i64 x.rights,.int .i64 x.align,.slice x.ba x.bn x.bc,.int .i64 x.zero]] w fun e w'=>e = .returned (.string x.name) ∧ ∃ o,w' = w.alloc o:=by
  go_enter Tryz.func119,Tryz.ntmps119
  go_wp2
  go_ret
  exact ⟨rfl,_,rfl⟩
theorem yname_c (x : SymT) (w : World) : Calls Tryz.prog 114 #[.agg #[.string x.name,.int .i64 x.sec,.int .u32 x.val,.int .i64 x.size,.int .i64 x.bind,.int .i64 x.kind]] w fun e w'=>e = .returned (.string x.name) ∧ ∃ o,w' = w.alloc o:=by
  go_enter Tryz.func114,Tryz.ntmps114
  go_wp2
  go_ret
  exact ⟨rfl,_,rfl⟩
theorem enters119 : ∀ args w,(callFunc 119 args).run Tryz.prog w = .ok (.enter 119 args) w:=enters_of Tryz.func119 (by kernel_rfl) rfl
theorem enters114 : ∀ args w,(callFunc 114 args).run Tryz.prog w = .ok (.enter 114 args) w:=enters_of Tryz.func114 (by kernel_rfl) rfl
set_option maxRecDepth 100000 in
set_option maxHeartbeats 1000000 in
theorem indices_sec {w : World} {s : Value} {l : List SecT} (h : RowsAt w s SecT.cells 5 l) (hr : ∀ x ∈ l,x.R) (hl : l.length ≤ 140737488351232) : Calls Tryz.prog 205 #[s,.func (.func 119) #[] #[]] w (IdxR (l.map (·.name)) w):=by
  obtain ⟨a,c,rfl⟩:=rows_slice h
  have hmm:=@run_makeMap Tryz.prog
  have e119:=enters119
  go_enter Tryz.func205,Tryz.ntmps205
  go_wp2
  go_loopw [11] (fun i wr=>∃ k : Nat,k ≤ l.length ∧ i = .int .i64 k ∧ MapK wr w.heap.size k (l.map (·.name)) ∧ Below w.heap.size w wr) (fun i _=>l.length - (intOf i).toNat)
  case atStart=>exact ⟨0,Nat.zero_le _,rfl,mapK_new _ _,(Below.refl _ _).alloc (Nat.le_refl _) _⟩
  case round =>
    obtain ⟨k,hk,rfl,hM,hbl⟩:=hrel
    by_cases hlt : k < l.length
    · obtain ⟨b,of,rfl⟩:=rows_some2 h hlt
      obtain ⟨x,hx⟩ : ∃ x,l[k]? = some x:=⟨l[k],by simp [hlt]⟩
      obtain ⟨g0,g1,g2,g3,g4⟩:=rows_sec (h.below hbl) hx
      have hkey:=key_of x.name (hr x (List.mem_of_getElem? hx)).2.2.2.2
      have hlt' : (k : Int) < (l.length : Int):=by omega
      obtain ⟨D,m0,m1,m2,m3⟩:=hM
      have hx:=Lib.hid (show (l.map (·.name))[k]? = some x.name by rw [List.getElem?_map,hx];rfl)
      have hfc:=fun W=>sname_c x W
      have hB:=hbl.size
      have m1:=Lib.hid m1
      have m2:=Lib.hid m2
      have m3:=Lib.hid m3
      clear hr h
      obtain ⟨xn,xr,xa,xba,xbn,xbc,xz⟩:=x
      dsimp only at hfc hkey hx g0 g1 g2 g3 g4
      go_wp2_with (first
        | (go_at_fn 119;refine (hfc _).mono ?_;rintro e w1 ⟨rfl,o,rfl⟩)
        | (at_mapUpdate;refine wpList_mapUpdate_own _ rfl _ _ _ 147 rfl 9 3 lawK Tryz.underlying147 _ w.heap.size k _ rfl ((m0.alloc _).alloc _) (by unfold maxLen;omega) _ _ _ rfl rfl hkey _ [] (plainElem_int Tryz.underlying3 (wf_i64 (by omega) (by omega))) ?_;intro w1 hown1 hgrow1))
      have R1:=mapK_step m0 m1.out m2.out m3.out hx.out hown1
      have R2:=((hbl.alloc hB _).alloc (by simp;omega) _).grown hgrow1 (by simp;omega) (fun j hj=>by cases hj;exact Nat.le_refl _)
      clear hown1 hgrow1 m0
      go_wp2
      go_roundw
      case rel=>exact ⟨k + 1,by omega,by go_num,R1,R2⟩
      case measure=>simp [intOf];omega
    · obtain rfl : k = l.length:=by omega
      go_wp2
      go_ret
      exact ⟨rfl,hbl,by rw [List.length_map];exact hM⟩
set_option maxRecDepth 100000 in
set_option maxHeartbeats 1000000 in
theorem differ_sec {w : World} {s : Value} {l : List SecT} (h : RowsAt w s SecT.cells 5 l) (hr : ∀ x ∈ l,x.R) (hl : l.length ≤ 140737488351232) : Calls Tryz.prog 154 #[s,.func (.func 119) #[] #[]] w fun e w'=>e = .returned (.bool (dec (l.map (·.name)).Nodup)) ∧ Below w.heap.size w w':=by
  have hI:=indices_sec h hr hl
  obtain ⟨r,hr0⟩ : ∃ r,r = dec (l.map (·.name)).Nodup:=⟨_,rfl⟩
  rw [← hr0]
  have hrr:=Lib.hid hr0
  clear hr0
  obtain ⟨a,c,rfl⟩:=rows_slice h
  go_enter Tryz.func154,Tryz.ntmps154
  go_wp2_with fail
  refine hI.mono ?_
  rintro e w1 ⟨rfl,hb1,D,m0,m1,m2,m3⟩
  rw [List.take_length,List.length_map] at m3
  have hlen:=m0.len Tryz.underlying147 3
  clear m0 m1 m2
  by_cases hn : (l.map (·.name)).Nodup
  · have hz:=m3.2 hn
    have hr2:=Lib.hid (hrr.out.trans (dec_yes hn))
    have hzb : ((size D : Int) == (l.length : Int)) = true:=beq_iff_eq.2 (by omega)
    clear m3 hn hz
    go_wp2
    go_ret
    exact ⟨by rw [hr2.out];rfl,hb1⟩
  · have hz : ¬ size D = l.length:=fun e=>hn (m3.1 e)
    have hr2:=Lib.hid (hrr.out.trans (dec_no hn))
    have hzb : ((size D : Int) == (l.length : Int)) = false:=beq_eq_false_iff_ne.2 (by omega)
    clear m3 hn hz
    go_wp2
    go_ret
    exact ⟨by rw [hr2.out];rfl,hb1⟩
set_option maxRecDepth 100000 in
set_option maxHeartbeats 1000000 in
theorem indices_sym {w : World} {s : Value} {l : List SymT} (h : RowsAt w s SymT.cells 6 l) (hr : ∀ x ∈ l,x.R) (hl : l.length ≤ 140737488351232) : Calls Tryz.prog 113 #[s,.func (.func 114) #[] #[]] w (IdxR (l.map (·.name)) w):=by
  obtain ⟨a,c,rfl⟩:=rows_slice h
  have hmm:=@run_makeMap Tryz.prog
  have e114:=enters114
  go_enter Tryz.func113,Tryz.ntmps113
  go_wp2
  go_loopw [11] (fun i wr=>∃ k : Nat,k ≤ l.length ∧ i = .int .i64 k ∧ MapK wr w.heap.size k (l.map (·.name)) ∧ Below w.heap.size w wr) (fun i _=>l.length - (intOf i).toNat)
  case atStart=>exact ⟨0,Nat.zero_le _,rfl,mapK_new _ _,(Below.refl _ _).alloc (Nat.le_refl _) _⟩
  case round =>
    obtain ⟨k,hk,rfl,hM,hbl⟩:=hrel
    by_cases hlt : k < l.length
    · obtain ⟨b,of,rfl⟩:=rows_some2 h hlt
      obtain ⟨x,hx⟩ : ∃ x,l[k]? = some x:=⟨l[k],by simp [hlt]⟩
      obtain ⟨g0,g1,g2,g3,g4,g5⟩:=rows_sym (h.below hbl) hx
      have hkey:=key_of x.name (hr x (List.mem_of_getElem? hx)).2.2.2.2.2
      have hlt' : (k : Int) < (l.length : Int):=by omega
      obtain ⟨D,m0,m1,m2,m3⟩:=hM
      have hx:=Lib.hid (show (l.map (·.name))[k]? = some x.name by rw [List.getElem?_map,hx];rfl)
      have hfc:=fun W=>yname_c x W
      have hB:=hbl.size
      have m1:=Lib.hid m1
      have m2:=Lib.hid m2
      have m3:=Lib.hid m3
      clear hr h
      obtain ⟨xn,xs,xv,xz,xb,xk⟩:=x
      dsimp only at hfc hkey hx g0 g1 g2 g3 g4 g5
      go_wp2_with (first
        | (go_at_fn 114;refine (hfc _).mono ?_;rintro e w1 ⟨rfl,o,rfl⟩)
        | (at_mapUpdate;refine wpList_mapUpdate_own _ rfl _ _ _ 147 rfl 9 3 lawK Tryz.underlying147 _ w.heap.size k _ rfl ((m0.alloc _).alloc _) (by unfold maxLen;omega) _ _ _ rfl rfl hkey _ [] (plainElem_int Tryz.underlying3 (wf_i64 (by omega) (by omega))) ?_;intro w1 hown1 hgrow1))
      have R1:=mapK_step m0 m1.out m2.out m3.out hx.out hown1
      have R2:=((hbl.alloc hB _).alloc (by simp;omega) _).grown hgrow1 (by simp;omega) (fun j hj=>by cases hj;exact Nat.le_refl _)
      clear hown1 hgrow1 m0
      go_wp2
      go_roundw
      case rel=>exact ⟨k + 1,by omega,by go_num,R1,R2⟩
      case measure=>simp [intOf];omega
    · obtain rfl : k = l.length:=by omega
      go_wp2
      go_ret
      exact ⟨rfl,hbl,by rw [List.length_map];exact hM⟩
set_option maxRecDepth 100000 in
set_option maxHeartbeats 1000000 in
theorem differ_sym {w : World} {s : Value} {l : List SymT} (h : RowsAt w s SymT.cells 6 l) (hr : ∀ x ∈ l,x.R) (hl : l.length ≤ 140737488351232) : Calls Tryz.prog 159 #[s,.func (.func 114) #[] #[]] w fun e w'=>e = .returned (.bool (dec (l.map (·.name)).Nodup)) ∧ Below w.heap.size w w':=by
  have hI:=indices_sym h hr hl
  obtain ⟨r,hr0⟩ : ∃ r,r = dec (l.map (·.name)).Nodup:=⟨_,rfl⟩
  rw [← hr0]
  have hrr:=Lib.hid hr0
  clear hr0
  obtain ⟨a,c,rfl⟩:=rows_slice h
  go_enter Tryz.func159,Tryz.ntmps159
  go_wp2_with fail
  refine hI.mono ?_
  rintro e w1 ⟨rfl,hb1,D,m0,m1,m2,m3⟩
  rw [List.take_length,List.length_map] at m3
  have hlen:=m0.len Tryz.underlying147 3
  clear m0 m1 m2
  by_cases hn : (l.map (·.name)).Nodup
  · have hz:=m3.2 hn
    have hr2:=Lib.hid (hrr.out.trans (dec_yes hn))
    have hzb : ((size D : Int) == (l.length : Int)) = true:=beq_iff_eq.2 (by omega)
    clear m3 hn hz
    go_wp2
    go_ret
    exact ⟨by rw [hr2.out];rfl,hb1⟩
  · have hz : ¬ size D = l.length:=fun e=>hn (m3.1 e)
    have hr2:=Lib.hid (hrr.out.trans (dec_no hn))
    have hzb : ((size D : Int) == (l.length : Int)) = false:=beq_eq_false_iff_ne.2 (by omega)
    clear m3 hn hz
    go_wp2
    go_ret
    exact ⟨by rw [hr2.out];rfl,hb1⟩
end Go.Ev

