import Derived.Test.YtepopmplcjhfbaaGreatObGab
import Derived.Test.YtepopmplcjhfbaaGreatObGca
set_option linter.unusedSectionVars false
set_option linter.unusedVariables false
set_option linter.unusedSimpArgs false
set_option linter.unnecessarySimpa false
/-
  Stage 3: names, in the program.
-/
namespace Go.Ev
open Go.RowKit Go.Proofs Go.Rw
/-- The first byte of a name. -/
def startC (c : Nat) : Prop := (65 ≤ c ∧ c ≤ 90) ∨ (97 ≤ c ∧ c ≤ 122) ∨ c = 95 ∨ c = 46
instance (c : Nat) : Decidable (startC c) := by unfold startC; exact inferInstance
/-- A byte of a name. -/
def partC (c : Nat) : Prop := startC c ∨ (48 ≤ c ∧ c ≤ 57) ∨ c = 36
instance (c : Nat) : Decidable (partC c) := by unfold partC; exact inferInstance
def BoolX (r : Bool) (w : World) (e : Ending) (w' : World) : Prop := e = .returned (.bool r) ∧ w' = w
theorem boolx_eq {x r : Bool} {w : World} (h : x = r) : BoolX r w (.returned (.bool x)) w := by subst h; exact ⟨rfl, rfl⟩
theorem boolx_yes {r : Bool} {w : World} (h : r = true) : BoolX r w (.returned (.bool true)) w := by subst h; exact ⟨rfl, rfl⟩
theorem boolx_no {r : Bool} {w : World} (h : r = false) : BoolX r w (.returned (.bool false)) w := by subst h; exact ⟨rfl, rfl⟩
set_option maxRecDepth 100000 in
set_option maxHeartbeats 1000000 in
theorem start_c {w : World} {c : Nat} (hc : c < 256) : Calls Tryz.prog 236 #[.int .u8 (c : Int)] w (BoolX (decide (startC c)) w) := by
  have hy := Lib.hid (fun (h : startC c) => decide_eq_true h)
  have hn := Lib.hid (fun (h : ¬ startC c) => decide_eq_false h)
  generalize decide (startC c) = r at hy hn
  go_enter Tryz.func236, Tryz.ntmps236
  go_wp2
  all_goals (go_ret; refine boolx_eq ?_; by_cases h : startC c)
  all_goals first
    | exact (hy.out h).symm
    | exact (hn.out h).symm
    | (rw [hy.out h]; unfold startC at h; first | rfl | (simp; omega) | (exfalso; omega))
    | (rw [hn.out h]; unfold startC at h; first | rfl | (simp; omega) | (exfalso; omega))
set_option maxRecDepth 100000 in
set_option maxHeartbeats 1000000 in
theorem part_c {w : World} {c : Nat} (hc : c < 256) : Calls Tryz.prog 237 #[.int .u8 (c : Int)] w (BoolX (decide (partC c)) w) := by
  have hS := start_c (w := w) hc
  have hy := Lib.hid (fun (h : partC c) => decide_eq_true h)
  have hn := Lib.hid (fun (h : ¬ partC c) => decide_eq_false h)
  generalize decide (partC c) = r at hy hn
  by_cases hs : startC c
  · rw [decide_eq_true hs] at hS
    have hr := Lib.hid (hy.out (.inl hs))
    clear hs hy hn
    go_enter Tryz.func237, Tryz.ntmps237
    go_wp2_with (go_at_call 236; refine hS.mono ?_; rintro e w1 ⟨rfl, rfl⟩)
    go_ret
    exact boolx_yes hr.out
  · rw [decide_eq_false hs] at hS
    have hs2 := Lib.hid hs
    clear hs
    go_enter Tryz.func237, Tryz.ntmps237
    go_wp2_with (go_at_call 236; refine hS.mono ?_; rintro e w1 ⟨rfl, rfl⟩)
    all_goals (go_ret; refine boolx_eq ?_; by_cases h : (48 ≤ c ∧ c ≤ 57) ∨ c = 36)
    all_goals first
      | exact (hy.out (.inr h)).symm
      | exact (hn.out (fun h' => h'.elim hs2.out h)).symm
      | (rw [hy.out (.inr h)]; first | rfl | (simp; omega) | (exfalso; omega))
      | (rw [hn.out (fun h' => h'.elim hs2.out h)]; first | rfl | (simp; omega) | (exfalso; omega))
theorem name_part {k c : Nat} (h : okC k c) : partC c := by
  unfold okC at h
  unfold partC startC
  omega
theorem name_start {c : Nat} : okC 0 c ↔ startC c := by
  unfold okC startC
  omega
theorem name_of {s : ByteArray} (h1 : 1 ≤ s.size) (h2 : s.size ≤ 40) (h0 : startC (s[0]'h1).toNat) (h : ∀ k, (h : k < s.size) → partC (s[k]'h).toNat) : NameOk s := by
  refine ⟨h1, h2, fun k hk => ?_⟩
  by_cases e : k = 0
  · subst e; exact name_start.2 h0
  · have := h k hk
    unfold partC startC at this
    unfold okC
    omega
set_option maxRecDepth 100000 in
set_option maxHeartbeats 1000000 in
/-- The program's isName. -/
theorem pname_c {w : World} (s : ByteArray) (hs : s.size ≤ 140737488351232) : Calls Tryz.prog 223 #[.string s] w (NmR s w) := by
  by_cases hw : 1 ≤ s.size ∧ s.size ≤ 40
  · have hW := within_yes (w := w) (n := (s.size : Int)) (a := 1) (b := 40) (by omega) (by omega)
    have h1 : 0 < s.size := hw.1
    have hS := start_c (w := w) (s[0]'h1).toNat_lt
    by_cases h0 : startC (s[0]'h1).toNat
    · rw [decide_eq_true h0] at hS
      have hok := Lib.hid (name_of hw.1 hw.2 h0)
      have hP := fun k (h : k < s.size) => part_c (w := w) (s[k]'h).toNat_lt
      have hno := Lib.hid (fun k (h : k < s.size) (hn : ¬ partC (s[k]'h).toNat) (h' : NameOk s) => hn (name_part (h'.2.2 k h)))
      clear h0
      go_enter Tryz.func223, Tryz.ntmps223
      go_wp2_with (first | (go_at_call 221; refine hW.mono ?_; rintro e w1 ⟨rfl, rfl⟩) | (go_at_call 236; refine hS.mono ?_; rintro e w1 ⟨rfl, rfl⟩))
      go_loop [16] (fun i => ∃ k : Nat, k ≤ s.size ∧ i = .int .i64 k ∧ (∀ j, (h : j < s.size) → j < k → partC (s[j]'h).toNat)) (fun i => s.size - (intOf i).toNat)
      case atStart => exact ⟨0, by omega, rfl, fun j _ hj => by omega⟩
      case round =>
        obtain ⟨k, hk, rfl, hall⟩ := hrel
        have hall := Lib.hid hall
        by_cases hlt : k < s.size
        · have hPk := hP k hlt
          by_cases hp : partC (s[k]'hlt).toNat
          · rw [decide_eq_true hp] at hPk
            have hp2 := Lib.hid hp
            clear hp hP
            go_wp2_with (go_at_call 237; refine hPk.mono ?_; rintro e w1 ⟨rfl, rfl⟩)
            go_round
            case rel =>
              refine ⟨k + 1, by omega, by go_num, fun j hj hjk => ?_⟩
              by_cases e : j < k
              · exact hall.out j hj e
              · obtain rfl : j = k := by omega
                exact hp2.out
            case measure => simp [intOf]; omega
          · rw [decide_eq_false hp] at hPk
            have hp2 := Lib.hid (hno.out k hlt hp)
            clear hp hP
            go_wp2_with (go_at_call 237; refine hPk.mono ?_; rintro e w1 ⟨rfl, rfl⟩)
            go_ret
            exact nm_no hp2.out
        · clear hP
          go_wp2
          go_ret
          exact nm_yes (hok.out (fun j hj => hall.out j hj (by omega)))
    · rw [decide_eq_false h0] at hS
      have hno := Lib.hid (show ¬ NameOk s from fun h' => h0 (name_start.1 (h'.2.2 0 h1)))
      clear h0
      go_enter Tryz.func223, Tryz.ntmps223
      go_wp2_with (first | (go_at_call 221; refine hW.mono ?_; rintro e w1 ⟨rfl, rfl⟩) | (go_at_call 236; refine hS.mono ?_; rintro e w1 ⟨rfl, rfl⟩))
      go_ret
      exact nm_no hno.out
  · have hW := within_no (w := w) (n := (s.size : Int)) (a := 1) (b := 40) (by omega)
    have hno := Lib.hid (show ¬ NameOk s from fun h' => hw ⟨h'.1, h'.2.1⟩)
    clear hw
    go_enter Tryz.func223, Tryz.ntmps223
    go_wp2_with (go_at_call 221; refine hW.mono ?_; rintro e w1 ⟨rfl, rfl⟩)
    go_ret
    exact nm_no hno.out
end Go.Ev

/-
  Stage 3: names of files, in the program and in the specification, exactly.
-/
namespace Go.Ev
open Go.RowKit Go.Proofs Go.Rw
def FileOk (s : ByteArray) : Prop := 1 ≤ s.size ∧ s.size ≤ 100 ∧ ∀ k, (h : k < s.size) → 33 ≤ (s[k]'h).toNat ∧ (s[k]'h).toNat ≤ 126
def FlR (s : ByteArray) (w : World) (e : Ending) (w' : World) : Prop := e = .returned (.bool (dec (FileOk s))) ∧ w' = w
theorem fl_yes {s : ByteArray} {w : World} (h : FileOk s) : FlR s w (.returned (.bool true)) w := ⟨by rw [dec_yes h], rfl⟩
theorem fl_no {s : ByteArray} {w : World} (h : ¬ FileOk s) : FlR s w (.returned (.bool false)) w := ⟨by rw [dec_no h], rfl⟩
set_option maxRecDepth 100000 in
set_option maxHeartbeats 1000000 in
/-- The program's isFileName. -/
theorem pfile_c {w : World} (s : ByteArray) (hs : s.size ≤ 140737488351232) : Calls Tryz.prog 165 #[.string s] w (FlR s w) := by
  by_cases hw : 1 ≤ s.size ∧ s.size ≤ 100
  · have hW := within_yes (w := w) (n := (s.size : Int)) (a := 1) (b := 100) (by omega) (by omega)
    have hY := fun (c : Nat) (h : 33 ≤ c ∧ c ≤ 126) => within_yes (w := w) (n := (c : Int)) (a := 33) (b := 126) (by omega) (by omega)
    have hN := fun (c : Nat) (h : ¬ (33 ≤ c ∧ c ≤ 126)) => within_no (w := w) (n := (c : Int)) (a := 33) (b := 126) (by omega)
    have hw2 := Lib.hid hw
    have hs0 : 1 ≤ s.size := hw.1
    clear hw
    go_enter Tryz.func165, Tryz.ntmps165
    go_wp2_with (go_at_call 221; refine hW.mono ?_; rintro e w1 ⟨rfl, rfl⟩)
    go_loop [10] (fun i => ∃ k : Nat, k ≤ s.size ∧ i = .int .i64 k ∧ (∀ j, (h : j < s.size) → j < k → 33 ≤ (s[j]'h).toNat ∧ (s[j]'h).toNat ≤ 126)) (fun i => s.size - (intOf i).toNat)
    case atStart => exact ⟨0, by omega, rfl, fun j _ hj => by omega⟩
    case round =>
      obtain ⟨k, hk, rfl, hall⟩ := hrel
      have hall := Lib.hid hall
      by_cases hlt : k < s.size
      · have hlt2 := (s[k]'hlt).toNat_lt
        by_cases hp : 33 ≤ (s[k]'hlt).toNat ∧ (s[k]'hlt).toNat ≤ 126
        · have hY := hY _ hp
          have hp2 := Lib.hid hp
          clear hp hN
          go_wp2_with (go_at_call 221; refine hY.mono ?_; rintro e w1 ⟨rfl, rfl⟩)
          go_round
          case rel =>
            refine ⟨k + 1, by omega, by go_num, fun j hj hjk => ?_⟩
            by_cases e : j < k
            · exact hall.out j hj e
            · obtain rfl : j = k := by omega
              exact hp2.out
          case measure => simp [intOf]; omega
        · have hN := hN _ hp
          have hp2 := Lib.hid (show ¬ FileOk s from fun h => hp (h.2.2 k hlt))
          clear hp hY
          go_wp2_with (go_at_call 221; refine hN.mono ?_; rintro e w1 ⟨rfl, rfl⟩)
          go_ret
          exact fl_no hp2.out
      · clear hY hN
        go_wp2
        go_ret
        exact fl_yes ⟨hw2.out.1, hw2.out.2, fun j hj => hall.out j hj (by omega)⟩
  · have hW := within_no (w := w) (n := (s.size : Int)) (a := 1) (b := 100) (by omega)
    have hno := Lib.hid (show ¬ FileOk s from fun h' => hw ⟨h'.1, h'.2.1⟩)
    clear hw
    go_enter Tryz.func165, Tryz.ntmps165
    go_wp2_with (go_at_call 221; refine hW.mono ?_; rintro e w1 ⟨rfl, rfl⟩)
    go_ret
    exact fl_no hno.out
set_option maxRecDepth 100000 in
set_option maxHeartbeats 1000000 in
/-- The specification's isFile. -/
theorem rfile_c {w : World} (s : ByteArray) (hs : s.size ≤ 140737488351232) : Calls Tryz.prog 220 #[.string s] w (FlR s w) := by
  go_enter Tryz.func220, Tryz.ntmps220
  go_wp2
  go_loop [3] (fun i => ∃ k : Nat, k ≤ s.size ∧ i = .int .i64 k ∧ (∀ j, (h : j < s.size) → j < k → 33 ≤ (s[j]'h).toNat ∧ (s[j]'h).toNat ≤ 126)) (fun i => s.size - (intOf i).toNat)
  case atStart => exact ⟨0, by omega, rfl, fun j _ hj => by omega⟩
  case round =>
    obtain ⟨k, hk, rfl, hall⟩ := hrel
    have hall := Lib.hid hall
    by_cases hlt : k < s.size
    · by_cases hp : 33 ≤ (s[k]'hlt).toNat ∧ (s[k]'hlt).toNat ≤ 126
      · have hp2 := Lib.hid hp
        obtain ⟨p1, p2⟩ := hp
        go_wp2
        all_goals first
          | (exfalso; omega)
          | (go_round
             case rel =>
               refine ⟨k + 1, by omega, by go_num, fun j hj hjk => ?_⟩
               by_cases e : j < k
               · exact hall.out j hj e
               · obtain rfl : j = k := by omega
                 exact hp2.out
             case measure => simp [intOf]; omega)
      · have hp2 := Lib.hid (show ¬ FileOk s from fun h => hp (h.2.2 k hlt))
        go_wp2
        all_goals first
          | (go_ret; exact fl_no hp2.out)
          | (exfalso; omega)
    · by_cases hw : 1 ≤ s.size ∧ s.size ≤ 100
      · have hok := Lib.hid (show FileOk s from ⟨hw.1, hw.2, fun j hj => hall.out j hj (by omega)⟩)
        obtain ⟨w1, w2⟩ := hw
        go_wp2
        all_goals first
          | (go_ret; exact fl_yes hok.out)
          | (go_ret; refine ⟨?_, rfl⟩; rw [dec_yes hok.out]; simp; omega)
          | (exfalso; omega)
      · have hno := Lib.hid (show ¬ FileOk s from fun h' => hw ⟨h'.1, h'.2.1⟩)
        by_cases q1 : 1 ≤ s.size
        · have q2 : ¬ s.size ≤ 100 := fun h => hw ⟨q1, h⟩
          clear hw
          go_wp2
          all_goals first
            | (go_ret; exact fl_no hno.out)
            | (go_ret; refine ⟨?_, rfl⟩; rw [dec_no hno.out]; simp; omega)
            | (exfalso; omega)
        · clear hw
          go_wp2
          all_goals first
            | (go_ret; exact fl_no hno.out)
            | (go_ret; refine ⟨?_, rfl⟩; rw [dec_no hno.out]; simp; omega)
            | (exfalso; omega)
end Go.Ev

/-
  Stage 3: 'every' at sections, symbols, relocations, files.
-/
namespace Go.Ev
open Go.RowKit Go.Proofs Go.Rw
set_option maxRecDepth 100000 in
/-- 'every' at sections. -/
theorem every_sec {w : World} {s : Value} {l : List SecT} (h : RowsAt w s SecT.cells 5 l) (hl : l.length ≤ 140737488351232) (m : Int) (g : Nat) (lb : Array Value) (eg : ∀ args w, (callFunc g args).run Tryz.prog w = .ok (.enter g args) w) (p : SecT → Bool)
    (hp : ∀ W, Below w.heap.size w W → ∀ x ∈ l, Calls Tryz.prog g (#[.agg #[.string x.name, .int .i64 x.rights, .int .i64 x.align, .slice x.ba x.bn x.bc, .int .i64 x.zero]] ++ lb) W fun e w' => e = .returned (.bool (p x)) ∧ Below W.heap.size W w') :
    Calls Tryz.prog 152 #[s, .int .i64 m, .func (.func g) #[] lb] w fun e w' => e = .returned (.bool (decide ((l.length : Int) ≤ m) && l.all p)) ∧ Below w.heap.size w w' := by
  obtain ⟨a, c, rfl⟩ := rows_slice h
  by_cases hm : (l.length : Int) ≤ m
  · rw [decide_eq_true hm, Bool.true_and]
    obtain ⟨r, hr⟩ : ∃ r, r = l.all p := ⟨_, rfl⟩
    rw [← hr]
    have hr := Lib.hid hr
    go_enter Tryz.func152, Tryz.ntmps152
    go_wp2
    go_loopw [15] (fun i wr => ∃ k : Nat, k ≤ l.length ∧ i = .int .i64 k ∧ Below w.heap.size w wr ∧ (∀ j x, j < k → l[j]? = some x → p x = true)) (fun i _ => l.length - (intOf i).toNat)
    case atStart => exact ⟨0, by omega, rfl, Below.refl _ _, fun j x hj => by omega⟩
    case round =>
      obtain ⟨k, hk, rfl, hbl, hA⟩ := hrel
      have hA := Lib.hid hA
      by_cases hlt : k < l.length
      · obtain ⟨b, of, rfl⟩ := rows_some2 h hlt
        obtain ⟨x, hx⟩ : ∃ x, l[k]? = some x := ⟨l[k], by simp [hlt]⟩
        have hB := hbl.size
        have hcall := fun o => hp (wr.alloc o) (hbl.alloc hB o) x (List.mem_of_getElem? hx)
        obtain ⟨g0, g1, g2, g3, g4⟩ := rows_sec (h.below hbl) hx
        have hlt' : (k : Int) < (l.length : Int) := by omega
        have hx := Lib.hid hx
        clear hp h
        cases hpx : p x
        · simp only [hpx] at hcall
          have hf := Lib.hid (show r = false by
            rw [hr.out, List.all_eq_false]
            exact ⟨_, List.mem_of_getElem? hx.out, by simp [hpx]⟩)
          clear hpx
          obtain ⟨xn, xr, xa, xba, xbn, xbc, xz⟩ := x
          dsimp only at hcall g0 g1 g2 g3 g4
          go_wp2_with (go_at_fn g; refine (hcall _).mono ?_; rintro e w' ⟨rfl, hb'⟩)
          go_ret
          exact ⟨by rw [hf.out]; rfl, bel_then (hbl.alloc hB _) (Nat.le_refl _) hb'⟩
        · simp only [hpx] at hcall
          have hpx := Lib.hid hpx
          obtain ⟨xn, xr, xa, xba, xbn, xbc, xz⟩ := x
          dsimp only at hcall g0 g1 g2 g3 g4
          go_wp2_with (go_at_fn g; refine (hcall _).mono ?_; rintro e w' ⟨rfl, hb'⟩)
          go_roundw
          case rel =>
            refine ⟨k + 1, by omega, by go_num, bel_then (hbl.alloc hB _) (Nat.le_refl _) hb', fun j y hj hy => ?_⟩
            by_cases hjk : j < k
            · exact hA.out j y hjk hy
            · obtain rfl : j = k := by omega
              rw [hx.out] at hy
              cases hy
              exact hpx.out
          case measure => simp [intOf]; omega
      · have : k = l.length := by omega
        subst this
        have hf := Lib.hid (show r = true by
          rw [hr.out, List.all_eq_true]
          intro x hx
          obtain ⟨j, hj⟩ := List.getElem?_of_mem hx
          exact hA.out j x (List.getElem?_eq_some_iff.1 hj).1 hj)
        go_wp2
        go_ret
        exact ⟨by rw [hf.out]; rfl, hbl⟩
  · rw [decide_eq_false hm, Bool.false_and]
    go_enter Tryz.func152, Tryz.ntmps152
    go_wp2
    go_ret
    exact ⟨rfl, Below.refl _ _⟩
set_option maxRecDepth 100000 in
/-- 'every' at symbols. -/
theorem every_sym {w : World} {s : Value} {l : List SymT} (h : RowsAt w s SymT.cells 6 l) (hl : l.length ≤ 140737488351232) (m : Int) (g : Nat) (lb : Array Value) (eg : ∀ args w, (callFunc g args).run Tryz.prog w = .ok (.enter g args) w) (p : SymT → Bool)
    (hp : ∀ W, Below w.heap.size w W → ∀ x ∈ l, Calls Tryz.prog g (#[.agg #[.string x.name, .int .i64 x.sec, .int .u32 x.val, .int .i64 x.size, .int .i64 x.bind, .int .i64 x.kind]] ++ lb) W fun e w' => e = .returned (.bool (p x)) ∧ Below W.heap.size W w') :
    Calls Tryz.prog 158 #[s, .int .i64 m, .func (.func g) #[] lb] w fun e w' => e = .returned (.bool (decide ((l.length : Int) ≤ m) && l.all p)) ∧ Below w.heap.size w w' := by
  obtain ⟨a, c, rfl⟩ := rows_slice h
  by_cases hm : (l.length : Int) ≤ m
  · rw [decide_eq_true hm, Bool.true_and]
    obtain ⟨r, hr⟩ : ∃ r, r = l.all p := ⟨_, rfl⟩
    rw [← hr]
    have hr := Lib.hid hr
    go_enter Tryz.func158, Tryz.ntmps158
    go_wp2
    go_loopw [15] (fun i wr => ∃ k : Nat, k ≤ l.length ∧ i = .int .i64 k ∧ Below w.heap.size w wr ∧ (∀ j x, j < k → l[j]? = some x → p x = true)) (fun i _ => l.length - (intOf i).toNat)
    case atStart => exact ⟨0, by omega, rfl, Below.refl _ _, fun j x hj => by omega⟩
    case round =>
      obtain ⟨k, hk, rfl, hbl, hA⟩ := hrel
      have hA := Lib.hid hA
      by_cases hlt : k < l.length
      · obtain ⟨b, of, rfl⟩ := rows_some2 h hlt
        obtain ⟨x, hx⟩ : ∃ x, l[k]? = some x := ⟨l[k], by simp [hlt]⟩
        have hB := hbl.size
        have hcall := fun o => hp (wr.alloc o) (hbl.alloc hB o) x (List.mem_of_getElem? hx)
        obtain ⟨g0, g1, g2, g3, g4, g5⟩ := rows_sym (h.below hbl) hx
        have hlt' : (k : Int) < (l.length : Int) := by omega
        have hx := Lib.hid hx
        clear hp h
        cases hpx : p x
        · simp only [hpx] at hcall
          have hf := Lib.hid (show r = false by
            rw [hr.out, List.all_eq_false]
            exact ⟨_, List.mem_of_getElem? hx.out, by simp [hpx]⟩)
          clear hpx
          obtain ⟨xn, xs, xv, xz, xb, xk⟩ := x
          dsimp only at hcall g0 g1 g2 g3 g4 g5
          go_wp2_with (go_at_fn g; refine (hcall _).mono ?_; rintro e w' ⟨rfl, hb'⟩)
          go_ret
          exact ⟨by rw [hf.out]; rfl, bel_then (hbl.alloc hB _) (Nat.le_refl _) hb'⟩
        · simp only [hpx] at hcall
          have hpx := Lib.hid hpx
          obtain ⟨xn, xs, xv, xz, xb, xk⟩ := x
          dsimp only at hcall g0 g1 g2 g3 g4 g5
          go_wp2_with (go_at_fn g; refine (hcall _).mono ?_; rintro e w' ⟨rfl, hb'⟩)
          go_roundw
          case rel =>
            refine ⟨k + 1, by omega, by go_num, bel_then (hbl.alloc hB _) (Nat.le_refl _) hb', fun j y hj hy => ?_⟩
            by_cases hjk : j < k
            · exact hA.out j y hjk hy
            · obtain rfl : j = k := by omega
              rw [hx.out] at hy
              cases hy
              exact hpx.out
          case measure => simp [intOf]; omega
      · have : k = l.length := by omega
        subst this
        have hf := Lib.hid (show r = true by
          rw [hr.out, List.all_eq_true]
          intro x hx
          obtain ⟨j, hj⟩ := List.getElem?_of_mem hx
          exact hA.out j x (List.getElem?_eq_some_iff.1 hj).1 hj)
        go_wp2
        go_ret
        exact ⟨by rw [hf.out]; rfl, hbl⟩
  · rw [decide_eq_false hm, Bool.false_and]
    go_enter Tryz.func158, Tryz.ntmps158
    go_wp2
    go_ret
    exact ⟨rfl, Below.refl _ _⟩
set_option maxRecDepth 100000 in
/-- 'every' at relocations. -/
theorem every_rel {w : World} {s : Value} {l : List RelT} (h : RowsAt w s RelT.cells 5 l) (hl : l.length ≤ 140737488351232) (m : Int) (g : Nat) (lb : Array Value) (eg : ∀ args w, (callFunc g args).run Tryz.prog w = .ok (.enter g args) w) (p : RelT → Bool)
    (hp : ∀ W, Below w.heap.size w W → ∀ x ∈ l, Calls Tryz.prog g (#[.agg #[.int .i64 x.sec, .int .i64 x.off, .int .i64 x.kind, .int .i64 x.sym, .int .i64 x.add]] ++ lb) W fun e w' => e = .returned (.bool (p x)) ∧ Below W.heap.size W w') :
    Calls Tryz.prog 162 #[s, .int .i64 m, .func (.func g) #[] lb] w fun e w' => e = .returned (.bool (decide ((l.length : Int) ≤ m) && l.all p)) ∧ Below w.heap.size w w' := by
  obtain ⟨a, c, rfl⟩ := rows_slice h
  by_cases hm : (l.length : Int) ≤ m
  · rw [decide_eq_true hm, Bool.true_and]
    obtain ⟨r, hr⟩ : ∃ r, r = l.all p := ⟨_, rfl⟩
    rw [← hr]
    have hr := Lib.hid hr
    go_enter Tryz.func162, Tryz.ntmps162
    go_wp2
    go_loopw [15] (fun i wr => ∃ k : Nat, k ≤ l.length ∧ i = .int .i64 k ∧ Below w.heap.size w wr ∧ (∀ j x, j < k → l[j]? = some x → p x = true)) (fun i _ => l.length - (intOf i).toNat)
    case atStart => exact ⟨0, by omega, rfl, Below.refl _ _, fun j x hj => by omega⟩
    case round =>
      obtain ⟨k, hk, rfl, hbl, hA⟩ := hrel
      have hA := Lib.hid hA
      by_cases hlt : k < l.length
      · obtain ⟨b, of, rfl⟩ := rows_some2 h hlt
        obtain ⟨x, hx⟩ : ∃ x, l[k]? = some x := ⟨l[k], by simp [hlt]⟩
        have hB := hbl.size
        have hcall := fun o => hp (wr.alloc o) (hbl.alloc hB o) x (List.mem_of_getElem? hx)
        obtain ⟨g0, g1, g2, g3, g4⟩ := rows_rel (h.below hbl) hx
        have hlt' : (k : Int) < (l.length : Int) := by omega
        have hx := Lib.hid hx
        clear hp h
        cases hpx : p x
        · simp only [hpx] at hcall
          have hf := Lib.hid (show r = false by
            rw [hr.out, List.all_eq_false]
            exact ⟨_, List.mem_of_getElem? hx.out, by simp [hpx]⟩)
          clear hpx
          obtain ⟨xs, xo, xk, xy, xa⟩ := x
          dsimp only at hcall g0 g1 g2 g3 g4
          go_wp2_with (go_at_fn g; refine (hcall _).mono ?_; rintro e w' ⟨rfl, hb'⟩)
          go_ret
          exact ⟨by rw [hf.out]; rfl, bel_then (hbl.alloc hB _) (Nat.le_refl _) hb'⟩
        · simp only [hpx] at hcall
          have hpx := Lib.hid hpx
          obtain ⟨xs, xo, xk, xy, xa⟩ := x
          dsimp only at hcall g0 g1 g2 g3 g4
          go_wp2_with (go_at_fn g; refine (hcall _).mono ?_; rintro e w' ⟨rfl, hb'⟩)
          go_roundw
          case rel =>
            refine ⟨k + 1, by omega, by go_num, bel_then (hbl.alloc hB _) (Nat.le_refl _) hb', fun j y hj hy => ?_⟩
            by_cases hjk : j < k
            · exact hA.out j y hjk hy
            · obtain rfl : j = k := by omega
              rw [hx.out] at hy
              cases hy
              exact hpx.out
          case measure => simp [intOf]; omega
      · have : k = l.length := by omega
        subst this
        have hf := Lib.hid (show r = true by
          rw [hr.out, List.all_eq_true]
          intro x hx
          obtain ⟨j, hj⟩ := List.getElem?_of_mem hx
          exact hA.out j x (List.getElem?_eq_some_iff.1 hj).1 hj)
        go_wp2
        go_ret
        exact ⟨by rw [hf.out]; rfl, hbl⟩
  · rw [decide_eq_false hm, Bool.false_and]
    go_enter Tryz.func162, Tryz.ntmps162
    go_wp2
    go_ret
    exact ⟨rfl, Below.refl _ _⟩
set_option maxRecDepth 100000 in
/-- 'every' at files. -/
theorem every_file {w : World} {s : Value} {l : List ByteArray} (h : RowsAt w s fileCells 1 l) (hl : l.length ≤ 140737488351232) (m : Int) (g : Nat) (lb : Array Value) (eg : ∀ args w, (callFunc g args).run Tryz.prog w = .ok (.enter g args) w) (p : ByteArray → Bool)
    (hp : ∀ W, Below w.heap.size w W → ∀ x ∈ l, Calls Tryz.prog g (#[.string x] ++ lb) W fun e w' => e = .returned (.bool (p x)) ∧ Below W.heap.size W w') :
    Calls Tryz.prog 164 #[s, .int .i64 m, .func (.func g) #[] lb] w fun e w' => e = .returned (.bool (decide ((l.length : Int) ≤ m) && l.all p)) ∧ Below w.heap.size w w' := by
  obtain ⟨a, c, rfl⟩ := rows_slice h
  by_cases hm : (l.length : Int) ≤ m
  · rw [decide_eq_true hm, Bool.true_and]
    obtain ⟨r, hr⟩ : ∃ r, r = l.all p := ⟨_, rfl⟩
    rw [← hr]
    have hr := Lib.hid hr
    go_enter Tryz.func164, Tryz.ntmps164
    go_wp2
    go_loopw [15] (fun i wr => ∃ k : Nat, k ≤ l.length ∧ i = .int .i64 k ∧ Below w.heap.size w wr ∧ (∀ j x, j < k → l[j]? = some x → p x = true)) (fun i _ => l.length - (intOf i).toNat)
    case atStart => exact ⟨0, by omega, rfl, Below.refl _ _, fun j x hj => by omega⟩
    case round =>
      obtain ⟨k, hk, rfl, hbl, hA⟩ := hrel
      have hA := Lib.hid hA
      by_cases hlt : k < l.length
      · obtain ⟨b, of, rfl⟩ := rows_some2 h hlt
        obtain ⟨x, hx⟩ : ∃ x, l[k]? = some x := ⟨l[k], by simp [hlt]⟩
        have hB := hbl.size
        have hcall := hp wr hbl x (List.mem_of_getElem? hx)
        have g0 := rows_file (h.below hbl) hx
        have hlt' : (k : Int) < (l.length : Int) := by omega
        have hx := Lib.hid hx
        clear hp h
        cases hpx : p x
        · simp only [hpx] at hcall
          have hf := Lib.hid (show r = false by
            rw [hr.out, List.all_eq_false]
            exact ⟨_, List.mem_of_getElem? hx.out, by simp [hpx]⟩)
          clear hpx
          go_wp2_with (go_at_fn g; refine hcall.mono ?_; rintro e w' ⟨rfl, hb'⟩)
          go_ret
          exact ⟨by rw [hf.out]; rfl, bel_then hbl (Nat.le_refl _) hb'⟩
        · simp only [hpx] at hcall
          have hpx := Lib.hid hpx
          go_wp2_with (go_at_fn g; refine hcall.mono ?_; rintro e w' ⟨rfl, hb'⟩)
          go_roundw
          case rel =>
            refine ⟨k + 1, by omega, by go_num, bel_then hbl (Nat.le_refl _) hb', fun j y hj hy => ?_⟩
            by_cases hjk : j < k
            · exact hA.out j y hjk hy
            · obtain rfl : j = k := by omega
              rw [hx.out] at hy
              cases hy
              exact hpx.out
          case measure => simp [intOf]; omega
      · have : k = l.length := by omega
        subst this
        have hf := Lib.hid (show r = true by
          rw [hr.out, List.all_eq_true]
          intro x hx
          obtain ⟨j, hj⟩ := List.getElem?_of_mem hx
          exact hA.out j x (List.getElem?_eq_some_iff.1 hj).1 hj)
        go_wp2
        go_ret
        exact ⟨by rw [hf.out]; rfl, hbl⟩
  · rw [decide_eq_false hm, Bool.false_and]
    go_enter Tryz.func164, Tryz.ntmps164
    go_wp2
    go_ret
    exact ⟨rfl, Below.refl _ _⟩
end Go.Ev

