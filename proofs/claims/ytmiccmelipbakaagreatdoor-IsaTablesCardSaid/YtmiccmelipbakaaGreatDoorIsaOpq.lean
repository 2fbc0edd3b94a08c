import Derived.Test.YtmiccmelipbakaaGreatDoorIsaNmF
import Derived.Test.YtmiccmelipbakaaGreatDoorIsaLij
import Derived.Laws.Strings
import Derived.Deep.WholeRow
set_option linter.unusedSectionVars false
set_option linter.unusedVariables false
set_option linter.unusedSimpArgs false
/-
  What Op answers at any text, in the specification and in the program.
-/
namespace Go.Ev
open Go.RowKit Go.Proofs Go.Shelf
attribute [local go_sem] Oper.semAt_some
/-- The number j is an operation with this mnemonic. -/
def Hit (s : ByteArray) (j : Nat) : Prop := isOpN j = true ∧ nmS j = s
/-- What Op answers. -/
def OpR (s : ByteArray) (n : Nat) (ok : Bool) : Prop := (ok = true ∧ n < 73 ∧ Hit s n ∧ ∀ j, j < n → ¬ Hit s j) ∨ (ok = false ∧ n = 0 ∧ ∀ j, j < 73 → ¬ Hit s j)
theorem OpR.unique {s : ByteArray} {n n' : Nat} {ok ok' : Bool} (h : OpR s n ok) (h' : OpR s n' ok') : n = n' ∧ ok = ok' := by
  rcases h with ⟨rfl, h1, h2, h3⟩ | ⟨rfl, rfl, h3⟩ <;> rcases h' with ⟨rfl, h1', h2', h3'⟩ | ⟨rfl, rfl, h3'⟩
  · refine ⟨?_, rfl⟩
    rcases Nat.lt_trichotomy n n' with hl | he | hl
    · exact absurd h2 (h3' _ hl)
    · exact he
    · exact absurd h2' (h3 _ hl)
  · exact absurd h2 (h3' _ h1)
  · exact absurd h2' (h3 _ h1')
  · exact ⟨rfl, rfl⟩
theorem nmI_nat {k : Nat} (h : k < 73) : nmI (k : Int) = nmS k ∧ okI (k : Int) = isOpN k := by
  unfold nmI okI
  rw [if_pos (by omega), if_pos (by omega)]
  exact ⟨rfl, rfl⟩
theorem ne_list {t s : ByteArray} (h : t ≠ s) : (t.toList == s.toList) = false := by
  rw [ByteArray.toList_eq, ByteArray.toList_eq]
  refine beq_false_of_ne fun e => h ?_
  cases t; cases s
  congr 1
  exact Array.ext' e
theorem no_more {s : ByteArray} {k : Nat} (hno : ∀ j, j < k → ¬ Hit s j) (hk : ¬ Hit s k) : ∀ j, j < k + 1 → ¬ Hit s j := fun j hj => by
  by_cases h : j < k
  · exact hno j h
  · obtain rfl : j = k := by omega
    exact hk
set_option maxRecDepth 100000 in
set_option maxHeartbeats 1000000 in
theorem op_r {m : Int} {w : World} (hG : GlobU m w) (s : ByteArray) : Calls Tryz.prog 29 #[.string s] w fun e w' => ∃ n ok, OpR s n ok ∧ e = .returned (.tuple #[.int .i64 (n : Int), .bool ok]) ∧ Below w.heap.size w w' := by
  go_enter Tryz.func29, Tryz.ntmps29
  go_wp2
  go_loopw [4] (fun i wr => ∃ k : Nat, 1 ≤ k ∧ k ≤ 73 ∧ i = .int .i64 k ∧ (∀ j, j < k → ¬ Hit s j) ∧ Below w.heap.size w wr) (fun i _ => 73 - (intOf i).toNat)
  case atStart =>
    refine ⟨1, Nat.le_refl _, by omega, rfl, fun j hj h => ?_, Below.refl _ _⟩
    obtain rfl : j = 0 := by omega
    cases h.1
  case round =>
    obtain ⟨k, hk1, hk, rfl, hno, hbl⟩ := hrel
    by_cases hlt : k < 73
    · have hlt' : (k : Int) ≤ 72 := by omega
      have hc := name_r (globU_below hG hbl) (op := (k : Int)) (by unfold inI64; omega)
      rw [(nmI_nat hlt).1, (nmI_nat hlt).2] at hc
      have hno := Lib.hid hno
      cases hok : isOpN k with
      | false =>
        rw [hok] at hc
        have hok := Lib.hid hok
        go_wp2_with (go_at_call 27; refine hc.mono ?_; clear hc; rintro e w1 ⟨rfl, hb1⟩)
        exact ⟨⟨k + 1, by omega, by omega, by go_num, no_more hno.out (fun h => by have := h.1; rw [hok.out] at this; cases this), bel_then hbl (Nat.le_refl _) hb1⟩, by simp [intOf]; omega⟩
      | true =>
        rw [hok] at hc
        have hok := Lib.hid hok
        by_cases hs : nmS k = s
        · rw [hs] at hc
          have hs := Lib.hid hs
          go_wp2_with (go_at_call 27; refine hc.mono ?_; clear hc; rintro e w1 ⟨rfl, hb1⟩)
          refine bodyPost_ret (v := .tuple #[.int .i64 (k : Int), .bool true]) (by simp [results, Tryz.f29, go_sem]) rfl ?_
          exact ⟨k, true, .inl ⟨rfl, hlt, ⟨hok.out, hs.out⟩, hno.out⟩, rfl, bel_then hbl (Nat.le_refl _) hb1⟩
        · have hne := ne_list hs
          have hnh : Hid (¬ Hit s k) := Lib.hid (fun h => hs h.2)
          clear hs
          generalize nmS k = t at hc hne
          go_wp2_with (go_at_call 27; refine hc.mono ?_; clear hc; rintro e w1 ⟨rfl, hb1⟩)
          exact ⟨⟨k + 1, by omega, by omega, by go_num, no_more hno.out hnh.out, bel_then hbl (Nat.le_refl _) hb1⟩, by simp [intOf]; omega⟩
    · obtain rfl : k = 73 := by omega
      go_wp2
      refine bodyPost_ret (v := .tuple #[.int .i64 0, .bool false]) (by simp [results, Tryz.f29, go_sem]) rfl ?_
      exact ⟨0, false, .inr ⟨rfl, rfl, hno⟩, rfl, hbl⟩
end Go.Ev

/-
  isa.Op: a range over the operations, and the program's table of mnemonics.
-/
namespace Go.Ev
open Go.RowKit Go.Proofs Go.Shelf
attribute [local go_sem] Oper.semAt_some
/-- The program's table, as a value. -/
noncomputable def mnRun (m : Int) : Bool := evalA Tryz.prog (G1 m) orcNo 100000 62 [] (isRet (.agg (nmT.map AV.str)))
set_option maxRecDepth 1000000 in
theorem mn_62 (m : Int) : mnRun m = true := by kernel_rfl
theorem nmT_len : nmT.length = 73 := rfl
/-- What the k-th round of operations yields: the operations in their order. -/
def opsUpto (k : Nat) : List Nat := (List.range k).filter isOpN
theorem ops_succ (k : Nat) : opsUpto (k + 1) = match isOpN k with | true => opsUpto k ++ [k] | false => opsUpto k := by
  unfold opsUpto
  rw [List.range_succ, List.filter_append]
  cases h : isOpN k <;> simp [h]
theorem ops_len (k : Nat) : (opsUpto k).length ≤ k := by
  unfold opsUpto
  have := List.length_filter_le isOpN (List.range k)
  rwa [List.length_range] at this
theorem isOpN_eq : ∀ k, k < 73 → isOpN k = (decide (1 ≤ k ∧ k ≤ 61) || decide (64 ≤ k)) := by decide
set_option maxRecDepth 100000 in
theorem isOp_in (n : Nat) {k : Nat} (hk : k < 73) (w : World) : CallsIn Fence.wide n Tryz.prog 57 #[.int .i64 (k : Int)] w fun e w' => e = .returned (.bool (isOpN k)) ∧ w' = w := by
  rw [isOpN_eq k hk]
  refine callsIn_of_wp Tryz.func57 rfl trivial ?_ rfl
  simp only [Tryz.ntmps57, List.size_toArray, List.length_cons, List.length_nil, Nat.reduceAdd, Nat.reduceSub, Array.replicate_succ, Array.replicate_zero, List.push_toArray, List.append_toArray, List.nil_append, List.cons_append]
  have h4 : (k : Int) ≤ 72 := by omega
  by_cases h1 : (1 : Int) ≤ (k : Int)
  · by_cases h2 : (k : Int) ≤ 61
    · gi_wp2
      go_ret
      exact ⟨by simp; omega, rfl⟩
    · by_cases h3 : (64 : Int) ≤ (k : Int)
      · gi_wp2
        go_ret
        exact ⟨by simp; omega, rfl⟩
      · gi_wp2
        go_ret
        exact ⟨by simp; omega, rfl⟩
  · have h3 : ¬ (64 : Int) ≤ (k : Int) := by omega
    gi_wp2
    go_ret
    exact ⟨by simp; omega, rfl⟩
/-- An operation. -/
abbrev OpT := { x : Nat // x < 73 ∧ isOpN x = true }
set_option maxRecDepth 100000 in
set_option maxHeartbeats 2000000 in
theorem operations1_in (n : Nat) (hn : 1 ≤ n) (l : Nat) (J Jx : List OpT → World → Prop) (Kp : World → World → Prop)
    (hY : ∀ (pre : List OpT) (x : OpT) (W : World), J pre W → pre.length < 73 → YieldAt Fence.wide (n - 1) Tryz.prog l #[.int .i64 (x.1 : Int)] W fun e W' =>
      (e = .returned (.bool true) ∧ J (pre ++ [x]) W' ∧ Kp W W') ∨ (e = .returned (.bool false) ∧ Jx (pre ++ [x]) W'))
    (W : World) (h0 : J [] W) :
    CallsIn Fence.wide n Tryz.prog 65 #[.func (.yield l) #[] #[]] W fun e W' => (∃ v, e = .returned v) ∧
      ((∃ ys : List OpT, ys.map (·.1) = opsUpto 73 ∧ J ys W') ∨ (∃ pre : List OpT, (∃ k, k < 73 ∧ isOpN k = true ∧ pre.map (·.1) = opsUpto k ++ [k]) ∧ Jx pre W')) := by
  refine callsIn_of_wp Tryz.func65 rfl trivial ?_ rfl
  simp only [Tryz.ntmps65, List.size_toArray, List.length_cons, List.length_nil, Nat.reduceAdd, Nat.reduceSub, Array.replicate_succ, Array.replicate_zero, List.push_toArray, List.append_toArray, List.nil_append, List.cons_append]
  gi_wp2
  gi_loopw [3] (fun v wr => ∃ (k : Nat) (pre : List OpT), k ≤ 73 ∧ v = .int .i64 (k : Int) ∧ pre.map (·.1) = opsUpto k ∧ J pre wr) (fun v _ => 73 - (intOf v).toNat)
  case atStart => exact ⟨0, [], by omega, rfl, rfl, h0⟩
  case round =>
    obtain ⟨k, pre, hk, rfl, hpre, hJs⟩ := hrel
    by_cases hlt : k < 73
    · have hlt' : (k : Int) < 73 := by omega
      have hop := fun w => isOp_in (n - 1) hlt w
      have hsu := ops_succ k
      cases hok : isOpN k with
      | false =>
        rw [hok] at hop hsu
        have hsu := Lib.hid hsu
        have hpre := Lib.hid hpre
        gi_wp2_with (refine ⟨trivial, ?_⟩; refine (hop _).mono ?_; clear hop; rintro e w' ⟨rfl, rfl⟩)
        refine ⟨fun _ h => (by cases h), ?_⟩
        gi_wp2
        exact ⟨⟨k + 1, pre, by omega, by go_num, by rw [hsu.out]; exact hpre.out, hJs⟩, by simp [intOf]; omega⟩
      | true =>
        rw [hok] at hop hsu
        have hlen : pre.length < 73 := by
          have := ops_len k
          rw [← hpre, List.length_map] at this
          omega
        obtain ⟨fn, tmps, assign, body, hy, hR⟩ := hY pre ⟨k, hlt, hok⟩ wr hJs hlen
        dsimp only at hy
        have hsu := Lib.hid hsu
        have hpre := Lib.hid hpre
        gi_wp2_with (refine ⟨trivial, ?_⟩; refine (hop _).mono ?_; clear hop; rintro e w' ⟨rfl, rfl⟩)
        refine hR.mono ?_
        rintro e W3 (⟨rfl, hJ3, hk3⟩ | ⟨rfl, hJx3⟩)
        · gi_wp2
          exact ⟨⟨k + 1, _, by omega, by go_num, by rw [hsu.out, List.map_append, hpre.out]; rfl, hJ3⟩, by simp [intOf]; omega⟩
        · gi_wp2
          refine bodyPost_ret (results_none rfl _ _ _) rfl ?_
          exact ⟨⟨_, rfl⟩, .inr ⟨_, ⟨k, hlt, hok, by rw [List.map_append, hpre.out]; rfl⟩, hJx3⟩⟩
    · obtain rfl : k = 73 := by omega
      gi_wp2
      go_end0
      exact ⟨⟨_, rfl⟩, .inl ⟨_, hpre, hJs⟩⟩
theorem operations_stops (n : Nat) (hn : 1 ≤ n) (Kp : World → World → Prop) (w : World) :
    SeqStopsK Fence.wide n Tryz.prog 65 #[] (fun x : OpT => #[Value.int .i64 (x.1 : Int)]) Kp (fun ys => ys.map (·.1) = opsUpto 73) (fun pre => ∃ k, k < 73 ∧ isOpN k = true ∧ pre.map (·.1) = opsUpto k ++ [k]) 73 w := fun l J Jx W _ _ _ hY h0 =>
  operations1_in n hn l J Jx Kp hY W h0
/-- The program's table of mnemonics. -/
def Table (cs : Array Value) : Prop := cs.size = 73 ∧ ∀ k, k < 73 → cs[k]? = some (.string (nmS k))
theorem str_uniq {s t : ByteArray} (h : s.data.toList.map UInt8.toNat = t.data.toList.map UInt8.toNat) : s = t := by
  cases s; cases t
  congr 1
  apply Array.ext'
  exact List.map_inj_right (fun a b e => UInt8.toNat_inj.1 e) |>.1 h
theorem dens_table [Unk] : ∀ {t : List (List Nat)} {cs : List Value}, DenS (t.map AV.str) cs → cs.length = t.length ∧ ∀ k l, nth t k = some l → ∃ s : ByteArray, cs[k]? = some (.string s) ∧ s.data.toList.map UInt8.toNat = l
  | [], [], _ => ⟨rfl, fun k l h => by cases h⟩
  | x :: t, [], h => h.elim
  | [], c :: cs, h => h.elim
  | x :: t, c :: cs, h => by
    obtain ⟨⟨s, rfl, hs⟩, h2⟩ := h
    obtain ⟨k1, k2⟩ := dens_table h2
    refine ⟨by simp [k1], fun k l hk => ?_⟩
    match k, hk with
    | 0, hk => cases hk; exact ⟨s, rfl, hs⟩
    | k + 1, hk => exact k2 k l hk
theorem nth_some : ∀ {t : List (List Nat)} {k : Nat}, k < t.length → ∃ l, nth t k = some l
  | x :: t, 0, _ => ⟨x, rfl⟩
  | x :: t, k + 1, h => nth_some (t := t) (by simpa using h)
theorem good_strs [Unk] : ∀ t : List (List Nat), GoodS (t.map AV.str)
  | [] => trivial
  | _ :: t => ⟨trivial, good_strs t⟩
theorem mnemonics_calls {m : Int} {w : World} (hG : GlobU m w) : Calls Tryz.prog 62 #[] w fun e w' => ∃ cs, e = .returned (.agg cs) ∧ Table cs ∧ Below w.heap.size w w' := by
  letI : Unk := Unk.mk (nthI [])
  have hO : OrcSound Tryz.prog (G1 m) orcNo := orcSound_given fun f oc hf => by cases hf
  refine (rowOK_of_eval hO noNG1 mix1 (mn_62 m) (vs := []) .nil (good_strs nmT) (hG _)).mono ?_
  rintro e w' ⟨u, rfl, ⟨cs, rfl, hd⟩, _, hb⟩
  obtain ⟨k1, k2⟩ := dens_table hd
  rw [nmT_len] at k1
  refine ⟨cs, rfl, ⟨by simpa using k1, fun k hk => ?_⟩, hb⟩
  obtain ⟨l, hl⟩ := nth_some (t := nmT) (k := k) (by rw [nmT_len]; exact hk)
  obtain ⟨s, h1, h2⟩ := k2 k l hl
  have hs : s = nmS k := str_uniq (by rw [h2, nmS_map]; unfold nmB; rw [hl])
  rw [← hs]
  simpa using h1
end Go.Ev

/-
  What isa.Op answers at any text.
-/
namespace Go.Ev
open Go.RowKit Go.Proofs Go.Shelf
attribute [local go_sem] Oper.semAt_some
/-- A block that holds these cells. -/
def Rowed (W : World) (B : Nat) (cs : Array Value) (t : TypeId) : Prop := W.heap[B]? = some (.cells cs t (0, 0))
theorem Rowed.kept {W W' : World} {row : Option Nat} {B : Nat} {cs : Array Value} {t : TypeId} (h : Rowed W B cs t) (hg : W.grownBy W' row) (hne : some B ≠ row) : Rowed W' B cs t := (hg.block B (Array.getElem?_eq_some_iff.1 h).1 hne).trans h
theorem rowed_own {β : Type} (B : Nat) (cs : Array Value) (t : TypeId) : Own (fun (_ : β) W => Rowed W B cs t) := fun s X Y row hs hg hrow =>
  Rowed.kept hs hg (fun e' => by obtain ⟨o, ho, hc⟩ := hrow B e'.symm; rw [show X.heap[B]? = _ from hs] at ho; cases ho; cases hc)
theorem Rowed.cell {W : World} {B : Nat} {cs : Array Value} {t : TypeId} (h : Rowed W B cs t) {k : Nat} {v : Value} (hk : cs[k]? = some v) : W.cell? ⟨B, k, none⟩ = some v := by
  unfold World.cell?
  simp only [show W.heap[B]? = _ from h]
  exact hk
theorem info94 : (Tryz.prog.info? 94).map (·.size) = some 73 := by kernel_rfl
set_option maxRecDepth 100000 in
theorem zero94 : Tryz.zeroCells94.size = 73 := by kernel_rfl
theorem table_one {cs : Array Value} (h : Table cs) : cs.all (·.oneCell') = true := by
  rw [Array.all_eq_true]
  intro i hi
  have := h.2 i (by have := h.1; omega)
  rw [Array.getElem?_eq_getElem hi] at this
  rw [Option.some.inj this]
  rfl
theorem store94 (w : World) {cs : Array Value} (h : Table cs) : (storeCells ⟨w.heap.size, 0, none⟩ cs.toList 0).run Tryz.prog (w.alloc (.cells Tryz.zeroCells94 94)) = .ok () (w.alloc (.cells cs 94)) :=
  run_storeCells_new w 94 Tryz.zeroCells94 cs (by rw [info94, h.1]) (by rw [zero94, h.1]) (table_one h)
set_option maxRecDepth 100000 in
set_option maxHeartbeats 4000000 in
theorem op_p {m : Int} {w : World} (hG : GlobU m w) (s : ByteArray) : Calls Tryz.prog 28 #[.string s] w fun e w' => ∃ n ok, OpR s n ok ∧ e = .returned (.tuple #[.int .i64 (n : Int), .bool ok]) ∧ Below w.heap.size w w' := by
  refine (callsIn_wide (n := 6)).1 ?_
  refine callsIn_of_wp_marks Tryz.func28 rfl trivial ?_ rfl
  simp only [Tryz.ntmps28, List.size_toArray, List.length_cons, List.length_nil, Nat.reduceAdd, Nat.reduceSub, Array.replicate_succ, Array.replicate_zero, List.push_toArray, List.append_toArray, List.nil_append, List.cons_append]
  have hB1 : Below w.heap.size w (((w.alloc (.cells #[.string s] 9)).alloc (.cells #[.int .i64 0] 3)).alloc (.cells #[.bool false] 4)) := (((Below.refl _ w).alloc (Nat.le_refl _) _).alloc (by simp) _).alloc (by simp; omega) _
  have hmn := mnemonics_calls (globU_below hG hB1)
  gi_wp2_with (refine ⟨trivial, callsIn_wide.2 (hmn.mono ?_)⟩; clear hmn; rintro e w1 ⟨cs, rfl, hT, hb1⟩; have hcs := hT.1)
  rw [store94 _ hT]
  simp only [Result.andThen_ok]
  gi_wp2
  have hA := hb1.size
  simp only [World.size_alloc] at hA
  have hW1 : Below w.heap.size w w1 := hB1.trans (hb1.mono hB1.size)
  have hW2 : Below w.heap.size w (w1.alloc (.cells cs 94)) := hW1.alloc hW1.size _
  have old : ∀ b o, b < w.heap.size + 1 + 1 + 1 → (((w.alloc (.cells #[.string s] 9)).alloc (.cells #[.int .i64 0] 3)).alloc (.cells #[.bool false] 4)).heap[b]? = some o → (w1.alloc (.cells cs 94)).heap[b]? = some o := fun b o hb h => by
    rw [← h]
    exact (Below.heap_alloc w1 _ b (by omega)).trans (hb1.block b (by simp only [World.size_alloc]; exact hb))
  have bN : Boxed (w1.alloc (.cells cs 94)) w.heap.size 9 (.string s) := old _ _ (by omega) (((Boxed.new w 9 (.string s)).alloc _).alloc _)
  have bR : Boxed (w1.alloc (.cells cs 94)) (w.heap.size + 1) 3 (.int .i64 0) := old _ _ (by omega) (by have := (Boxed.new (w.alloc (.cells #[.string s] 9)) 3 (.int .i64 0)).alloc (.cells #[.bool false] 4); rwa [World.size_alloc] at this)
  have bO : Boxed (w1.alloc (.cells cs 94)) (w.heap.size + 1 + 1) 4 (.bool false) := old _ _ (by omega) (by have := Boxed.new ((w.alloc (.cells #[.string s] 9)).alloc (.cells #[.int .i64 0] 3)) 4 (.bool false); rwa [World.size_alloc, World.size_alloc] at this)
  have bT : Rowed (w1.alloc (.cells cs 94)) w1.heap.size cs 94 := World.alloc_heap_new w1 _
  have hsz : (w1.alloc (.cells cs 94)).heap.size = w1.heap.size + 1 := World.size_alloc _ _
  obtain ⟨W0, hW0⟩ : ∃ W0, w1.alloc (.cells cs 94) = W0 := ⟨_, rfl⟩
  rw [hW0] at bN bR bO bT hsz hW2 ⊢
  obtain ⟨B, hBt⟩ : ∃ B, w1.heap.size = B := ⟨_, rfl⟩
  rw [hBt] at bT hsz hA ⊢
  clear hW0 old hB1 hb1 hW1 hBt w1
  refine wpIn_rangeFunc_ownG rfl (by omega) (gf := 65) (lb := #[]) rfl trivial (enters_of Tryz.func65 (by kernel_rfl) rfl)
    (operations_stops 5 (by omega) (Below w.heap.size) W0) belowK_t (belowK_b (by omega)) (Below.refl _ _) (fun _ => rfl)
    (fun pre W => (∀ y ∈ pre, nmS y.1 ≠ s) ∧ (Boxed W w.heap.size 9 (.string s) ∧ Boxed W (w.heap.size + 1) 3 (.int .i64 0) ∧ Boxed W (w.heap.size + 1 + 1) 4 (.bool false) ∧ Rowed W B cs 94) ∧ Below w.heap.size w W)
    (fun c pre W => c = .ret ∧ (∃ (p : List OpT) (x : OpT), pre = p ++ [x] ∧ (∀ y ∈ p, nmS y.1 ≠ s) ∧ nmS x.1 = s ∧ Boxed W (w.heap.size + 1) 3 (.int .i64 (x.1 : Int)) ∧ Boxed W (w.heap.size + 1 + 1) 4 (.bool true)) ∧ Below w.heap.size w W)
    (fun pre X Y row hs hg hr => ⟨hs.1, ⟨boxed_own _ _ (fun (_ : Unit) => _) () X Y row hs.2.1.1 hg (fun r e => (hr r e).2), boxed_own _ _ (fun (_ : Unit) => _) () X Y row hs.2.1.2.1 hg (fun r e => (hr r e).2), boxed_own _ _ (fun (_ : Unit) => _) () X Y row hs.2.1.2.2.1 hg (fun r e => (hr r e).2), rowed_own _ _ _ () X Y row hs.2.1.2.2.2 hg (fun r e => (hr r e).2)⟩,
      (ownFrom_below (Nat.le_refl _) (by omega)) () X Y row hs.2.2 hg hr⟩)
    (fun c pre X Y row hs hg hr => by
      obtain ⟨hc, ⟨p, x, e1, e2, e3, e4, e5⟩, hb⟩ := hs
      exact ⟨hc, ⟨p, x, e1, e2, e3, boxed_own _ _ (fun (_ : Unit) => _) () X Y row e4 hg (fun r e => (hr r e).2), boxed_own _ _ (fun (_ : Unit) => _) () X Y row e5 hg (fun r e => (hr r e).2)⟩, (ownFrom_below (Nat.le_refl _) (by omega)) () X Y row hb hg hr⟩)
    ⟨fun y hy => by simp at hy, ⟨bN, bR, bO, bT⟩, hW2⟩
    (fun x => { tmps := #[.string s, .pointer (some ⟨w.heap.size, 0, none⟩), .pointer (some ⟨w.heap.size + 1, 0, none⟩), .pointer (some ⟨w.heap.size + 1 + 1, 0, none⟩), .pointer (some ⟨B, 0, none⟩), .int .i64 (x.1 : Int), .agg cs, .int .i64 (x.1 : Int), undef, undef, undef, undef, undef, undef], defers := [] }) ?assign ?body ?done ?stop
  case assign =>
    intro l x W K hK
    gi_wp2
    exact hK
  case body =>
    rintro l pre ⟨x, hx, hxo⟩ W ⟨hno, ⟨bN, bR, bO, bT⟩, hb⟩ _
    have cN := bN.cell
    have cR := bR.cell
    have fR := bR.frozen
    have cO := bO.cell
    have fO := bO.frozen
    have cT := bT.cell (hT.2 x hx)
    have hx0 : (0 : Int) ≤ (x : Int) := Int.natCast_nonneg _
    have hx1 : (x : Int) < 73 := by omega
    have hmx : Tryz.prog.follows .mixedOrders = true := by kernel_rfl
    by_cases hs : nmS x = s
    · rw [hs] at cT
      have hs := Lib.hid hs
      gi_wp2
      gi_region_with_o (fail)
      all_goals gi_wp2
      all_goals (try go_bits)
      all_goals exact ⟨((KeepsOthers.drew _).trans ((KeepsOthers.setCell _ _ _).trans (KeepsOthers.setCell _ _ _))).from _, rfl, ⟨pre, ⟨x, hx, hxo⟩, rfl, hno, hs.out, (Boxed.set _ (show Boxed W.drew _ _ _ from bR)).other (by omega) _, (Boxed.other (show Boxed W.drew _ _ _ from bO) (by omega) _).set _⟩,
        (hb.drew.setCell (p := ⟨w.heap.size + 1, 0, none⟩) (by simp) _).setCell (p := ⟨w.heap.size + 1 + 1, 0, none⟩) (by simp; omega) _⟩
    · have hne := ne_list hs
      have hs := Lib.hid hs
      generalize nmS x = t at cT hne
      gi_wp2
      gi_region_with_o (fail)
      all_goals gi_wp2
      all_goals (try go_bits)
      all_goals exact ⟨(KeepsOthers.drew _).from _, (Below.refl _ W).drew, fun y hy => by
          rcases List.mem_append.1 hy with h | h
          · exact hno y h
          · rw [List.mem_singleton] at h
            subst h
            exact hs.out, ⟨bN, bR, bO, bT⟩, hb.drew⟩
  case done =>
    rintro D ys W hD hys ⟨hno, ⟨bN, bR, bO, bT⟩, hb⟩ hDf
    have cR := bR.cell
    have fR := bR.frozen
    have cO := bO.cell
    have fO := bO.frozen
    gi_wp2
    have bR2 := (bR.set (.int .i64 0)).other (B' := w.heap.size + 1 + 1) (by omega) (.bool false)
    have bO2 := (bO.other (B' := w.heap.size + 1) (by omega) (.int .i64 0)).set (.bool false)
    have hDf2 := ((KeepsOthers.setCell W ⟨w.heap.size + 1, 0, none⟩ (.int .i64 0)).trans (KeepsOthers.setCell _ ⟨w.heap.size + 1 + 1, 0, none⟩ (.bool false))).same D _ hDf rfl
    have hb2 := (hb.setCell (p := ⟨w.heap.size + 1, 0, none⟩) (by simp) (.int .i64 0)).setCell (p := ⟨w.heap.size + 1 + 1, 0, none⟩) (by simp; omega) (.bool false)
    generalize (W.setCell ⟨w.heap.size + 1, 0, none⟩ (.int .i64 0)).setCell ⟨w.heap.size + 1 + 1, 0, none⟩ (.bool false) = W2 at *
    refine ⟨by simp, .inl ⟨_, _, rfl, run_takeDeferred hDf2, ?_⟩⟩
    have bR3 := (bR2.kept (grownBy_putObj' W2 D (.deferred none)) (by simp; omega)).cell
    have bO3 := (bO2.kept (grownBy_putObj' W2 D (.deferred none)) (by simp; omega)).cell
    refine ⟨.tuple #[.int .i64 0, .bool false], by simp [results, Tryz.f28, go_sem, bR3, bO3], 0, false, .inr ⟨rfl, rfl, fun j hj hh => ?_⟩, rfl, hb2.trans (belowK_b (w := w) (Nat.le_refl _) W2 D _ _ (by omega) hDf2 rfl rfl)⟩
    have hm : j ∈ ys.map (·.1) := by rw [hys]; unfold opsUpto; exact List.mem_filter.2 ⟨List.mem_range.2 hj, hh.1⟩
    obtain ⟨y, hy, rfl⟩ := List.mem_map.1 hm
    exact hno y hy hh.2
  case stop =>
    rintro D c pre W hD ⟨k, hk, hko, hpre⟩ ⟨rfl, ⟨p, x, rfl, e2, e3, e4, e5⟩, hb⟩ hDf
    have cR := e4.cell
    have cO := e5.cell
    gi_wp2
    refine ⟨by simp, .inl ⟨_, _, rfl, run_takeDeferred hDf, ?_⟩⟩
    have bR3 := (e4.kept (grownBy_putObj' W D (.deferred none)) (by simp; omega)).cell
    have bO3 := (e5.kept (grownBy_putObj' W D (.deferred none)) (by simp; omega)).cell
    rw [List.map_append] at hpre
    obtain ⟨hp1, hp2⟩ := List.append_inj' hpre rfl
    have hxk : x.1 = k := by simpa using hp2
    refine ⟨.tuple #[.int .i64 (x.1 : Int), .bool true], by simp [results, Tryz.f28, go_sem, bR3, bO3], x.1, true, .inl ⟨rfl, x.2.1, ⟨x.2.2, e3⟩, fun j hj hh => ?_⟩, rfl, hb.trans (belowK_b (w := w) (Nat.le_refl _) W D _ _ (by omega) hDf rfl rfl)⟩
    have hm : j ∈ p.map (·.1) := by rw [hp1]; unfold opsUpto; exact List.mem_filter.2 ⟨List.mem_range.2 (by omega), hh.1⟩
    obtain ⟨y, hy, rfl⟩ := List.mem_map.1 hm
    exact e2 y hy hh.2
end Go.Ev

