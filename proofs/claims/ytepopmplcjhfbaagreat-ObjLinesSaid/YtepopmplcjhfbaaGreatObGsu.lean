import Derived.Test.YtepopmplcjhfbaaGreatObGqr
import Derived.Defers
import Derived.Recover
import Derived.Laws.Pointers
import Derived.Laws.EntriesVeiled
import Derived.Test.YtepopmplcjhfbaaGreatObGmo
import Derived.Test.YtepopmplcjhfbaaGreatObGe
set_option linter.unusedSectionVars false
set_option linter.unusedVariables false
set_option linter.unusedSimpArgs false
set_option linter.unnecessarySimpa false
/-
  Stage 3: the program's Unpack: what is deferred.
-/
namespace Go.Ev
open Go.RowKit Go.Proofs Go.Rw
theorem ta_flt (x y : Int) (w : World) : (Instr.typeAssert (.iface 119 (.agg #[.int .i64 x, .int .i64 y])) 20 119 true).run Tryz.prog w = .ok (.tuple #[.agg #[.int .i64 x, .int .i64 y], .bool true]) w := by kernel_rfl
theorem ta_nil (w : World) : (Instr.typeAssert .nilIface 20 119 true).run Tryz.prog w = .ok (.tuple #[.agg #[.int .i64 0, .int .i64 0], .bool false]) w := by kernel_rfl
set_option maxRecDepth 100000 in
set_option maxHeartbeats 400000 in
theorem catch_flt {w : World} {A B : Nat} (x y : Int) (older : List PanicEntry) (va vb : Value) (ha : w.cell? ⟨A, 0, none⟩ = some va) (hb : w.cell? ⟨B, 0, none⟩ = some vb) (fa : w.frozen? ⟨A, 0, none⟩ = false) (fb : w.frozen? ⟨B, 0, none⟩ = false) (hAB : B ≠ A) :
    CallsD Tryz.prog 103 #[.pointer (some ⟨A, 0, none⟩), .pointer (some ⟨B, 0, none⟩)] (.panicking ({ v := .iface 119 (.agg #[.int .i64 x, .int .i64 y]), recovered := false } :: older)) w fun e u' w' =>
      e = .returned (.tuple #[]) ∧ u' = .panicking ({ v := .iface 119 (.agg #[.int .i64 x, .int .i64 y]), recovered := true } :: older) ∧ w' = ((w.alloc (.cells #[.int .i64 x, .int .i64 y] 119)).setCell ⟨A, 0, none⟩ (.slice none 0 0)).setCell ⟨B, 0, none⟩ (.int .i64 33) := by
  have qa := (World.cell?_alloc_lt w (.cells #[.int .i64 x, .int .i64 y] 119) _ (low_of_cell ha)).trans ha
  have qb := (World.cell?_alloc_lt w (.cells #[.int .i64 x, .int .i64 y] 119) _ (low_of_cell hb)).trans hb
  have ga := (World.frozen?_of_block (w := w) (w' := w.alloc (.cells #[.int .i64 x, .int .i64 y] 119)) (a := ⟨A, 0, none⟩) (heap_alloc_old w _ (low_of_cell ha))).trans fa
  have gb := (World.frozen?_of_block (w := w) (w' := w.alloc (.cells #[.int .i64 x, .int .i64 y] 119)) (a := ⟨B, 0, none⟩) (heap_alloc_old w _ (low_of_cell hb))).trans fb
  have qb2 := (World.cell?_of_block (w := w.alloc (.cells #[.int .i64 x, .int .i64 y] 119)) (a := ⟨B, 0, none⟩) (heap_setCell_other _ ⟨A, 0, none⟩ B (.slice none 0 0) hAB)).trans qb
  have gb2 := (World.frozen?_of_block (w := w.alloc (.cells #[.int .i64 x, .int .i64 y] 119)) (a := ⟨B, 0, none⟩) (heap_setCell_other _ ⟨A, 0, none⟩ B (.slice none 0 0) hAB)).trans gb
  refine callsD_of_wpS Tryz.func103 rfl fun c₀ cs hu => ?_
  apply wpS_seq
  apply wpS_region
  simp [wpOpsS, go_sem, recoverD, hu, Tryz.ntmps103, Exit.thenS, ta_flt]
  apply wpS_seq
  apply wpS_region
  simp [wpOpsS, go_sem, Exit.thenS]
  refine wpS_cond (t := true) (by simp [Act.eval, Array.replicate]) ?_
  simp only [if_true]
  apply wpS_region
  simp [wpOpsS, go_sem, qa, ga, qb, gb, qb2, gb2, bodyPostS, results, Tryz.results103]
  all_goals trace_state
theorem catch_idle {w : World} {A B : Nat} :
    CallsD Tryz.prog 103 #[.pointer (some ⟨A, 0, none⟩), .pointer (some ⟨B, 0, none⟩)] .returning w fun e u' w' => e = .returned (.tuple #[]) ∧ u' = .returning ∧ w' = w.alloc (.cells #[.int .i64 0, .int .i64 0] 119) := by
  refine callsD_of_wpS Tryz.func103 rfl fun c₀ cs hu => ?_
  apply wpS_seq
  apply wpS_region
  simp [wpOpsS, go_sem, recoverD, hu, Tryz.ntmps103, Exit.thenS, ta_nil]
  apply wpS_seq
  apply wpS_region
  simp [wpOpsS, go_sem, Exit.thenS]
  refine wpS_cond (t := false) (by simp [Act.eval, Array.replicate]) ?_
  simp only [Bool.false_eq_true, if_false]
  refine wpS_of_wp (wp_skip ?_)
  cases c₀
  simp_all [bodyPostS, results, Tryz.results103]
end Go.Ev

/-
  Stage 3: the program's Unpack.
-/
namespace Go.Ev
open Go.RowKit Go.Proofs Go.Rw
theorem stepF_len {v v' : LineT} {tab tab' : List LineT} {b : Nat} {bs r' : List Nat} (h : stepF v tab (b :: bs) = some (v', tab', r')) : r'.length ≤ bs.length := by
  have hn : ∀ {f : Nat × List Nat → Option (LineT × List LineT × List Nat)}, (∀ q u, f q = some u → u.2.2 = q.2) → (numF bs).bind f = some (v', tab', r') → r'.length ≤ bs.length := fun hf e => by
    cases hb : numF bs with
    | none => rw [hb] at e; cases e
    | some q =>
      obtain ⟨n, r⟩ := q
      rw [hb] at e
      have := hf _ _ e
      rw [show r' = r from this]
      have := (numF_len hb).1
      omega
  rw [stepF] at h
  split at h
  · exact hn (fun q u e => (chkF_some e).2.2.2) h
  · split at h
    · exact hn (fun q u e => (chkF_some e).2.2.2) h
    · split at h
      · exact hn (fun q u e => (chkF_some e).2.2.2) h
      · split at h
        · exact hn (fun q u e => by
            split at e
            · cases e
            · exact (chkF_some e).2.2.2) h
        · split at h
          · rw [(emitF_some h).2.2.2.2]; exact Nat.le_refl _
          · split at h
            · rw [(emitF_some h).2.2.2.2]; exact Nat.le_refl _
            · cases h
theorem runF_fuel : ∀ (k k' : Nat) (v : LineT) (tab : List LineT) (bs : List Nat), bs.length ≤ k → bs.length ≤ k' → runF k v tab bs = runF k' v tab bs
  | k, k', v, tab, [], _, _ => by cases k <;> cases k' <;> rfl
  | 0, _, v, tab, b :: bs, h, _ => by simp at h
  | _ + 1, 0, v, tab, b :: bs, _, h => by simp at h
  | k + 1, k' + 1, v, tab, b :: bs, h, h' => by
    rw [runF, runF]
    cases hs : stepF v tab (b :: bs) with
    | none => rfl
    | some q =>
      obtain ⟨v', tab', r'⟩ := q
      have := stepF_len hs
      simp only [List.length_cons] at h h'
      exact runF_fuel k k' v' tab' r' (by omega) (by omega)
/-- What Unpack answers. -/
def UpR (all : List Nat) (w : World) (e : Ending) (w' : World) : Prop :=
  Below w.heap.size w w' ∧ ((unpackF all = none ∧ e = .returned (.tuple #[.slice none 0 0, .int .i64 33])) ∨ (∃ tab tv, unpackF all = some tab ∧ e = .returned (.tuple #[tv, .int .i64 0]) ∧ RowsAt w' tv LineT.cells 4 tab))
def atOf (W : World) (M n : Nat) : Nat := match W.cell? ⟨M, 1, none⟩ with
  | some (.int _ p) => n - p.toNat
  | _ => 0
set_option maxRecDepth 100000 in
set_option maxHeartbeats 400000 in
theorem unpack_some {w : World} {b o n c : Nat} {all : List Nat} (hA : AllAt w b o n all) (hb : b < w.heap.size) (hn0 : 0 < n) (hnc : n ≤ c) (hn : n ≤ 140737488351232) :
    Calls Tryz.prog 30 #[.slice (some ⟨b, o, none⟩) n c] w (UpR all w) := by
  have hmf : ∀ (fn : Fn) (first cap : Array Value) (w : World), (Instr.makeFunc fn first cap).run Tryz.prog w = .ok (.func fn first cap) w := fun _ _ _ _ => rfl
  obtain ⟨W2, hW2⟩ : ∃ W2 : World, W2 = (w.alloc (.cells #[.slice none 0 0] 26)).alloc (.cells #[.int .i64 0] 31) := ⟨_, rfl⟩
  have hs2 : W2.heap.size = w.heap.size + 1 + 1 := by rw [hW2, World.size_alloc, World.size_alloc]
  have hbW : Below w.heap.size w W2 := by rw [hW2]; exact ((Below.refl _ _).alloc (Nat.le_refl _) _).alloc (by simp) _
  have qA0 : W2.heap[w.heap.size]? = some (.cells #[.slice none 0 0] 26 (0, 0)) := by
    rw [hW2, heap_alloc_old _ _ (by simp)]
    exact heap_alloc_new w _
  have qB0 : W2.heap[w.heap.size + 1]? = some (.cells #[.int .i64 0] 31 (0, 0)) := by
    rw [hW2]
    have := heap_alloc_new (w.alloc (.cells #[.slice none 0 0] 26)) (.cells #[.int .i64 0] 31)
    rwa [World.size_alloc] at this
  have hM0 : MSt (W2.alloc (.cells #[.slice (some ⟨b, o, none⟩) n c, .int .i64 0, .int .i64 0, .int .i64 0, .int .i64 0, .int .i64 0, .slice none 0 0] 139)) (w.heap.size + 1 + 1) (w.heap.size + 1 + 1) b o n c all 0 default (.slice none 0 0) [] := by
    have hb3 := hbW.alloc hbW.size (.cells #[.slice (some ⟨b, o, none⟩) n c, .int .i64 0, .int .i64 0, .int .i64 0, .int .i64 0, .int .i64 0, .slice none 0 0] 139)
    refine ⟨?_, ⟨World.ownsRow_nil _ _ _ _, by simp [Value.ownBlock], ⟨hA.1, hA.2.1, fun j hj => ?_⟩, by omega, Nat.le_refl _, by rw [World.size_alloc]; omega, hnc, hn, by simp, by simp⟩⟩
    · have := heap_alloc_new W2 (.cells #[.slice (some ⟨b, o, none⟩) n c, .int .i64 0, .int .i64 0, .int .i64 0, .int .i64 0, .int .i64 0, .slice none 0 0] 139)
      rw [hs2] at this
      exact this
    · have := hA.2.2 j hj
      exact (hb3.cell (low_of_cell this)).trans this
  have hM0 := Lib.hid hM0
  have hrun0 := Lib.hid (show runF (n - 0) default [] (all.drop 0) = unpackF all by rw [unpackF, List.drop_zero, Nat.sub_zero, hA.1])
  have hAn := hA.1
  have qAB : ∀ wr, Below (w.heap.size + 1 + 1) W2 wr → (wr.cell? ⟨w.heap.size, 0, none⟩ = some (.slice none 0 0) ∧ wr.cell? ⟨w.heap.size + 1, 0, none⟩ = some (.int .i64 0)) ∧ wr.frozen? ⟨w.heap.size, 0, none⟩ = false ∧ wr.frozen? ⟨w.heap.size + 1, 0, none⟩ = false := fun wr hb => by
    have h1 := (hb.block w.heap.size (by omega)).trans qA0
    have h2 := (hb.block (w.heap.size + 1) (by omega)).trans qB0
    refine ⟨⟨?_, ?_⟩, ?_, ?_⟩ <;> simp [World.cell?, World.frozen?, h1, h2]
  have hz3 : Below (w.heap.size + 1 + 1) W2 (W2.alloc (.cells #[.slice (some ⟨b, o, none⟩) n c, .int .i64 0, .int .i64 0, .int .i64 0, .int .i64 0, .int .i64 0, .slice none 0 0] 139)) := (Below.refl _ _).alloc (by omega) _
  have qA0 := Lib.hid qA0
  have qB0 := Lib.hid qB0
  clear hA
  go_enter_defers Tryz.func30, Tryz.ntmps30
  go_wp2_with fail
  rw [← hW2]
  clear hW2
  go_loopw [] (fun wr => ∃ (p : Nat) (v : LineT) (tv : Value) (tab : List LineT), p ≤ n ∧ MSt wr (w.heap.size + 1 + 1) (w.heap.size + 1 + 1) b o n c all p v tv tab ∧ RngOk v ∧ Below (w.heap.size + 1 + 1) W2 wr ∧ runF (n - p) v tab (all.drop p) = unpackF all) (fun wr => atOf wr (w.heap.size + 1 + 1) n)
  case atStart => exact ⟨0, default, .slice none 0 0, [], by omega, hM0.out, rng_default, hz3, hrun0.out⟩
  case round =>
    obtain ⟨p, v, tv, tab, hp, hm, hv, hbl, hrun⟩ := hrel
    have hrun := Lib.hid hrun
    have hend := isAtEnd_c hm.mac
    by_cases hpn : p = n
    · have hpe : ((p : Int) == (n : Int)) = true := beq_iff_eq.2 (by omega)
      have hfin := Lib.hid (show unpackF all = some tab by rw [← hrun.out, hpn, List.drop_eq_nil_of_le (by omega)]; cases (n - n) <;> rfl)
      have hrows := Lib.hid (rows_of_own hm.env.own)
      obtain ⟨ta, tc, rfl⟩ := rows_slice hrows.out
      obtain ⟨-, -, -, -, -, -, i6⟩ := hm.mac.cells
      obtain ⟨⟨qa, qb⟩, fa, fb⟩ := qAB wr hbl
      go_wp2_with (go_at_call 104; refine hend.mono ?_; rintro e w1 ⟨rfl, k, rfl⟩)
      have hlo := hm.env.own.lt
      have qA1 : (wr.drewN k).heap[w.heap.size]? = some (.cells #[.slice none 0 0] 26 (0, 0)) := (hbl.block w.heap.size (by omega)).trans qA0.out
      have qB1 : (wr.drewN k).heap[w.heap.size + 1]? = some (.cells #[.int .i64 0] 31 (0, 0)) := (hbl.block (w.heap.size + 1) (by omega)).trans qB0.out
      have hownD := Lib.hid (((hm.env.own.kept (w' := (wr.drewN k).setCell ⟨w.heap.size, 0, none⟩ (.slice ta tab.length tc)) (row := some w.heap.size) ⟨rfl, rfl, rfl, by simp, fun j _ hne => heap_setCell_other (wr.drewN k) ⟨w.heap.size, 0, none⟩ j _ (fun e => hne (by rw [e]))⟩ (.inr (fun e => by have := (hlo _ e).1; omega)))).kept (w' := ((wr.drewN k).setCell ⟨w.heap.size, 0, none⟩ (.slice ta tab.length tc)).setCell ⟨w.heap.size + 1, 0, none⟩ (.int .i64 0)) (row := some (w.heap.size + 1)) ⟨rfl, rfl, rfl, by simp, fun j _ hne => heap_setCell_other _ ⟨w.heap.size + 1, 0, none⟩ j _ (fun e => hne (by rw [e]))⟩ (.inr (fun e => by have := (hlo _ e).1; omega)))
      have hwr := hbl.size
      have hb5 := Lib.hid ((((below_drewN hbl k).mono (show w.heap.size ≤ w.heap.size + 1 + 1 by omega)).setCell (p := ⟨w.heap.size, 0, none⟩) (Nat.le_refl _) (.slice ta tab.length tc)).setCell (p := ⟨w.heap.size + 1, 0, none⟩) (by simp) (.int .i64 0))
      refine leaves_cons (f := 103) (args := #[.pointer (some ⟨w.heap.size, 0, none⟩), .pointer (some ⟨w.heap.size + 1, 0, none⟩)]) (by simp) (by simp [go_sem]) ?_
      refine catch_idle.mono ?_
      rintro e u' w'' ⟨rfl, rfl, rfl⟩
      have hb6 := Lib.hid ((hbW.trans hb5.out).alloc (hbW.trans hb5.out).size (.cells #[.int .i64 0, .int .i64 0] 119))
      have hrowsD := Lib.hid (rows_of_own (hownD.out.alloc (.cells #[.int .i64 0, .int .i64 0] 119)))
      have rb : ((((wr.drewN k).setCell ⟨w.heap.size, 0, none⟩ (.slice ta tab.length tc)).setCell ⟨w.heap.size + 1, 0, none⟩ (.int .i64 0)).alloc (.cells #[.int .i64 0, .int .i64 0] 119)).heap[w.heap.size + 1]? = some (.cells #[.int .i64 0] 31 (0, 0)) := by
        rw [heap_alloc_old _ _ (by simp; omega)]
        exact heap_setCell_same _ _ 0 _ _ _ ((heap_setCell_other _ _ _ _ (by simp)).trans qB1)
      have ra : ((((wr.drewN k).setCell ⟨w.heap.size, 0, none⟩ (.slice ta tab.length tc)).setCell ⟨w.heap.size + 1, 0, none⟩ (.int .i64 0)).alloc (.cells #[.int .i64 0, .int .i64 0] 119)).heap[w.heap.size]? = some (.cells #[.slice ta tab.length tc] 26 (0, 0)) := by
        rw [heap_alloc_old _ _ (by simp; omega), heap_setCell_other _ _ _ _ (by simp)]
        exact heap_setCell_same _ _ 0 _ _ _ qA1
      generalize hWd : ((((wr.drewN k).setCell ⟨w.heap.size, 0, none⟩ (.slice ta tab.length tc)).setCell ⟨w.heap.size + 1, 0, none⟩ (.int .i64 0)).alloc (.cells #[.int .i64 0, .int .i64 0] 119)) = Wd at *
      clear hWd
      have ca : Wd.cell? ⟨w.heap.size, 0, none⟩ = some (.slice ta tab.length tc) := by simp [World.cell?, ra]
      have cb : Wd.cell? ⟨w.heap.size + 1, 0, none⟩ = some (.int .i64 0) := by simp [World.cell?, rb]
      clear ra rb
      simp [Leaves, settle, results, Tryz.f30, go_sem, ca, cb]
      exact ⟨hb6.out, .inr ⟨tab, _, hfin.out, rfl, hrowsD.out⟩⟩
    · have hpe : ((p : Int) == (n : Int)) = false := beq_eq_false_iff_ne.2 (by omega)
      go_wp2_with (go_at_call 104; refine hend.mono ?_; rintro e w1 ⟨rfl, k, rfl⟩)
      refine (step_c (hm.drewN k) hv (by omega)).mono ?_
      rintro e w2 ⟨hb2, (⟨hnone, x, y, rfl⟩ | ⟨v', tab', p', tv', hs, hp1, hp2, rfl, hm2, hv2⟩)⟩
      · have hfin := Lib.hid (show unpackF all = none by
          have h1 := hrun.out
          have hl : (all.drop p).length = n - p := by rw [List.length_drop, hAn]
          cases hd : all.drop p with
          | nil => rw [hd] at hl; simp at hl; omega
          | cons b0 bs =>
            rw [hd] at h1 hnone
            rw [← h1]
            have e1 : n - p = (n - p - 1) + 1 := by omega
            rw [e1, runF, hnone]
            rfl)
        have hbl2 := (below_drewN hbl k).trans hb2
        obtain ⟨⟨qa, qb⟩, fa, fb⟩ := qAB w2 hbl2
        have hwr := hbl2.size
        have qA1 : w2.heap[w.heap.size]? = some (.cells #[.slice none 0 0] 26 (0, 0)) := (hbl2.block w.heap.size (by omega)).trans qA0.out
        have qB1 : w2.heap[w.heap.size + 1]? = some (.cells #[.int .i64 0] 31 (0, 0)) := (hbl2.block (w.heap.size + 1) (by omega)).trans qB0.out
        go_wp2
        refine leaves_cons (f := 103) (args := #[.pointer (some ⟨w.heap.size, 0, none⟩), .pointer (some ⟨w.heap.size + 1, 0, none⟩)]) (by simp) (by simp [go_sem]) ?_
        refine (catch_flt x y [] (.slice none 0 0) (.int .i64 0) qa qb fa fb (by omega)).mono ?_
        rintro e u' w'' ⟨rfl, rfl, rfl⟩
        have hb6 := Lib.hid ((((hbW.trans (hbl2.mono (show w.heap.size ≤ w.heap.size + 1 + 1 by omega))).alloc (by omega) (.cells #[.int .i64 x, .int .i64 y] 119)).setCell (p := ⟨w.heap.size, 0, none⟩) (Nat.le_refl _) (.slice none 0 0)).setCell (p := ⟨w.heap.size + 1, 0, none⟩) (by simp) (.int .i64 33))
        have rb : (((w2.alloc (.cells #[.int .i64 x, .int .i64 y] 119)).setCell ⟨w.heap.size, 0, none⟩ (.slice none 0 0)).setCell ⟨w.heap.size + 1, 0, none⟩ (.int .i64 33)).heap[w.heap.size + 1]? = some (.cells #[.int .i64 33] 31 (0, 0)) := by
          have h0 : ((w2.alloc (.cells #[.int .i64 x, .int .i64 y] 119)).setCell ⟨w.heap.size, 0, none⟩ (.slice none 0 0)).heap[w.heap.size + 1]? = some (.cells #[.int .i64 0] 31 (0, 0)) := by
            rw [heap_setCell_other _ _ _ _ (by simp), heap_alloc_old _ _ (by omega)]
            exact qB1
          exact heap_setCell_same _ _ 0 _ _ _ h0
        have ra : (((w2.alloc (.cells #[.int .i64 x, .int .i64 y] 119)).setCell ⟨w.heap.size, 0, none⟩ (.slice none 0 0)).setCell ⟨w.heap.size + 1, 0, none⟩ (.int .i64 33)).heap[w.heap.size]? = some (.cells #[.slice none 0 0] 26 (0, 0)) := by
          rw [heap_setCell_other _ _ _ _ (by simp)]
          have h0 : (w2.alloc (.cells #[.int .i64 x, .int .i64 y] 119)).heap[w.heap.size]? = some (.cells #[.slice none 0 0] 26 (0, 0)) := by
            rw [heap_alloc_old _ _ (by omega)]
            exact qA1
          exact heap_setCell_same _ _ 0 _ _ _ h0
        generalize hWd : (((w2.alloc (.cells #[.int .i64 x, .int .i64 y] 119)).setCell ⟨w.heap.size, 0, none⟩ (.slice none 0 0)).setCell ⟨w.heap.size + 1, 0, none⟩ (.int .i64 33)) = Wd at *
        clear hWd
        have ca : Wd.cell? ⟨w.heap.size, 0, none⟩ = some (.slice none 0 0) := by simp [World.cell?, ra]
        have cb : Wd.cell? ⟨w.heap.size + 1, 0, none⟩ = some (.int .i64 33) := by simp [World.cell?, rb]
        clear ra rb
        simp [Leaves, settle, results, Tryz.f30, go_sem, ca, cb]
        exact ⟨hb6.out, .inl ⟨hfin.out, rfl⟩⟩
      · have hrun2 := Lib.hid (show runF (n - p') v' tab' (all.drop p') = unpackF all by
          have h1 := hrun.out
          have hl : (all.drop p).length = n - p := by rw [List.length_drop, hAn]
          cases hd : all.drop p with
          | nil => rw [hd] at hl; simp at hl; omega
          | cons b0 bs =>
            rw [hd] at h1 hs hl
            rw [← h1]
            have e1 : n - p = (n - p - 1) + 1 := by omega
            rw [e1, runF, hs]
            dsimp only [Option.bind]
            exact runF_fuel _ _ _ _ _ (by rw [List.length_drop]; omega) (by rw [List.length_drop]; omega))
        have hbl2 := (below_drewN hbl k).trans hb2
        have a1 := hm.mac.cells.2.1
        have a2 := hm2.mac.cells.2.1
        go_wp2
        go_roundw
        case rel => exact ⟨p', v', tv', tab', hp2, hm2, hv2, hbl2, hrun2.out⟩
        case measure => unfold atOf; rw [a1, a2]; simp; omega
end Go.Ev

/-
  Stage 3: Unpack of nothing; equal tables; the specification's IsTable, exactly.
-/
namespace Go.Ev
open Go.RowKit Go.Proofs Go.Rw
set_option maxRecDepth 100000 in
set_option maxHeartbeats 400000 in
theorem unpack_none {w : World} {a : Option Addr} {c : Nat} :
    Calls Tryz.prog 30 #[.slice a 0 c] w (UpR [] w) := by
  have hmf : ∀ (fn : Fn) (first cap : Array Value) (w : World), (Instr.makeFunc fn first cap).run Tryz.prog w = .ok (.func fn first cap) w := fun _ _ _ _ => rfl
  have hM : MacB (((w.alloc (.cells #[.slice none 0 0] 26)).alloc (.cells #[.int .i64 0] 31)).alloc (.cells #[.slice a 0 c, .int .i64 0, .int .i64 0, .int .i64 0, .int .i64 0, .int .i64 0, .slice none 0 0] 139)) (w.heap.size + 1 + 1) a 0 c 0 default (.slice none 0 0) := by
    have := heap_alloc_new ((w.alloc (.cells #[.slice none 0 0] 26)).alloc (.cells #[.int .i64 0] 31)) (.cells #[.slice a 0 c, .int .i64 0, .int .i64 0, .int .i64 0, .int .i64 0, .int .i64 0, .slice none 0 0] 139)
    rw [World.size_alloc, World.size_alloc] at this
    exact this
  have hend := isAtEnd_c hM
  obtain ⟨-, -, -, -, -, -, i6⟩ := hM.cells
  have hpe : (((0 : Int)) == ((0 : Nat) : Int)) = true := by simp
  rw [hpe] at hend
  have hb3 : Below w.heap.size w (((w.alloc (.cells #[.slice none 0 0] 26)).alloc (.cells #[.int .i64 0] 31)).alloc (.cells #[.slice a 0 c, .int .i64 0, .int .i64 0, .int .i64 0, .int .i64 0, .int .i64 0, .slice none 0 0] 139)) := (((Below.refl _ _).alloc (Nat.le_refl _) _).alloc (by simp) _).alloc (by simp; omega) _
  have qA : (((w.alloc (.cells #[.slice none 0 0] 26)).alloc (.cells #[.int .i64 0] 31)).alloc (.cells #[.slice a 0 c, .int .i64 0, .int .i64 0, .int .i64 0, .int .i64 0, .int .i64 0, .slice none 0 0] 139)).heap[w.heap.size]? = some (.cells #[.slice none 0 0] 26 (0, 0)) := by
    rw [heap_alloc_old _ _ (by simp; omega), heap_alloc_old _ _ (by simp)]
    exact heap_alloc_new w _
  have qB : (((w.alloc (.cells #[.slice none 0 0] 26)).alloc (.cells #[.int .i64 0] 31)).alloc (.cells #[.slice a 0 c, .int .i64 0, .int .i64 0, .int .i64 0, .int .i64 0, .int .i64 0, .slice none 0 0] 139)).heap[w.heap.size + 1]? = some (.cells #[.int .i64 0] 31 (0, 0)) := by
    rw [heap_alloc_old _ _ (by simp)]
    have := heap_alloc_new (w.alloc (.cells #[.slice none 0 0] 26)) (.cells #[.int .i64 0] 31)
    rwa [World.size_alloc] at this
  have hsz : (((w.alloc (.cells #[.slice none 0 0] 26)).alloc (.cells #[.int .i64 0] 31)).alloc (.cells #[.slice a 0 c, .int .i64 0, .int .i64 0, .int .i64 0, .int .i64 0, .int .i64 0, .slice none 0 0] 139)).heap.size = w.heap.size + 3 := by simp
  obtain ⟨W3, hW3⟩ : ∃ W3 : World, W3 = (((w.alloc (.cells #[.slice none 0 0] 26)).alloc (.cells #[.int .i64 0] 31)).alloc (.cells #[.slice a 0 c, .int .i64 0, .int .i64 0, .int .i64 0, .int .i64 0, .int .i64 0, .slice none 0 0] 139)) := ⟨_, rfl⟩
  rw [← hW3] at hend i6 hb3 qA qB hsz
  clear hM
  have qa : W3.cell? ⟨w.heap.size, 0, none⟩ = some (.slice none 0 0) := by simp [World.cell?, qA]
  have qb : W3.cell? ⟨w.heap.size + 1, 0, none⟩ = some (.int .i64 0) := by simp [World.cell?, qB]
  have fa : W3.frozen? ⟨w.heap.size, 0, none⟩ = false := by simp [World.frozen?, qA]
  have fb : W3.frozen? ⟨w.heap.size + 1, 0, none⟩ = false := by simp [World.frozen?, qB]
  go_enter_defers Tryz.func30, Tryz.ntmps30
  go_wp2_with fail
  rw [← hW3]
  clear hW3
  refine wp_loop_rounds 1 ?_
  rw [rounds_succ]
  go_wp2_with (go_at_call 104; refine hend.mono ?_; rintro e w1 ⟨rfl, k, rfl⟩)
  refine leaves_cons (f := 103) (args := #[.pointer (some ⟨w.heap.size, 0, none⟩), .pointer (some ⟨w.heap.size + 1, 0, none⟩)]) (by simp) (by simp [go_sem]) ?_
  refine catch_idle.mono ?_
  rintro e u' w'' ⟨rfl, rfl, rfl⟩
  have hb5 := ((below_drewN hb3 k).setCell (p := ⟨w.heap.size, 0, none⟩) (Nat.le_refl _) (.slice none 0 0)).setCell (p := ⟨w.heap.size + 1, 0, none⟩) (by simp) (.int .i64 0)
  have hb6 := Lib.hid (hb5.alloc hb5.size (.cells #[.int .i64 0, .int .i64 0] 119))
  have h0 : ((W3.drewN k).setCell ⟨w.heap.size, 0, none⟩ (.slice none 0 0)).heap[w.heap.size + 1]? = some (.cells #[.int .i64 0] 31 (0, 0)) := (heap_setCell_other _ _ _ _ (by simp)).trans qB
  have rb : ((((W3.drewN k).setCell ⟨w.heap.size, 0, none⟩ (.slice none 0 0)).setCell ⟨w.heap.size + 1, 0, none⟩ (.int .i64 0)).alloc (.cells #[.int .i64 0, .int .i64 0] 119)).heap[w.heap.size + 1]? = some (.cells #[.int .i64 0] 31 (0, 0)) := by
    rw [heap_alloc_old _ _ (by simp [hsz])]
    exact heap_setCell_same _ _ 0 _ _ _ h0
  have ra : ((((W3.drewN k).setCell ⟨w.heap.size, 0, none⟩ (.slice none 0 0)).setCell ⟨w.heap.size + 1, 0, none⟩ (.int .i64 0)).alloc (.cells #[.int .i64 0, .int .i64 0] 119)).heap[w.heap.size]? = some (.cells #[.slice none 0 0] 26 (0, 0)) := by
    rw [heap_alloc_old _ _ (by simp [hsz]), heap_setCell_other _ _ _ _ (by simp)]
    exact heap_setCell_same _ _ 0 _ _ _ qA
  clear hb5
  generalize hWd : ((((W3.drewN k).setCell ⟨w.heap.size, 0, none⟩ (.slice none 0 0)).setCell ⟨w.heap.size + 1, 0, none⟩ (.int .i64 0)).alloc (.cells #[.int .i64 0, .int .i64 0] 119)) = Wd at *
  clear hWd
  have ca : Wd.cell? ⟨w.heap.size, 0, none⟩ = some (.slice none 0 0) := by simp [World.cell?, ra]
  have cb : Wd.cell? ⟨w.heap.size + 1, 0, none⟩ = some (.int .i64 0) := by simp [World.cell?, rb]
  clear ra rb
  simp [Leaves, settle, results, Tryz.f30, go_sem, ca, cb]
  exact ⟨hb6.out, .inr ⟨[], _, rfl, rfl, ⟨none, 0, rfl, .inl rfl⟩⟩⟩
set_option maxRecDepth 100000 in
set_option maxHeartbeats 400000 in
theorem equal_lines {w : World} {s1 s2 : Value} {l : List LineT} (hn : l.length ≤ 10000000) (h1 : RowsAt w s1 LineT.cells 4 l) (h2 : RowsAt w s2 LineT.cells 4 l) :
    Calls Tryz.prog 32 #[s1, s2] w fun e w' => e = .returned (.bool true) ∧ Below w.heap.size w w' := by
  obtain ⟨a1, c1, rfl⟩ := rows_slice h1
  obtain ⟨a2, c2, rfl⟩ := rows_slice h2
  go_enter Tryz.func32, Tryz.ntmps32
  go_wp2
  go_loopw [13] (fun i wr => ∃ k : Nat, k ≤ l.length ∧ i = .int .i64 k ∧ Below w.heap.size w wr) (fun i _ => l.length - (intOf i).toNat)
  case atStart => exact ⟨0, Nat.zero_le _, rfl, Below.refl _ _⟩
  case round =>
    obtain ⟨k, hk, rfl, hbl⟩ := hrel
    by_cases hlt : k < l.length
    · obtain ⟨b1, o1, rfl⟩ := rows_some2 h1 hlt
      obtain ⟨b2, o2, rfl⟩ := rows_some2 h2 hlt
      obtain ⟨⟨xs, xo, xf, xl⟩, hx⟩ : ∃ x, l[k]? = some x := ⟨l[k], by simp [hlt]⟩
      obtain ⟨p0, p1, p2, p3⟩ := rows_line (h1.below hbl) hx
      obtain ⟨q0, q1, q2, q3⟩ := rows_line (h2.below hbl) hx
      dsimp only at p0 p1 p2 p3 q0 q1 q2 q3
      have hlt' : (k : Int) < (l.length : Int) := by omega
      clear hx
      go_wp2
      go_quiet (fail)
      go_wp2
      go_roundw
      case rel => exact ⟨k + 1, by omega, by go_num, below_drewN hbl _⟩
      case measure => simp [intOf]; omega
    · have : k = l.length := by omega
      subst this
      go_wp2
      go_ret
      exact ⟨rfl, hbl⟩
end Go.Ev

