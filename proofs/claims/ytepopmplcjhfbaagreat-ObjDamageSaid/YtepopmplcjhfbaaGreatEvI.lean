import Derived.Test.YtepopmplcjhfbaaGreatEvH
set_option linter.unusedSectionVars false
set_option linter.unusedVariables false
set_option linter.unusedSimpArgs false
set_option linter.unnecessarySimpa false
namespace Go.Ev
open Go.RowKit
variable [Unk]
section
variable {P : Program} {G : Nat → Nat → Option AV} {orc : Nat → Option Orc}
theorem oBuildSliceN_snd (t : TypeId) (m : Nat) (parts : Array (Nat × Operand)) : OpSnd P G orc (.buildSlice t m parts) (oBuildSliceN t m parts) := fun env H nx lo k h => by
  unfold oBuildSliceN at h
  split at h
  · rename_i e he
    obtain ⟨i, _, h, hsz⟩ := sizeK_true h
    obtain ⟨z, zv, h, hz, hzr⟩ := zeroK_true h
    obtain ⟨ps, h, hps⟩ := ovps_true h
    obtain ⟨h1, h⟩ := guardB_true h
    obtain ⟨h2, h⟩ := guardB_true h
    obtain ⟨h3, h⟩ := guardB_true h
    have h1 := ble_true h1
    have h2 := beq_false (nb_true h2)
    have h3 := beq_true h3
    rw [len_eq] at h3
    have hs0 : i.size ≠ 0 := by intro e0; rw [e0] at h2; simp at h2
    obtain ⟨cs', h, hl, hf⟩ := fillK_true h
    obtain ⟨tt, H', ht, hH, h⟩ := newCells_true h
    refine ⟨_, _, _, h, OpOK.fresh hH fun ρ N w n act o ho hI hE => ?_⟩
    obtain ⟨ca', f1, f2⟩ := hf (rep_vrs (n := m) (hz ρ).cells h3.symm hs0) (hps hE)
    refine ⟨.cells ca' e, ca'.size, .slice (some ⟨w.heap.size, 0, none⟩) m m, w, Below.refl _ _, rfl, ?_, fun hle => ⟨OR.of_cells ht (f2.mono hle), ?_⟩⟩
    · have hm : (parts.map fun x => (x.1, act.eval x.2)).toList = parts.toList.map fun x => (x.1, act.eval x.2) := Array.toList_map
      have n1 : ¬ (m * i.size > 2 ^ 24) := by simp; omega
      simp only [execOp, ho, Instr.buildSlice, Sem.run_bind, run_underlying he, Result.andThen_ok, hsz, Sem.run_ite]
      rw [if_neg n1, Sem.run_pure, Result.andThen_ok, if_neg h2]
      simp only [hzr, Result.andThen_ok, Sem.run_pure]
      rw [show (Array.map (fun x => match x with | (i, x) => (i, act.eval x)) parts) = parts.map fun x => (x.1, act.eval x.2) from rfl, hm, f1]
      simp [newRow]
    · exact .sliceK _ _ _ _ _ _ (Rho.put_same _ _ _ _) (Nat.le_refl _)
  · cases h
theorem oBuildSlice0_snd (t : TypeId) (parts : Array (Nat × Operand)) : OpSnd P G orc (.buildSlice t 0 parts) (oBuildSlice0 t parts.toList) := fun env H nx lo k h => by
  unfold oBuildSlice0 at h
  split at h
  · rename_i hp
    have hp : parts = #[] := Array.toList_inj.1 hp
    subst hp
    split at h
    · rename_i e he
      obtain ⟨i, _, h, hsz⟩ := sizeK_true h
      obtain ⟨tt, H', ht, hH, h⟩ := newCells_true h
      refine ⟨_, _, _, h, OpOK.fresh hH fun ρ N w n act o ho hI hE => ?_⟩
      refine ⟨.cells #[] e, 0, .slice (some ⟨w.heap.size, 0, none⟩) 0 0, w, Below.refl _ _, rfl, ?_, fun hle => ⟨OR.of_cells (cs := #[]) ht .nil, ?_⟩⟩
      · simp [execOp, ho, Instr.buildSlice, run_underlying he, hsz, newRow, Instr.fill]
        rw [show Array.map (fun _ => default) (Array.range 0) = (#[] : Array Value) from Array.eq_empty_of_size_eq_zero (by simp)]
      · exact .sliceK _ _ _ _ _ _ (Rho.put_same _ _ _ _) (Nat.le_refl _)
    · cases h
  · cases h
theorem oBuildSlice_snd (t : TypeId) (m : Nat) (parts : Array (Nat × Operand)) : OpSnd P G orc (.buildSlice t m parts) (oBuildSlice t m parts) := by
  cases m with
  | zero => exact oBuildSlice0_snd t parts
  | succ m => exact oBuildSliceN_snd t (m + 1) parts
theorem oFieldAddr_snd (s : TypeId) (x : Operand) (f : Nat) : OpSnd P G orc (.fieldAddr s x f) (oFieldAddr s x f) := fun env H nx lo k h => by
  unfold oFieldAddr at h
  split at h
  · rename_i fs e
    obtain ⟨fd, hf, h⟩ := opt_true h
    rw [nth_eq] at hf
    have hf' : fs[f]? = some fd := by simpa using hf
    obtain ⟨i, _, h, hsz⟩ := sizeK_true h
    obtain ⟨h2, h⟩ := guardB_true h
    have h2 := beq_false (nb_true h2)
    obtain ⟨a, ha, h⟩ := ov_true h
    split at h
    · rename_i id off
      rw [fN_eq] at h
      refine ⟨_, _, _, h, OpOK.pure fun ρ N w n act o ho hI hE => ?_⟩
      have h1 := aev_sound hE ha
      generalize hx : act.eval x = u at h1
      cases h1 with
      | ptr _ _ b sz hr =>
        exact ⟨.pointer (some ⟨b, off + fd.offset, none⟩), by simp [execOp, ho, hx, Instr.fieldAt, run_underlying e, hf', Instr.sureAddr, fieldPlace, hsz, h2, add_none], .ptr _ _ _ _ hr⟩
    · rename_i g off
      rw [fN_eq] at h
      refine ⟨_, _, _, h, OpOK.pure fun ρ N w n act o ho hI hE => ?_⟩
      have h1 := aev_sound hE ha
      generalize hx : act.eval x = u at h1
      cases h1 with
      | glob _ _ =>
        exact ⟨.pointer (some (gp g (off + fd.offset))), by simp [gp, Nat.add_assoc, execOp, ho, hx, Instr.fieldAt, run_underlying e, hf', Instr.sureAddr, fieldPlace, hsz, h2, add_none], .glob _ _⟩
    · cases h
  · cases h
theorem oField_snd (s : TypeId) (x : Operand) (f : Nat) : OpSnd P G orc (.field s x f) (oField s x f) := fun env H nx lo k h => by
  unfold oField at h
  split at h
  · rename_i fs e
    obtain ⟨fd, hf, h⟩ := opt_true h
    rw [nth_eq] at hf
    have hf' : fs[f]? = some fd := by simpa using hf
    obtain ⟨a, ha, h⟩ := ov_true h
    split at h
    · obtain ⟨v, h, hv⟩ := partK_true h
      refine ⟨_, _, _, h, OpOK.pure fun ρ N w n act o ho hI hE => ?_⟩
      have h1 := aev_sound hE ha
      generalize hx : act.eval x = u at h1
      cases h1 with
      | agg _ ca hc =>
        obtain ⟨u, e1, e2⟩ := hv (w := w) hc
        exact ⟨u, by simp [execOp, ho, hx, Instr.field, run_underlying e, hf', asAgg, e1], e2⟩
    · cases h
  · cases h
theorem isLt_true {i : Nat} {c0 : Int} {l : List Int} {bs : List (Int × Int)} (h : isLt i c0 l bs = true) (hw : Lin.Within Unk.s bs 0) {n : Nat} (hn : (n : Int) = c0 + Lin.val Unk.s l 0) : i < n := by
  unfold isLt at h
  split at h
  · rename_i e
    have := Lin.cmpF_true e hw
    rw [← hn] at this
    simp [Lin.Cmp.of, Lin.val] at this
    omega
  · cases h
theorem oIndexAddr_snd (t : TypeId) (x ix : Operand) : OpSnd P G orc (.indexAddr t x ix) (oIndexAddr t x ix) := fun env H nx lo k h => by
  obtain ⟨a, ha, h⟩ := ov_true h
  obtain ⟨b, hb, h⟩ := ov_true h
  split at h
  · rename_i kd i
    obtain ⟨j, hj, h9⟩ := opt_true h
    clear h
    have := nonneg_some hj; subst this
    have h := h9
    clear h9
    split at h
    · rename_i m e he
      obtain ⟨hlt, h⟩ := guardB_true h
      have hlt := blt_true hlt
      obtain ⟨i, _, h, hsz⟩ := sizeK_true h
      split at h
      · rename_i id off
        rw [fN_eq] at h
        refine ⟨_, _, _, h, OpOK.pure fun ρ N w n act o ho hI hE => ?_⟩
        have h1 := aev_sound hE ha
        have h2 := aev_sound hE hb
        generalize hx : act.eval x = u at h1
        generalize hix : act.eval ix = v at h2
        cases h2
        cases h1 with
        | ptr _ _ bl sz hr =>
          exact ⟨.pointer (some ⟨bl, _, none⟩), by simp [execOp, ho, hx, hix, Instr.indexAt, asIntOf, run_underlying he, Instr.sureAddr, hsz, add_none, hlt], .ptr _ _ _ _ hr⟩
      · rename_i g off
        rw [fN_eq] at h
        refine ⟨_, _, _, h, OpOK.pure fun ρ N w n act o ho hI hE => ?_⟩
        have h1 := aev_sound hE ha
        have h2 := aev_sound hE hb
        generalize hx : act.eval x = u at h1
        generalize hix : act.eval ix = v at h2
        cases h2
        cases h1 with
        | glob _ _ =>
          exact ⟨.pointer (some (gp _ _)), by simp [gp, Nat.add_assoc, execOp, ho, hx, hix, Instr.indexAt, asIntOf, run_underlying he, Instr.sureAddr, hsz, add_none, hlt], .glob _ _⟩
      · cases h
    · rename_i e he
      split at h
      · obtain ⟨hlt, h⟩ := guardB_true h
        have hlt := blt_true hlt
        obtain ⟨i, _, h, hsz⟩ := sizeK_true h
        rw [fN_eq] at h
        refine ⟨_, _, _, h, OpOK.pure fun ρ N w n act o ho hI hE => ?_⟩
        have h1 := aev_sound hE ha
        have h2 := aev_sound hE hb
        generalize hx : act.eval x = u at h1
        generalize hix : act.eval ix = v at h2
        cases h2
        cases h1 with
        | sliceK _ _ _ _ bl sz hr hl =>
          exact ⟨.pointer (some ⟨bl, _, none⟩), by simp [execOp, ho, hx, hix, Instr.indexAt, asIntOf, run_underlying he, hsz, add_none, hlt], .ptr _ _ _ _ hr⟩
        | sliceU _ _ _ _ _ bl sz hr hl =>
          exact ⟨.pointer (some ⟨bl, _, none⟩), by simp [execOp, ho, hx, hix, Instr.indexAt, asIntOf, run_underlying he, hsz, add_none, hlt], .ptr _ _ _ _ hr⟩
      · rename_i g off c0 l bs
        obtain ⟨hlt, h⟩ := guardB_true h
        obtain ⟨i, _, h, hsz⟩ := sizeK_true h
        rw [fN_eq] at h
        refine ⟨_, _, _, h, OpOK.pure fun ρ N w n act o ho hI hE => ?_⟩
        have h1 := aev_sound hE ha
        have h2 := aev_sound hE hb
        generalize hx : act.eval x = u at h1
        generalize hix : act.eval ix = v at h2
        cases h2
        cases h1 with
        | gsl _ _ _ _ _ n hn hw hl =>
          have hlt := isLt_true hlt hw hn
          exact ⟨.pointer (some (gp _ _)), by simp [gp, Nat.add_assoc, execOp, ho, hx, hix, Instr.indexAt, asIntOf, run_underlying he, hsz, add_none, hlt], .glob _ _⟩
      · cases h
    · cases h
  · cases h
theorem oIndex_snd (t : TypeId) (x ix : Operand) : OpSnd P G orc (.index t x ix) (oIndex t x ix) := fun env H nx lo k h => by
  obtain ⟨a, ha, h⟩ := ov_true h
  obtain ⟨b, hb, h⟩ := ov_true h
  split at h
  · rename_i kd i
    obtain ⟨j, hj, h9⟩ := opt_true h
    clear h
    have := nonneg_some hj; subst this
    have h := h9
    clear h9
    split at h
    · rename_i m e he
      split at h
      · obtain ⟨hlt, h⟩ := guardB_true h
        have hlt := blt_true hlt
        obtain ⟨i, _, h, hsz⟩ := sizeK_true h
        obtain ⟨v, h, hv⟩ := partK_true h
        refine ⟨_, _, _, h, OpOK.pure fun ρ N w n act o ho hI hE => ?_⟩
        have h1 := aev_sound hE ha
        have h2 := aev_sound hE hb
        generalize hx : act.eval x = u at h1
        generalize hix : act.eval ix = v at h2
        cases h2
        cases h1 with
        | agg _ ca hc =>
          obtain ⟨u, e1, e2⟩ := hv (w := w) hc
          exact ⟨u, by simp [execOp, ho, hx, hix, Instr.index, asIntOf, run_underlying he, hsz, hlt, e1], e2⟩
      · cases h
    · rename_i he
      split at h
      · obtain ⟨c, hc, h⟩ := opt_true h
        rw [nth_eq] at hc
        refine ⟨_, _, _, h, OpOK.pure fun ρ N w n act o ho hI hE => ?_⟩
        have h1 := aev_sound hE ha
        have h2 := aev_sound hE hb
        generalize hx : act.eval x = u at h1
        generalize hix : act.eval ix = v at h2
        cases h2
        cases h1 with
        | str _ s hs =>
          subst hs
          have hj2 : ∃ q : UInt8, s.data[j]? = some q ∧ q.toNat = c := by
            rw [List.getElem?_map] at hc
            cases hq : s.data.toList[j]? with
            | none => rw [hq] at hc; cases hc
            | some q => rw [hq] at hc; simp at hc; exact ⟨q, by simpa using hq, hc⟩
          obtain ⟨q, hq, hqc⟩ := hj2
          have hq' : s[j]? = some q := by
            have hlt := getElem?_lt hq
            have e1 : s[j]? = some s[j] := by
              exact getElem?_pos s j (by show j < s.data.size; exact hlt)
            rw [e1]
            rw [Array.getElem?_eq_getElem hlt] at hq
            simp at hq
            rw [← hq]; rfl
          exact ⟨.int .u8 q.toNat, by simp [execOp, ho, hx, hix, Instr.index, asIntOf, run_underlying he, hq'], by rw [hqc]; exact .int _ _⟩
      · cases h
    · cases h
  · cases h
theorem oPanic_snd (x : Operand) : OpSnd P G orc (.panic x) (oPanic x) := fun env H nx lo k h => by
  obtain ⟨a, ha, h⟩ := ov_true h
  split at h
  · refine ⟨_, _, _, h, fun _ => HeapLo.refl _ _, Nat.le_refl _, fun ρ N w n act o ho hI hE => ?_⟩
    have h1 := aev_sound hE ha
    generalize hx : act.eval x = u at h1
    refine ⟨ρ, w, Rho.le_refl ρ, hI, Below.refl _ _, fun _ => Below.refl _ _, u, ?_, rfl, rfl, h1⟩
    cases h1
    simp [execOp, ho, hx, Instr.panic]
  · cases h
theorem oRange_snd (t : TypeId) (x : Operand) : OpSnd P G orc (.range t x) (oRange t x) := fun env H nx lo k h => by
  unfold oRange at h
  split at h
  · rename_i he
    obtain ⟨a, ha, h⟩ := ov_true h
    split at h
    · rename_i l
      obtain ⟨H', hH, h⟩ := newK_true h
      refine ⟨_, _, _, h, OpOK.fresh hH fun ρ N w n act o ho hI hE => ?_⟩
      have h1 := aev_sound hE ha
      generalize hx : act.eval x = u at h1
      cases h1 with
      | str _ s hs =>
        refine ⟨.stringIter s 0, 0, .pointer (some ⟨w.heap.size, 0, none⟩), w, Below.refl _ _, rfl, ?_, fun hle => ⟨?_, ?_⟩⟩
        · simp [execOp, ho, hx, Instr.range, run_underlying he]
        · exact .siter l s 0 0 hs
        · exact .ptr _ _ _ _ (Rho.put_same _ _ _ _)
    · cases h
  · cases h
theorem ERs.length {ρ : Rho} : ∀ {es : List (AV × AV)} {l : List MapEntry}, ERs ρ es l → es.length = l.length
  | [], [], _ => rfl
  | _ :: _, _ :: _, h => by simp [ERs.length h.2]
  | [], _ :: _, h => h.elim
  | _ :: _, [], h => h.elim
theorem bLen_snd (args : Array Operand) (ts : Array TypeId) : OpSnd P G orc (.call ⟨.builtin .len, args, ts⟩) (bLen args.toList ts.toList) := fun env H nx lo k h => by
  unfold bLen at h
  split at h
  · rename_i x hargs
    split at h
    · rename_i t ts' hts
      obtain ⟨a, ha, h⟩ := ov_true h
      have ea : ∀ act : Act, args.map act.eval = #[act.eval x] := fun act => by
        apply Array.toList_inj.1; simp [hargs]
      have et : ts[0]? = some t := by
        have : ts.toList[0]? = some t := by rw [hts]; rfl
        simpa using this
      have key : ∀ {r : Nat}, (∀ {ρ : Rho} {u : Value} {w : World}, VR ρ a u → (Builtin.len_ ts 0 #[u]).run P w = .ok (.int .i64 r) w) → ∀ (o : Oper), OpOK P G (.call ⟨.builtin .len, args, ts⟩) env H nx lo (.val (.int .i64 (.ofNat r))) H nx := by
        intro r hr _
        refine OpOK.pure fun ρ N w n act o ho hI hE => ⟨.int .i64 r, ?_, .int _ _⟩
        have h1 := hr (w := w) (aev_sound hE ha)
        have h2 : (Builtin.len_ ts o.type #[act.eval x]).run P w = .ok (.int .i64 r) w := h1
        simp [execOp, ho, resolve, invoke, builtin, ea, h2]
      split at h
      · rename_i he
        split at h
        · rename_i l
          rw [fN_eq, len_eq] at h
          refine ⟨_, _, _, h, key (r := l.length) (fun {ρ u w} h1 => ?_) default⟩
          cases h1 with
          | str _ s hs => rw [← hs, size_bytes]; simp [Builtin.len_, et, run_underlying he, goInt]
        · cases h
      · rename_i e he
        split at h
        · refine ⟨_, _, _, h, key (fun {ρ u w} h1 => ?_) default⟩
          cases h1 <;> simp [Builtin.len_, et, run_underlying he, goInt]
        · refine ⟨_, _, _, h, key (fun {ρ u w} h1 => ?_) default⟩
          cases h1
          simp [Builtin.len_, et, run_underlying he, goInt]
        · obtain ⟨r, h, hr⟩ := linK_true h
          refine ⟨_, _, _, h, OpOK.pure fun ρ N w n act o ho hI hE => ?_⟩
          have h1 := aev_sound hE ha
          generalize hx : act.eval x = u at h1
          cases h1 with
          | gsl _ _ _ _ _ n hn hw hl =>
            refine ⟨.int .i64 (n : Int), ?_, hr ρ _ hn hw⟩
            have h2 : (Builtin.len_ ts o.type #[act.eval x]).run P w = .ok (.int .i64 (n : Int)) w := by rw [hx]; simp [Builtin.len_, et, run_underlying he, goInt]
            simp [execOp, ho, resolve, invoke, builtin, ea, h2]
        · cases h
      · rename_i m e he
        rw [fN_eq] at h
        refine ⟨_, _, _, h, key (r := m) (fun {ρ u w} h1 => ?_) default⟩
        cases h1 <;> simp [Builtin.len_, et, run_underlying he, goInt]
      · rename_i kt e he
        split at h
        · rename_i id
          obtain ⟨ob, hob, h⟩ := opt_true h
          split at h
          · rename_i es
            rw [fN_eq, len_eq] at h
            refine ⟨_, _, _, h, OpOK.pure fun ρ N w n act o ho hI hE => ?_⟩
            have h1 := aev_sound hE ha
            generalize hx : act.eval x = u at h1
            cases h1 with
            | map _ b sz hr =>
              obtain ⟨b', sz', ob', k1, k2, k3, k4⟩ := hI.obj id _ hob
              rw [hr] at k1; simp at k1; obtain ⟨rfl, rfl⟩ := k1
              cases k4 with
              | map _ entries clock _ hes =>
                have hl := ERs.length hes
                refine ⟨.int .i64 (es.length : Int), ?_, .int _ _⟩
                have h2 : (Builtin.len_ ts o.type #[act.eval x]).run P w = .ok (.int .i64 (es.length : Int)) w := by
                  rw [hx]; simp [Builtin.len_, et, run_underlying he, goInt, getObj, Sem.run, k3, hl]
                simp [execOp, ho, resolve, invoke, builtin, ea, h2]
          · cases h
        · refine ⟨_, _, _, h, key (r := 0) (fun {ρ u w} h1 => ?_) default⟩
          cases h1
          simp [Builtin.len_, et, run_underlying he, goInt]
        · cases h
      · cases h
    · cases h
  · cases h
theorem bCap_snd (args : Array Operand) (ts : Array TypeId) : OpSnd P G orc (.call ⟨.builtin .cap, args, ts⟩) (bCap args.toList ts.toList) := fun env H nx lo k h => by
  unfold bCap at h
  split at h
  · rename_i x hargs
    split at h
    · rename_i t ts' hts
      obtain ⟨a, ha, h⟩ := ov_true h
      have ea : ∀ act : Act, args.map act.eval = #[act.eval x] := fun act => by
        apply Array.toList_inj.1; simp [hargs]
      have et : ts[0]? = some t := by
        have : ts.toList[0]? = some t := by rw [hts]; rfl
        simpa using this
      split at h
      · rename_i e he
        split at h
        · refine ⟨_, _, _, h, OpOK.pure fun ρ N w n act o ho hI hE => ?_⟩
          have h1 := aev_sound hE ha
          generalize hx : act.eval x = u at h1
          cases h1
          exact ⟨.int .i64 _, by simp [execOp, ho, resolve, invoke, builtin, ea, hx, Builtin.cap_, et, run_underlying he, goInt], .int _ _⟩
        · refine ⟨_, _, _, h, OpOK.pure fun ρ N w n act o ho hI hE => ?_⟩
          have h1 := aev_sound hE ha
          generalize hx : act.eval x = u at h1
          cases h1
          exact ⟨.int .i64 0, by simp [execOp, ho, resolve, invoke, builtin, ea, hx, Builtin.cap_, et, run_underlying he, goInt], .int _ _⟩
        · cases h
      · cases h
    · cases h
  · cases h
theorem bMin_snd (args : Array Operand) (ts : Array TypeId) : OpSnd P G orc (.call ⟨.builtin .min, args, ts⟩) (bMin args.toList) := fun env H nx lo k h => by
  unfold bMin at h
  split at h
  · rename_i x y hargs
    obtain ⟨a, ha, h⟩ := ov_true h
    obtain ⟨b, hb, h⟩ := ov_true h
    have ea : ∀ act : Act, args.map act.eval = #[act.eval x, act.eval y] := fun act => by
      apply Array.toList_inj.1; simp [hargs]
    split at h
    · split at h
      · obtain ⟨hk, h9⟩ := guardB_true h
        clear h
        have := kbeq_true hk; subst this
        split at h9
        · rename_i hle
          rw [ile_eq] at hle
          have hle := of_decide_eq_true hle
          refine ⟨_, _, _, h9, OpOK.pure fun ρ N w n act o ho hI hE => ?_⟩
          have h1 := aev_sound hE ha
          have h2 := aev_sound hE hb
          generalize hx : act.eval x = u at h1
          generalize hy : act.eval y = v at h2
          cases h1; cases h2
          refine ⟨_, ?_, .int _ _⟩
          have hle' := Int.not_lt.2 hle
          simp [execOp, ho, resolve, invoke, builtin, ea, hx, hy, Builtin.min_, Builtin.min2, hle']
        · rename_i hle
          rw [ile_eq] at hle
          have hle := of_decide_eq_false hle
          have hle := Int.not_le.1 hle
          refine ⟨_, _, _, h9, OpOK.pure fun ρ N w n act o ho hI hE => ?_⟩
          have h1 := aev_sound hE ha
          have h2 := aev_sound hE hb
          generalize hx : act.eval x = u at h1
          generalize hy : act.eval y = v at h2
          cases h1; cases h2
          refine ⟨_, ?_, .int _ _⟩
          simp [execOp, ho, resolve, invoke, builtin, ea, hx, hy, Builtin.min_, Builtin.min2, hle]
      · cases h
    · cases h
  · cases h
end
end Go.Ev

