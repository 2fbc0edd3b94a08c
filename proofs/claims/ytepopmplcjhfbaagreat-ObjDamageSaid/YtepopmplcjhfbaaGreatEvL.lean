import Derived.Test.YtepopmplcjhfbaaGreatEvK
set_option linter.unusedSectionVars false
set_option linter.unusedVariables false
set_option linter.unusedSimpArgs false
set_option linter.unnecessarySimpa false
namespace Go.Ev
open Go.RowKit
variable [Unk]
section
variable {P : Program} {G : Nat → Nat → Option AV} {orc : Nat → Option Orc}
theorem run_sliceBounds {low high : Option Value} {isSlice : Bool} {len cap h l : Nat} {w : World}
    (h1 : (runBound high len cap (if isSlice then .sliceAcap else .sliceAlen)).run P w = .ok h w) (h2 : (runBound low 0 h .sliceB).run P w = .ok l w) :
    (Instr.sliceBounds isSlice len cap low high none).run P w = .ok (l, h, cap) w := by
  unfold Instr.sliceBounds
  cases high <;> cases low <;> simp [runBound] at h1 h2 <;> simp [h1, h2]
theorem run_sliceBounds3 {low : Option Value} {hv mv : Value} {len cap mx h l : Nat} {w : World} (hm : (Instr.sliceBound mv cap .slice3Acap).run P w = .ok mx w)
    (h1 : (runBound (some hv) len mx .slice3B).run P w = .ok h w) (h2 : (runBound low 0 h .slice3C).run P w = .ok l w) :
    (Instr.sliceBounds true len cap low (some hv) (some mv)).run P w = .ok (l, h, mx) w := by
  unfold Instr.sliceBounds
  cases low <;> simp [runBound] at h1 h2 <;> simp [hm, h1, h2]
theorem oSlice3_snd (t : TypeId) (x : Operand) (l h : Option Operand) (mo : Operand) : OpSnd P G orc (.slice t x l h (some mo)) (oSlice t x l h (some mo)) := fun env H nx lo k g0 => by
  obtain ⟨a, ha, g1⟩ := ov_true g0
  obtain ⟨al, g2, hal⟩ := ovo_true g1
  obtain ⟨ah, g3, hah⟩ := ovo_true g2
  have g4 : s3 P env H nx k t a al ah mo = true := g3
  clear g0 g1 g2 g3
  unfold s3 at g4
  obtain ⟨mv, hmv, g5⟩ := ov_true g4
  clear g4
  split at g5
  · rename_i kd mi
    obtain ⟨mx, hmx, g6⟩ := opt_true g5
    clear g5
    have := nonneg_some hmx; subst this
    split at g6
    · rename_i e he
      split at g6
      · rename_i id off sl cap
        split at g6
        · cases g6
        · rename_i hav
          obtain ⟨hcap, g7⟩ := guardB_true g6
          clear g6
          obtain ⟨hi, g8, b1, b2, b3⟩ := sbound_true (P := P) g7
          obtain ⟨lo', g9, c1, c2, c3⟩ := sbound_true (P := P) g8
          obtain ⟨i, _, g10, hsz⟩ := sizeK_true g9
          clear g7 g8 g9
          have key : ∀ {off' : Nat}, (off' = if mx = lo' then off else off + lo' * i.size) → OpOK P G (.slice t x l h (some mo)) env H nx lo (.val (.slice id off' (hi - lo') (.kn (mx - lo')))) H nx := by
            intro off' hoff
            refine OpOK.pure fun ρ N w n act o ho hI hE => ?_
            have h1 := aev_sound hE ha
            have hm1 := aev_sound hE hmv
            have hah' := hah hE
            have hal' := hal hE
            generalize hx : act.eval x = u at h1
            generalize hmo : act.eval mo = um at hm1
            cases hm1
            have hle : hi ≤ mx := b1 rfl
            have hlh : lo' ≤ hi := by
              cases e1 : al with
              | none => rw [c2 e1]; exact Nat.zero_le _
              | some _ => exact c1 (by rw [e1]; rfl)
            cases h with
            | none => exact hah'.elim
            | some ho' =>
              have fin : ∀ {bl cp : Nat}, mx ≤ cp → u = .slice (some ⟨bl, off, none⟩) sl cp → (execOp act.eval o).run P w = .ok (.value (.slice (some ⟨bl, off', none⟩) (hi - lo') (mx - lo'))) w := by
                intro bl cp hmc hu
                have hb := run_sliceBounds3 (P := P) (w := w) (len := sl) (cap := cp) (mv := .int kd (mx : Int)) (mx := mx) (by
                  have : (mx : Int) ≤ cp := by omega
                  simp [Instr.sliceBound, asIntOf, this]) (b3 .slice3B w hah') (c3 .slice3C w hal')
                simp only [execOp, ho, hx, hu, Instr.sliceAt, Instr.slice, Sem.run_bind, run_underlying he, Result.andThen_ok, Option.map_some, hmo, hb, hsz]
                by_cases hc : mx = lo'
                · simp [hc, hoff]
                · simp [hc, hoff, add_none]
              cases h1 with
              | sliceK _ _ _ cp bl sz hr hl =>
                have hmc : mx ≤ cp := ble_true hcap
                exact ⟨_, fin hmc rfl, .sliceK _ _ _ _ _ _ hr (by omega)⟩
              | sliceU _ _ _ s cp bl sz hr hl hs =>
                have hmc : mx ≤ sl := ble_true hcap
                exact ⟨_, fin (by omega) rfl, .sliceK _ _ _ _ _ _ hr (by omega)⟩
          split at g10
          · rename_i hcl
            have := beq_true hcl
            rw [fN_eq, fN_eq] at g10
            exact ⟨_, _, _, g10, key (by rw [if_pos this])⟩
          · rename_i hcl
            have := beq_false hcl
            rw [fN_eq, fN_eq, fN_eq] at g10
            exact ⟨_, _, _, g10, key (by rw [if_neg this])⟩
      · cases g6
    · cases g6
  · cases g5
theorem oSlice_snd (t : TypeId) (x : Operand) (l h m : Option Operand) : OpSnd P G orc (.slice t x l h m) (oSlice t x l h m) := fun env H nx lo k hh => by
  by_cases hm : ∃ mo, m = some mo
  · obtain ⟨mo, rfl⟩ := hm
    exact oSlice3_snd t x l h mo env H nx lo k hh
  obtain ⟨a, ha, hh⟩ := ov_true hh
  obtain ⟨al, hh, hal⟩ := ovo_true hh
  obtain ⟨ah, hh, hah⟩ := ovo_true hh
  split at hh
  · exact absurd ⟨_, rfl⟩ hm
  · split at hh
    · rename_i he
      split at hh
      · rw [fN_eq, len_eq] at hh
        obtain ⟨hi, hh, b1, b2, b3⟩ := sbound_true hh
        obtain ⟨lo', hh, c1, c2, c3⟩ := sbound_true hh
        rw [subL_eq] at hh
        refine ⟨_, _, _, hh, OpOK.pure fun ρ N w n act o ho hI hE => ?_⟩
        have h1 := aev_sound hE ha
        generalize hx : act.eval x = u at h1
        cases h1 with
        | str _ bs hbs =>
          have hb := run_sliceBounds (P := P) (isSlice := false) (w := w) (b3 .sliceAlen w (hah hE)) (c3 .sliceB w (hal hE))
          rw [← hbs, size_bytes] at hb
          refine ⟨.string (bs.extract lo' hi), ?_, .str _ _ ?_⟩
          · simp [execOp, ho, hx, Instr.sliceAt, Instr.slice, run_underlying he, hb]
          · rw [Lib.extract_data, List.map_take, List.map_drop, hbs]
      · cases hh
    · rename_i e he
      split at hh
      · obtain ⟨hi, hh, b1, b2, b3⟩ := sbound_true hh
        obtain ⟨lo', hh, c1, c2, c3⟩ := sbound_true hh
        obtain ⟨i, _, hh, hsz⟩ := sizeK_true hh
        have key : ∀ {off' : Nat} {id off sl cap : Nat}, aev env x = some (.slice id off sl (.kn cap)) → (ah = none → hi = sl) → (ah.isSome = true → hi ≤ cap) → (al.isSome = true → lo' ≤ hi) → (al = none → lo' = 0) →
            (∀ {ρ : Rho} {xv : Option Value} (code : BoundsCode) (w : World), OVR ρ ah xv → (runBound xv sl cap code).run P w = .ok hi w) →
            (off' = if cap = lo' then off else off + lo' * i.size) → OpOK P G (.slice t x l h none) env H nx lo (.val (.slice id off' (hi - lo') (.kn (cap - lo')))) H nx := by
          intro off' id off sl cap ha b2 b1 c1 c2 b3 hoff
          refine OpOK.pure fun ρ N w n act o ho hI hE => ?_
          have h1 := aev_sound hE ha
          generalize hx : act.eval x = u at h1
          cases h1 with
          | sliceK _ _ _ _ bl sz hr hl =>
            have hb := run_sliceBounds (P := P) (isSlice := true) (w := w) (b3 .sliceAcap w (hah hE)) (c3 .sliceB w (hal hE))
            have hhc : hi ≤ cap := by
              cases e1 : ah with
              | none => rw [b2 e1]; exact hl
              | some _ => exact b1 (by rw [e1]; rfl)
            have hlh : lo' ≤ hi := by
              cases e1 : al with
              | none => rw [c2 e1]; exact Nat.zero_le _
              | some _ => exact c1 (by rw [e1]; rfl)
            refine ⟨.slice (some ⟨bl, off', none⟩) (hi - lo') (cap - lo'), ?_, .sliceK _ _ _ _ _ _ hr (by omega)⟩
            simp only [execOp, ho, hx, Instr.sliceAt, Instr.slice, Sem.run_bind, run_underlying he, Result.andThen_ok, Option.map_none, hb, hsz]
            by_cases hc : cap = lo'
            · simp [hc, hoff]
            · simp [hc, hoff, add_none]
        split at hh
        · rename_i hcl
          have := beq_true hcl
          rw [fN_eq, fN_eq] at hh
          exact ⟨_, _, _, hh, key ha b2 b1 c1 c2 b3 (by rw [if_pos this])⟩
        · rename_i hcl
          have := beq_false hcl
          rw [fN_eq, fN_eq, fN_eq] at hh
          exact ⟨_, _, _, hh, key ha b2 b1 c1 c2 b3 (by rw [if_neg this])⟩
      · rename_i id off sl u _ _
        split at hh
        · obtain ⟨hi, hh1, b1, b2, b3⟩ := sbound_more (P := P) hh
          obtain ⟨i, _, hh2, hsz⟩ := sizeK_true hh1
          refine ⟨_, _, _, hh2, OpOK.pure fun ρ N w n act o ho hI hE => ?_⟩
          have h1 := aev_sound hE ha
          generalize hx : act.eval x = uu at h1
          cases h1 with
          | sliceU _ _ _ _ cap bl sz hr hl hs =>
            have hhl : hi ≤ sl := by
              cases e1 : ah with
              | none => rw [b2 e1]; exact Nat.le_refl _
              | some _ => exact b1 (by rw [e1]; rfl)
            have c3 : ∀ {ρ : Rho} {xv : Option Value} (code : BoundsCode) (w : World), OVR ρ none xv → (runBound xv 0 hi code).run P w = .ok 0 w := fun {ρ xv} code w hx => by
              cases xv with
              | none => rfl
              | some v => exact hx.elim
            have hb := run_sliceBounds (P := P) (isSlice := true) (w := w) (b3 .sliceAcap w cap hl (hah hE)) (c3 .sliceB w (hal hE))
            refine ⟨.slice (some ⟨bl, off, none⟩) hi cap, ?_, .sliceU _ _ _ _ _ _ _ hr (by omega) hs⟩
            simp only [execOp, ho, hx, Instr.sliceAt, Instr.slice, Sem.run_bind, run_underlying he, Result.andThen_ok, Option.map_none, hb, hsz]
            by_cases hc : cap = 0
            · simp [hc]
            · simp [hc, add_none]
        · rename_i lv
          obtain ⟨hi, hh, b1, b2, b3⟩ := sbound_more (P := P) hh
          obtain ⟨lo', hh, c1, c2, c3⟩ := sbound_true (P := P) hh
          obtain ⟨hlt, hh⟩ := guardB_true hh
          obtain ⟨i, _, hh, hsz⟩ := sizeK_true hh
          obtain ⟨hsu, hh⟩ := guardB_true hh
          rw [fN_eq, fN_eq] at hh
          have hlt := blt_true hlt
          have hsu := beq_true hsu
          refine ⟨_, _, _, hh, OpOK.pure fun ρ N w n act o ho hI hE => ?_⟩
          have h1 := aev_sound hE ha
          generalize hx : act.eval x = uu at h1
          cases h1 with
          | sliceU _ _ _ _ cap bl sz hr hl hs =>
            have hhl : hi ≤ sl := by
              cases e1 : ah with
              | none => rw [b2 e1]; exact Nat.le_refl _
              | some _ => exact b1 (by rw [e1]; rfl)
            have hlh : lo' ≤ hi := c1 rfl
            have hb := run_sliceBounds (P := P) (isSlice := true) (w := w) (b3 .sliceAcap w cap hl (hah hE)) (c3 .sliceB w (hal hE))
            have hsz2 : off + lo' * i.size + (cap - lo') * u = sz := by
              rw [← hs, hsu, Nat.add_assoc, ← Nat.add_mul]
              congr 2; omega
            refine ⟨.slice (some ⟨bl, off + lo' * i.size, none⟩) (hi - lo') (cap - lo'), ?_, .sliceU _ _ _ _ _ _ _ hr (by omega) hsz2⟩
            simp only [execOp, ho, hx, Instr.sliceAt, Instr.slice, Sem.run_bind, run_underlying he, Result.andThen_ok, Option.map_none, hb, hsz]
            have hc : ¬ cap = lo' := by omega
            simp [hc, add_none]
      · cases hh
    · rename_i len e he
      split at hh
      · obtain ⟨hi, hh, b1, b2, b3⟩ := sbound_true hh
        obtain ⟨lo', hh, c1, c2, c3⟩ := sbound_true hh
        obtain ⟨i, _, hh, hsz⟩ := sizeK_true hh
        have key : ∀ {off' : Nat} {id off : Nat}, aev env x = some (.ptr id off) → (off' = if len = lo' then off else off + lo' * i.size) →
            OpOK P G (.slice t x l h none) env H nx lo (.val (.slice id off' (hi - lo') (.kn (len - lo')))) H nx := by
          intro off' id off ha hoff
          refine OpOK.pure fun ρ N w n act o ho hI hE => ?_
          have h1 := aev_sound hE ha
          generalize hx : act.eval x = u at h1
          cases h1 with
          | ptr _ _ bl sz hr =>
            have hb := run_sliceBounds (P := P) (isSlice := false) (w := w) (b3 .sliceAlen w (hah hE)) (c3 .sliceB w (hal hE))
            have hhc : hi ≤ len := by
              cases e1 : ah with
              | none => rw [b2 e1]; exact Nat.le_refl _
              | some _ => exact b1 (by rw [e1]; rfl)
            have hlh : lo' ≤ hi := by
              cases e1 : al with
              | none => rw [c2 e1]; exact Nat.zero_le _
              | some _ => exact c1 (by rw [e1]; rfl)
            refine ⟨.slice (some ⟨bl, off', none⟩) (hi - lo') (len - lo'), ?_, .sliceK _ _ _ _ _ _ hr (by omega)⟩
            simp only [execOp, ho, hx, Instr.sliceAt, Instr.sureAddr, Sem.run_bind, run_underlying he, Result.andThen_ok, Option.map_none, Sem.run_pure, hb, hsz]
            by_cases hc : len = lo'
            · simp [hc, hoff]
            · simp [hc, hoff, add_none]
        split at hh
        · rename_i hcl
          have := beq_true hcl
          rw [fN_eq, fN_eq] at hh
          exact ⟨_, _, _, hh, key ha (by rw [if_pos this])⟩
        · rename_i hcl
          have := beq_false hcl
          rw [fN_eq, fN_eq, fN_eq] at hh
          exact ⟨_, _, _, hh, key ha (by rw [if_neg this])⟩
      · cases hh
    · cases hh
theorem oMakeSlice_snd (t : TypeId) (l c : Operand) : OpSnd P G orc (.makeSlice t l c) (oMakeSlice t l c) := fun env H nx lo k h => by
  unfold oMakeSlice at h
  split at h
  · rename_i e he
    obtain ⟨a, ha, h⟩ := ov_true h
    obtain ⟨b, hb, h⟩ := ov_true h
    split at h
    · obtain ⟨ln, hln, h⟩ := opt_true h
      split at h
      · obtain ⟨cn, hcn, h⟩ := opt_true h
        have e1 := nonneg_some hln
        have e2 := nonneg_some hcn
        obtain ⟨g1, h⟩ := guardB_true h
        have g1 := ble_true g1
        split at h
        · cases h
        · rename_i inf hinf
          obtain ⟨g2, h⟩ := guardB_true h
          obtain ⟨g3, h⟩ := guardB_true h
          have g2 := ble_true g2
          have g3 := ble_true g3
          obtain ⟨z, zv, h, hz, hzr⟩ := zeroK_true h
          obtain ⟨g4, h⟩ := guardB_true h
          obtain ⟨g5, h⟩ := guardB_true h
          have g4 := beq_true g4
          rw [len_eq] at g4
          have g5 := beq_false (nb_true g5)
          obtain ⟨tt, H', ht, hH, h⟩ := newCells_true h
          refine ⟨_, _, _, h, OpOK.fresh hH fun ρ N w n act o ho hI hE => ?_⟩
          have h1 := aev_sound hE ha
          have h2 := aev_sound hE hb
          generalize hx : act.eval l = u at h1
          generalize hy : act.eval c = v at h2
          cases h1; cases h2
          subst e1 e2
          have hvrs := rep_vrs (n := cn) (hz ρ).cells g4.symm g5
          refine ⟨.cells _ e, _, .slice (some ⟨w.heap.size, 0, none⟩) ln cn, w, Below.refl _ _, rfl, ?_, fun hle => ⟨OR.of_cells ht (hvrs.mono hle), .sliceK _ _ _ _ _ _ (Rho.put_same _ _ _ _) g1⟩⟩
          have w1 : IntKind.i64.wrap (ln : Int) = ln := wrap_i64 _ (by omega) (by omega)
          have w2 : IntKind.i64.wrap (cn : Int) = cn := wrap_i64 _ (by omega) (by omega)
          have n1 : ¬ ((cn : Int) < 0) := by omega
          have n2 : ¬ ((ln : Int) < 0) := by omega
          have n3 : ¬ ((ln : Int) > cn) := by omega
          have n4 : (inf.bytes : Int) * cn ≤ 281474976710656 := by
            have h0 : ((inf.bytes * cn : Nat) : Int) ≤ ((140737488355328 : Nat) : Int) := Int.ofNat_le.2 g2
            rw [Int.natCast_mul] at h0
            generalize (inf.bytes : Int) * (cn : Int) = q at h0
            omega
          have hty : (typeInfo e).run P w = .ok inf w := by simp [typeInfo, hinf]
          have hsz : (sizeOf e).run P w = .ok inf.size w := by simp [sizeOf, typeInfo, hinf]
          simp only [execOp, ho, hx, hy, Instr.makeSlice, Sem.run_bind, run_underlying he, Result.andThen_ok, asInt, asIntOf, Sem.run_pure, hty, w1, w2, Sem.run_ite]
          rw [if_neg (by simp [n1, n2, n3, n4])]
          simp only [run_askRoom, hsz, Result.andThen_ok, Int.toNat_natCast, Sem.run_bind, Sem.run_ite, Sem.run_pure]
          by_cases hc0 : cn * inf.size = 0
          · have hcn0 : cn = 0 := by
              rcases Nat.mul_eq_zero.1 hc0 with h0 | h0
              · exact h0
              · exact absurd h0 g5
            subst hcn0
            have e0 : Array.range 0 = #[] := rfl
            simp [newRow, e0]
          · rw [if_neg hc0]
            simp [hzr, newRow]
      · cases h
    · cases h
  · cases h
end
end Go.Ev

