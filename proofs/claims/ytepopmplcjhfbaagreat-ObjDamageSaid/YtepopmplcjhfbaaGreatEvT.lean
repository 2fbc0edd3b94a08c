import Derived.Test.YtepopmplcjhfbaaGreatEvS
set_option linter.unusedSectionVars false
set_option linter.unusedVariables false
set_option linter.unusedSimpArgs false
set_option linter.unnecessarySimpa false
namespace Go.Ev
open Go.RowKit
variable [Unk]
section
variable {P : Program} {G : Nat → Nat → Option AV} {orc : Nat → Option Orc}
theorem Act.put_defers (a : Act) (d : Option Tmp) (v : Value) : (a.put d v).defers = a.defers := by cases d <;> rfl
theorem op_goes {ρ ρ' : Rho} {H' : Heap} {nx' lo N : Nat} {w w' : World} {out : AOut} {av : AV} {b : Frame} {a : Act} {k : List Item} {cs : List Frame} {ops : Array Oper} {o : Oper} {i : Nat} {is : List Nat}
    (hI : Inv G ρ' H' nx' lo N w') (hb : Below N w w') (hout : OutR P ρ ρ' w w' out ((execOp a.eval o).run P w)) (hv : outVal out = some av) (ho : ops[i]? = some o)
    (hw : Region.wanted o (yielded ops a.tmps) = true) (hd : o.semAt b.roundOf a.eval = execOp a.eval o) :
    ∃ w'' u, Inv G ρ' H' nx' lo N w'' ∧ Below N w w'' ∧ VR ρ' av u ∧ Steps P (lone (b.atR a (.inRegion ops (i :: is) :: k)) cs w) (lone (b.atR (a.put o.dst u) (.inRegion ops is :: k)) cs w'') := by
  cases out with
  | val v =>
    cases hv
    obtain ⟨u, h1, h2⟩ := hout
    exact ⟨w', u, hI, hb, h2, .one (step_op_value ho hw hd h1)⟩
  | skip =>
    cases hv
    exact ⟨w', undef, hI, hb, VR.undef, .one (step_op_skip' ho hw hd hout)⟩
  | called f as v =>
    cases hv
    obtain ⟨rfl, rfl, h⟩ := hout
    rcases h with ⟨u, h1, h2⟩ | ⟨vs, h1, h2⟩
    · exact ⟨w', u, hI, hb, h2, .one (step_op_value ho hw hd h1)⟩
    · obtain ⟨e, w'', fr, ⟨u, rfl, hv, hbe⟩, hc, hf, hl⟩ := h2 (b.atR a (.inRegion ops (i :: is) :: k) :: cs)
      refine ⟨w'', u, hI.more hbe, hb.trans (hbe.mono hI.size), hv, .head (step_op_enter ho hw hd h1) (Steps.trans hc (.one ?_))⟩
      rw [step_leave_returned hl, Frame.finish_atR, ho]; rfl
  | enter f as => cases hv
  | round f as => cases hv
  | defer f => cases hv
  | recover => cases hv
  | panic f => cases hv
theorem opsK_true (hO : OrcSound P G orc) (hNG : NoNG P) {lo n : Nat} {ops : Array Oper} {kEnd : Env → Heap → Nat → Bool} {kOut : AOut → List Oper → Env → Heap → Nat → Bool} :
    ∀ (l : List Oper) {env : Env} {H : Heap} {nx : Nat}, opsK P G orc lo n ops kEnd kOut l env H nx = true → ∃ env' H' nx', nx ≤ nx' ∧ (lo ≤ nx → HeapLo lo H H') ∧
      ((kEnd env' H' nx' = true ∧ ∀ ρ N w a is b k cs, Inv G ρ H nx lo N w → EnvR ρ env n a.tmps → RestR ops l is →
        ∃ ρ' w' a', ρ.le ρ' ∧ Inv G ρ' H' nx' lo N w' ∧ Below N w w' ∧ EnvR ρ' env' n a'.tmps ∧ a'.defers = a.defers ∧ Steps P (lone (Frame.atR b a (.inRegion ops is :: k)) cs w) (lone (b.atR a' (.inRegion ops [] :: k)) cs w')) ∨
      ∃ out o rest, kOut out (o :: rest) env' H' nx' = true ∧ outVal out = none ∧ (∀ c, o.op = .defer c → ∃ d, out = .defer d) ∧ ∀ ρ N w a is b k cs, Inv G ρ H nx lo N w → EnvR ρ env n a.tmps → RestR ops l is →
        ∃ ρ' w' a' i is', ρ.le ρ' ∧ Inv G ρ' H' nx' lo N w' ∧ Below N w w' ∧ EnvR ρ' env' n a'.tmps ∧ a'.defers = a.defers ∧ ops[i]? = some o ∧ RestR ops rest is' ∧ Region.wanted o (yielded ops a'.tmps) = true ∧
          OutR P ρ' ρ' w' w' out ((execOp a'.eval o).run P w') ∧ Steps P (lone (Frame.atR b a (.inRegion ops is :: k)) cs w) (lone (b.atR a' (.inRegion ops (i :: is') :: k)) cs w'))
  | [], env, H, nx, h => ⟨env, H, nx, Nat.le_refl _, fun _ => HeapLo.refl _ _, .inl ⟨h, fun ρ N w a is b k cs hI hE hr => by
      cases is with
      | nil => exact ⟨ρ, w, a, Rho.le_refl ρ, hI, Below.refl _ _, hE, rfl, Steps.refl P _⟩
      | cons i is => exact hr.elim⟩⟩
  | o :: rest, env, H, nx, h => by
    rw [opsK_cons] at h
    obtain ⟨bw, h, hw⟩ := wantedK_true h
    cases bw with
    | false =>
      simp only at h
      obtain ⟨env1, h, he⟩ := putK_true h
      obtain ⟨env', H', nx', k1, k2, h⟩ := opsK_true hO hNG rest h
      refine ⟨env', H', nx', k1, k2, ?_⟩
      have pre : ∀ ρ N w a is (b : Frame) k cs, Inv G ρ H nx lo N w → EnvR ρ env n a.tmps → RestR ops (o :: rest) is → ∃ a1 is1, EnvR ρ env1 n a1.tmps ∧ RestR ops rest is1 ∧ a1.defers = a.defers ∧
          Steps P (lone (b.atR a (.inRegion ops is :: k)) cs w) (lone (b.atR a1 (.inRegion ops is1 :: k)) cs w) := fun ρ N w a is b k cs hI hE hr => by
        cases is with
        | nil => exact hr.elim
        | cons i is =>
          have hs := stepR_op_skip (P := P) (b := b) (a := a) (k := k) (cs := cs) (w := w) (ops := ops) (i := i) (rest := is) (by rw [hr.1]; simp [hw ρ n a o rfl hE])
          rw [hr.1] at hs
          exact ⟨a.put o.dst undef, is, he ρ a undef hE VR.undef, hr.2, Act.put_defers _ _ _, .one hs⟩
      rcases h with ⟨h, hh⟩ | ⟨out, o', rest', h, hov, hd, hh⟩
      · refine .inl ⟨h, fun ρ N w a is b k cs hI hE hr => ?_⟩
        obtain ⟨a1, is1, p1, p2, p3, p4⟩ := pre ρ N w a is b k cs hI hE hr
        obtain ⟨ρ', w', a', q1, q2, q3, q4, q5, q6⟩ := hh ρ N w a1 is1 b k cs hI p1 p2
        exact ⟨ρ', w', a', q1, q2, q3, q4, q5.trans p3, Steps.trans p4 q6⟩
      · refine .inr ⟨out, o', rest', h, hov, hd, fun ρ N w a is b k cs hI hE hr => ?_⟩
        obtain ⟨a1, is1, p1, p2, p3, p4⟩ := pre ρ N w a is b k cs hI hE hr
        obtain ⟨ρ', w', a', i, is', q1, q2, q3, q4, q5, q6, q7, q8, q9, q10⟩ := hh ρ N w a1 is1 b k cs hI p1 p2
        exact ⟨ρ', w', a', i, is', q1, q2, q3, q4, q5.trans p3, q6, q7, q8, q9, Steps.trans p4 q10⟩
    | true =>
      simp only at h
      have hout : ∃ out H1 nx1, (match outVal out with
          | some v => putK env n o.dst v fun env => opsK P G orc lo n ops kEnd kOut rest env H1 nx1
          | none => kOut out (o :: rest) env H1 nx1) = true ∧ OpOK P G o.op env H nx lo out H1 nx1 ∧ (∀ c, o.op = .defer c → ∃ d, out = .defer d) := by
        by_cases hdef : ∃ c, o.op = .defer c
        · obtain ⟨c, hc⟩ := hdef
          rw [hc] at h
          obtain ⟨d, h, hok⟩ := oDefer_out h
          exact ⟨_, _, _, h, by rw [hc]; exact hok, fun _ _ => ⟨d, rfl⟩⟩
        · obtain ⟨out, H1, nx1, h, hok⟩ := aopF_snd hO hNG o.op env H nx lo _ h
          exact ⟨out, H1, nx1, h, hok, fun c hc => (hdef ⟨c, hc⟩).elim⟩
      obtain ⟨out, H1, nx1, h, ⟨hlo, hnx, hok⟩, hdef⟩ := hout
      split at h
      · rename_i av hov
        obtain ⟨env1, h, he⟩ := putK_true h
        obtain ⟨env', H', nx', k1, k2, h⟩ := opsK_true hO hNG rest h
        refine ⟨env', H', nx', Nat.le_trans hnx k1, fun hl => (hlo hl).trans (k2 (Nat.le_trans hl hnx)), ?_⟩
        have hsem : ∀ (b : Frame) (a : Act), o.semAt b.roundOf a.eval = execOp a.eval o := fun b a => Oper.semAt_eq _ _ _ fun c hc => by
          obtain ⟨d, rfl⟩ := hdef c hc
          cases hov
        have pre : ∀ ρ N w a is (b : Frame) k cs, Inv G ρ H nx lo N w → EnvR ρ env n a.tmps → RestR ops (o :: rest) is → ∃ ρ1 w1 a1 is1, ρ.le ρ1 ∧ Inv G ρ1 H1 nx1 lo N w1 ∧ Below N w w1 ∧ EnvR ρ1 env1 n a1.tmps ∧ RestR ops rest is1 ∧ a1.defers = a.defers ∧
            Steps P (lone (b.atR a (.inRegion ops is :: k)) cs w) (lone (b.atR a1 (.inRegion ops is1 :: k)) cs w1) := fun ρ N w a is b k cs hI hE hr => by
          cases is with
          | nil => exact hr.elim
          | cons i is =>
            obtain ⟨ρ1, w1, q1, q2, q3, _, q5⟩ := hok ρ N w n a o rfl hI hE
            obtain ⟨w2, u, r1, r2, r3, r4⟩ := op_goes (b := b) (k := k) (cs := cs) (is := is) q2 q3 q5 hov hr.1 (hw ρ n a o rfl hE) (hsem b a)
            exact ⟨ρ1, w2, a.put o.dst u, is, q1, r1, r2, he ρ1 a u (hE.mono q1) r3, hr.2, Act.put_defers _ _ _, r4⟩
        rcases h with ⟨h, hh⟩ | ⟨out', o', rest', h, hov', hd, hh⟩
        · refine .inl ⟨h, fun ρ N w a is b k cs hI hE hr => ?_⟩
          obtain ⟨ρ1, w1, a1, is1, g1, g2, g3, p1, p2, p3, p4⟩ := pre ρ N w a is b k cs hI hE hr
          obtain ⟨ρ', w', a', q1, q2, q3, q4, q5, q6⟩ := hh ρ1 N w1 a1 is1 b k cs g2 p1 p2
          exact ⟨ρ', w', a', Rho.le_trans g1 q1, q2, g3.trans q3, q4, q5.trans p3, Steps.trans p4 q6⟩
        · refine .inr ⟨out', o', rest', h, hov', hd, fun ρ N w a is b k cs hI hE hr => ?_⟩
          obtain ⟨ρ1, w1, a1, is1, g1, g2, g3, p1, p2, p3, p4⟩ := pre ρ N w a is b k cs hI hE hr
          obtain ⟨ρ', w', a', i, is', q1, q2, q3, q4, q5, q6, q7, q8, q9, q10⟩ := hh ρ1 N w1 a1 is1 b k cs g2 p1 p2
          exact ⟨ρ', w', a', i, is', Rho.le_trans g1 q1, q2, g3.trans q3, q4, q5.trans p3, q6, q7, q8, q9, Steps.trans p4 q10⟩
      · rename_i hov
        refine ⟨env, H1, nx1, hnx, hlo, .inr ⟨out, o, rest, h, hov, hdef, fun ρ N w a is b k cs hI hE hr => ?_⟩⟩
        cases is with
        | nil => exact hr.elim
        | cons i is =>
          obtain ⟨ρ1, w1, q1, q2, q3, _, q5⟩ := hok ρ N w n a o rfl hI hE
          have hsame : w1 = w ∧ ρ1 = ρ := by
            cases out with
            | val v => cases hov
            | skip => cases hov
            | called f as v => cases hov
            | enter f as => obtain ⟨vs, _, e1, e2, _⟩ := q5; exact ⟨e1, e2⟩
            | round f as => obtain ⟨_, _, vs, _, _, _, e1, e2⟩ := q5; exact ⟨e1, e2⟩
            | defer d => obtain ⟨_, _, e1, e2, _⟩ := q5; exact ⟨e1, e2⟩
            | recover => obtain ⟨_, e1, e2⟩ := q5; exact ⟨e1, e2⟩
            | panic v => obtain ⟨_, _, e1, e2, _⟩ := q5; exact ⟨e1, e2⟩
          obtain ⟨rfl, rfl⟩ := hsame
          exact ⟨ρ1, w1, a, i, is, Rho.le_refl _, q2, q3, hE, rfl, hr.1, hr.2, hw ρ1 n a o rfl hE, q5, Steps.refl P _⟩
end
end Go.Ev

