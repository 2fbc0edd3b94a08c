import Derived.Test.YtepopmplcjhfbaaGreatEvR
set_option linter.unusedSectionVars false
set_option linter.unusedVariables false
set_option linter.unusedSimpArgs false
set_option linter.unnecessarySimpa false
namespace Go.Ev
open Go.RowKit
variable [Unk]
section
variable {P : Program} {G : Nat → Nat → Option AV} {orc : Nat → Option Orc}
theorem wantedK_true {env : Env} {ops : Array Oper} {g : Option (Nat × Bool)} {k : Bool → Bool} (h : wantedK env ops g k = true) :
    ∃ b, k b = true ∧ ∀ ρ n (act : Act) (o : Oper), o.guard = g → EnvR ρ env n act.tmps → Region.wanted o (yielded ops act.tmps) = b := by
  cases g with
  | none => exact ⟨true, h, fun ρ n act o hg _ => by simp [Region.wanted, hg]⟩
  | some p =>
    obtain ⟨j, want⟩ := p
    change wantedG env ops j want k = true at h
    unfold wantedG at h
    rw [nth_eq] at h
    have hget : ops.toList[j]? = ops[j]? := by simp
    rw [hget] at h
    split at h
    · rename_i hj
      exact ⟨false, h, fun ρ n act o hg _ => by simp [Region.wanted, hg, yielded, hj]⟩
    · rename_i oj hj
      split at h
      · rename_i hd
        exact ⟨false, h, fun ρ n act o hg _ => by simp [Region.wanted, hg, yielded, hj, hd]⟩
      · rename_i d hd
        split at h
        · rename_i b hb
          have key : ∀ ρ n (act : Act), EnvR ρ env n act.tmps → yielded ops act.tmps j = some b := fun ρ n act hE => by
            obtain ⟨v, e1, e2⟩ := hE.2 d _ hb
            cases e2
            simp [yielded, hj, hd, e1]
          cases b <;> cases want <;> simp only at h
          · exact ⟨true, h, fun ρ n act o hg hE => by simp [Region.wanted, hg, key ρ n act hE]⟩
          · exact ⟨false, h, fun ρ n act o hg hE => by simp [Region.wanted, hg, key ρ n act hE]⟩
          · exact ⟨false, h, fun ρ n act o hg hE => by simp [Region.wanted, hg, key ρ n act hE]⟩
          · exact ⟨true, h, fun ρ n act o hg hE => by simp [Region.wanted, hg, key ρ n act hE]⟩
        · rename_i hb
          refine ⟨false, h, fun ρ n act o hg hE => ?_⟩
          obtain ⟨v, e1, e2⟩ := hE.2 d _ hb
          cases e2 with
          | tup l cs hcs => simp [Region.wanted, hg, yielded, hj, hd, e1]
        · cases h
theorem oDefer_out {c : Call} {lo : Nat} {env : Env} {H : Heap} {nx : Nat} {k : KO} (h : oDefer c P G orc lo env H nx k = true) : ∃ d, k (.defer d) H nx = true ∧ OpOK P G (.defer c) env H nx lo (.defer d) H nx := by
  obtain ⟨callee, args, ts⟩ := c
  cases callee with
  | value f =>
    obtain ⟨fa, hfa, h⟩ := ov_true h
    obtain ⟨as, has, h⟩ := ovs_true h
    split at h
    · rename_i g first captured _
      rw [catL_eq, catL_eq] at h
      refine ⟨_, h, fun _ => HeapLo.refl _ _, Nat.le_refl _, fun ρ N w n act o ho hI hE => ?_⟩
      have h1 := aev_sound hE hfa
      generalize hx : act.eval f = u at h1
      cases h1 with
      | func _ _ _ fv cv hf hc =>
        refine ⟨ρ, w, Rho.le_refl ρ, hI, Below.refl _ _, fun _ => Below.refl _ _, { target := .fn (.func g) cv, args := fv ++ args.map act.eval }, ?_, rfl, rfl, .call _ _ _ _ ?_⟩
        · simp [execOp, ho, resolve, hx, Deferred.ofValue]
        · have := hf.append ((has.sound hE).append hc)
          simpa using this
    · cases h
  | builtin b => cases h
  | invoke r m => cases h
def outVal : AOut → Option AV
  | .val v => some v
  | .called _ _ v => some v
  | .skip => some (.tup [])
  | _ => none
theorem opsK_cons {lo n : Nat} {ops : Array Oper} {kEnd : Env → Heap → Nat → Bool} {kOut : AOut → List Oper → Env → Heap → Nat → Bool} {o : Oper} {rest : List Oper} {env : Env} {H : Heap} {nx : Nat} :
    opsK P G orc lo n ops kEnd kOut (o :: rest) env H nx = wantedK env ops o.guard (fun w => match w with
      | false => putK env n o.dst (.tup []) fun env => opsK P G orc lo n ops kEnd kOut rest env H nx
      | true => aopF o.op P G orc lo env H nx fun out H nx => match outVal out with
        | some v => putK env n o.dst v fun env => opsK P G orc lo n ops kEnd kOut rest env H nx
        | none => kOut out (o :: rest) env H nx) := by
  cases o
  refine congrArg (wantedK env ops _) (funext fun w => ?_)
  cases w
  · rfl
  · refine congrArg (aopF _ P G orc lo env H nx) (funext fun out => funext fun H => funext fun nx => ?_)
    cases out <;> rfl
section steps
variable {b : Frame} {a : Act} {k : List Item} {cs : List Frame} {w : World} {ops : Array Oper} {o : Oper} {i : Nat} {is : List Nat}
theorem step_op_value {v : Value} {w' : World} (ho : ops[i]? = some o) (hw : Region.wanted o (yielded ops a.tmps) = true) (hd : o.semAt b.roundOf a.eval = execOp a.eval o) (hr : (execOp a.eval o).run P w = .ok (.value v) w') :
    step P (lone (b.atR a (.inRegion ops (i :: is) :: k)) cs w) = .next (lone (b.atR (a.put o.dst v) (.inRegion ops is :: k)) cs w') := by
  have hg := stepGR_op (P := P) (b := b) (k := k) (cs := cs) (w := w) (rest := is) ho hw
  have hfin : ∀ v, (b.atR a (.inRegion ops (i :: is) :: k)).finish v = b.atR (a.put o.dst v) (.inRegion ops is :: k) := by
    intro v; rw [Frame.finish_atR, ho]; rfl
  rw [hd] at hg
  refine step_lone_go ?_
  rw [hg, ← hfin]; simp [stepG.apply, hr]
theorem step_op_skip' {w' : World} (ho : ops[i]? = some o) (hw : Region.wanted o (yielded ops a.tmps) = true) (hd : o.semAt b.roundOf a.eval = execOp a.eval o) (hr : (execOp a.eval o).run P w = .ok .skip w') :
    step P (lone (b.atR a (.inRegion ops (i :: is) :: k)) cs w) = .next (lone (b.atR (a.put o.dst undef) (.inRegion ops is :: k)) cs w') := by
  have hg := stepGR_op (P := P) (b := b) (k := k) (cs := cs) (w := w) (rest := is) ho hw
  have hfin : ∀ v, (b.atR a (.inRegion ops (i :: is) :: k)).finish v = b.atR (a.put o.dst v) (.inRegion ops is :: k) := by
    intro v; rw [Frame.finish_atR, ho]; rfl
  rw [hd] at hg
  refine step_lone_go ?_
  rw [hg, ← hfin]; simp [stepG.apply, hr]
theorem step_op_enter {f : Nat} {args : Array Value} {w' : World} (ho : ops[i]? = some o) (hw : Region.wanted o (yielded ops a.tmps) = true) (hd : o.semAt b.roundOf a.eval = execOp a.eval o) (hr : (execOp a.eval o).run P w = .ok (.enter f args) w') :
    step P (lone (b.atR a (.inRegion ops (i :: is) :: k)) cs w) = .next (lone (Frame.enter P f args .normal) (b.atR a (.inRegion ops (i :: is) :: k) :: cs) w') := by
  have hg := stepGR_op (P := P) (b := b) (k := k) (cs := cs) (w := w) (rest := is) ho hw
  rw [hd] at hg
  exact step_lone_go (by rw [hg]; simp [stepG.apply, hr, Frame.atR])
theorem step_op_round {l f : Nat} {tmps : Array Value} {x y : Code} {w' : World} (ho : ops[i]? = some o) (hw : Region.wanted o (yielded ops a.tmps) = true) (hd : o.semAt b.roundOf a.eval = execOp a.eval o) (hr : (execOp a.eval o).run P w = .ok (.round l f tmps x y) w') :
    step P (lone (b.atR a (.inRegion ops (i :: is) :: k)) cs w) = .next (lone (Frame.round l f tmps x y .normal) (b.atR a (.inRegion ops (i :: is) :: k) :: cs) w') := by
  have hg := stepGR_op (P := P) (b := b) (k := k) (cs := cs) (w := w) (rest := is) ho hw
  rw [hd] at hg
  exact step_lone_go (by rw [hg]; simp [stepG.apply, hr, Frame.atR])
theorem step_op_panic {v : Value} {w' : World} (ho : ops[i]? = some o) (hw : Region.wanted o (yielded ops a.tmps) = true) (hd : o.semAt b.roundOf a.eval = execOp a.eval o) (hr : (execOp a.eval o).run P w = .halt (.panic v) w') :
    step P (lone (b.atR a (.inRegion ops (i :: is) :: k)) cs w) = .next (lone { b.atR a (.inRegion ops (i :: is) :: k) with mode := .panicking [{ v, recovered := false }] } cs w') := by
  have hg := stepGR_op (P := P) (b := b) (k := k) (cs := cs) (w := w) (rest := is) ho hw
  rw [hd] at hg
  exact step_lone_go (by rw [hg, ← Frame.raise_atR]; simp [stepG.apply, hr])
theorem step_op_defer {d : Deferred} {w' : World} (ho : ops[i]? = some o) (hw : Region.wanted o (yielded ops a.tmps) = true) (hb : b.roundOf = none) (hr : (execOp a.eval o).run P w = .ok (.defer d) w') :
    step P (lone (b.atR a (.inRegion ops (i :: is) :: k)) cs w) = .next (lone (b.atR ({ a with defers := d :: a.defers }.put o.dst undef) (.inRegion ops is :: k)) cs w') := by
  have hg := stepGR_op (P := P) (b := b) (k := k) (cs := cs) (w := w) (rest := is) ho hw
  rw [hb, Oper.semAt_none] at hg
  have : ({ b.atR a (.inRegion ops (i :: is) :: k) with defers := d :: a.defers } : Frame).finish undef = b.atR ({ a with defers := d :: a.defers }.put o.dst undef) (.inRegion ops is :: k) := by
    have := Frame.finish_atR b { a with defers := d :: a.defers } ops i is k undef
    rw [ho] at this; exact this
  refine step_lone_go ?_
  rw [hg]; simp only [stepG.apply, Sem.runT_eq, hr, GStep.bare_after]
  exact congrArg (fun fr => GStep.go { frame := fr, callers := cs, status := .running, dying := none } w') this
theorem step_op_recover {w' : World} {v : Value} {cs' : List Frame} (ho : ops[i]? = some o) (hw : Region.wanted o (yielded ops a.tmps) = true) (hd : o.semAt b.roundOf a.eval = execOp a.eval o) (hb : b.roundOf = none) (hr : (execOp a.eval o).run P w = .ok .recover w')
    (ht : tryRecover (b.atR a (.inRegion ops (i :: is) :: k)) cs = some (v, cs') ∨ (tryRecover (b.atR a (.inRegion ops (i :: is) :: k)) cs = none ∧ v = .nilIface ∧ cs' = cs)) :
    step P (lone (b.atR a (.inRegion ops (i :: is) :: k)) cs w) = .next (lone (b.atR (a.put o.dst v) (.inRegion ops is :: k)) cs' w') := by
  have hg := stepGR_op (P := P) (b := b) (k := k) (cs := cs) (w := w) (rest := is) ho hw
  have hfin : ∀ v, (b.atR a (.inRegion ops (i :: is) :: k)).finish v = b.atR (a.put o.dst v) (.inRegion ops is :: k) := by
    intro v; rw [Frame.finish_atR, ho]; rfl
  rw [hd] at hg
  have hro : (b.atR a (.inRegion ops (i :: is) :: k)).roundOf = none := hb
  refine step_lone_go ?_
  rw [hg, ← hfin]
  rcases ht with ht | ⟨ht, rfl, rfl⟩
  · simp [stepG.apply, hr, hro, ht]
  · simp [stepG.apply, hr, hro, ht]
end steps
end
end Go.Ev

