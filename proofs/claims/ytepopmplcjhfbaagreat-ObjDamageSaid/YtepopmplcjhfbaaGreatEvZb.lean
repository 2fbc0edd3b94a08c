import Derived.Test.YtepopmplcjhfbaaGreatEvDs
set_option linter.unusedSectionVars false
set_option linter.unusedVariables false
set_option linter.unusedSimpArgs false
set_option linter.unnecessarySimpa false
namespace Go.Ev
open Go.RowKit
variable [Unk]
section
variable {P : Program} {G : Nat → Nat → Option AV} {orc : Nat → Option Orc} {ec : Nat → Nat → List AV → Heap → Nat → (AEnd → Heap → Nat → Bool) → Bool}
theorem planL_length {ops : Array Oper} : ∀ (l : List Oper) (bl : List Nat) (i : Nat) (pl : List (Oper × Bool × Bool)), planL ops i l bl = some pl → pl.length = l.length
  | [], bl, i, pl, h => by unfold planL at h; cases h; rfl
  | o :: l, [], i, pl, h => by unfold planL at h; cases h
  | o :: l, b :: bl, i, pl, h => by
    unfold planL at h
    split at h
    · cases h
    · split at h
      · cases h
      · split at h
        · split at h
          · cases h; rename_i r hr; simp [planL_length l bl (i + 1) r hr]
          · cases h
        · split at h
          · split at h
            · cases h; rename_i r hr; simp [planL_length l bl (i + 1) r hr]
            · cases h
          · cases h
      · split at h
        · split at h
          · cases h; rename_i r hr; simp [planL_length l bl (i + 1) r hr]
          · cases h
        · cases h
theorem cDraw_snd (hO : OrcSound P G orc) (hNG : NoNG P) (hmix : P.follows .mixedOrders = true) (hec : EcSnd P G ec) (lo : Nat) : DrawSnd P G orc ec lo := by
  intro ops fn env n td ds kind round cs H nx k h
  obtain ⟨hB, hBl⟩ := befL_good (ops := ops) ops.toList [] (fun j => by simp) (fun j b hj => by simp at hj)
  have hlen : ∀ (j : Nat) oj, ops[j]? = some oj → ∃ b, (befL ops.toList [])[j]? = some b := fun j oj hj => by
    have := getElem?_lt hj
    exact ⟨(befL ops.toList [])[j]'(by rw [hBl]; simpa using this), List.getElem?_eq_getElem _⟩
  have hcl : Closed ops (Array.replicate ops.size false) := fun m hm => by
    simp [Array.getElem?_replicate] at hm
    split at hm <;> simp at hm
  have hD : ∃ (kp : Nat → Bool) (out : DOut), out.on (fun env H nx => k ⟨fn, env, n, td, ds, .run, kind, round⟩ cs H nx) (fun chain env H nx => k ⟨fn, env, n, td, ds, .panicking chain, kind, round⟩ cs H nx) = true ∧ nx ≤ out.nx ∧ (lo ≤ nx → HeapLo lo H out.heap) ∧
      ∀ ρ N w a, Inv G ρ H nx lo N w → EnvR ρ env n a.tmps → anyC P ops kp (DK G lo n ρ N w a.defers out) (DP G lo n ρ N w a.defers out) ops.size (Array.replicate ops.size false) a w := by
    unfold cDraw at h
    split at h
    · rename_i pl hpl
      have hpll : pl.length = ops.toList.length := planL_length _ _ _ _ hpl
      have hok := planL_ok (kp := fun j => ((pl[j]?).map (fun x => x.2.1)).getD false) hB ops.toList (befL ops.toList []) 0 pl (fun j => by simp) (fun j => by simp) (by rw [hBl]; simp) hpl (fun j => by
        rw [Nat.zero_add]
        split
        · rename_i hj
          rw [← hpll] at hj
          rw [List.getElem?_eq_getElem hj]; rfl
        · rename_i hj
          rw [List.getElem?_eq_none (by rw [hpll]; omega)]; rfl)
      obtain ⟨out, k1, k2, k3, k4⟩ := drawK_true hO hNG hec hB hlen pl 0 env H nx hok h
      have hup : Upto ops 0 (Array.replicate ops.size false) := ⟨by simp, fun j hj => by simp [hj]⟩
      exact ⟨_, out, k1, k2, k3, fun ρ N w a hI hE => k4 ρ N w a _ hup hcl hI hE⟩
    · obtain ⟨env', H', nx', k1, k2, k3, k4⟩ := drawP_true hO hNG hB hlen (Kp := fun _ _ _ => False) (fun _ _ _ h => h) _ _ _ _ _ h
      have hR : Rem ops (List.range ops.size) (Array.replicate ops.size false) := ⟨by simp, fun j hj => List.mem_range.1 hj, List.nodup_range, fun j hj d => by simp [hj]⟩
      refine ⟨keepAt ops, .norm env' H' nx', k1, k2, k3, fun ρ N w a hI hE => ?_⟩
      have hDP : DP G lo n ρ N w a.defers (.norm env' H' nx') = fun _ _ _ => False := by funext c a' w'; rfl
      have := k4 ρ N w a _ hR hcl hI hE
      rw [List.length_range] at this
      rw [hDP]
      exact this
  obtain ⟨kp, out, k1, k2, k3, k4⟩ := hD
  -- the machine's own steps
  have go : ∀ ρ N w (b : Frame) a id tdc cs', Inv G ρ H nx lo N w → EnvR ρ env n a.tmps → ∃ w1, Inv G ρ H nx lo N w1 ∧ Below N w w1 ∧
      ((∃ a' w', DK G lo n ρ N w1 a.defers out a' w' ∧ Steps P (lone (b.atR a (.code (.region id ops true) :: tdc)) cs' w) (lone (b.atR a' tdc) cs' w')) ∨
       (∃ chain a' w' todo, DP G lo n ρ N w1 a.defers out chain a' w' ∧ Calm todo ∧ Steps P (lone (b.atR a (.code (.region id ops true) :: tdc)) cs' w) (lone { b.atR a' todo with mode := .panicking chain } cs' w'))) := by
    intro ρ N w b a id tdc cs' hI hE
    have hI1 : Inv G ρ H nx lo N w.drew := hI.more (Below.refl _ _).drew
    refine ⟨w.drew, hI1, (Below.refl _ _).drew, ?_⟩
    have hany := k4 ρ N w.drew a hI1 hE
    have hst := stepR_region_draw (P := P) (b := b) (a := a) (k := tdc) (cs := cs') (w := w) (ops := ops) (id := id)
    have hs : Region.schedule (P.follows .mixedOrders) ops (w.tape w.drawn (.order b.fn id)) = Region.linearise.go .any ops ops.size (w.tape w.drawn (.order b.fn id)) (Array.replicate ops.size false) [] := by
      simp only [Region.schedule, hmix, Bool.true_or, if_true]; rfl
    rw [hs] at hst
    have hall := anyC_sound _ (w.tape w.drawn (.order b.fn id)) _ _ _ hany
    rcases opsC_steps (b := b) (k := tdc) (cs := cs') _ _ _ hall with ⟨a', w', j1, j2⟩ | ⟨chain, a', w', todo, j1, j2, j3⟩
    · exact .inl ⟨a', w', j1, .head hst (Steps.trans j2 (.one stepR_region_end))⟩
    · exact .inr ⟨chain, a', w', todo, j1, j2, .head hst j3⟩
  cases out with
  | norm env' H' nx' =>
    refine Out.now k1 k2 k3 fun ρ N w f fs rest hI hS => ?_
    obtain ⟨b, a, it, tdc, rfl, ⟨id, rfl⟩, h2, h3⟩ := hS
    obtain ⟨w1, i1, i2, hh⟩ := go ρ N w b a id tdc (fs ++ rest) hI h2.env
    rcases hh with ⟨a', w', ⟨ρ', q1, q2, q3, q4, q5⟩, j2⟩ | ⟨chain, a', w', todo, j1, _⟩
    · exact ⟨ρ', w', b.atR a' tdc, fs, q1, q2, i2.trans q3, (h2.mono q1).put q4 (by rw [q5]; exact h2.defers.mono q1), h3.mono q1, botF_same _ rfl, j2⟩
    · exact j1.elim
  | pan c env' H' nx' =>
    refine Out.now k1 k2 k3 fun ρ N w f fs rest hI hS => ?_
    obtain ⟨b, a, it, tdc, rfl, ⟨id, rfl⟩, h2, h3⟩ := hS
    obtain ⟨w1, i1, i2, hh⟩ := go ρ N w b a id tdc (fs ++ rest) hI h2.env
    rcases hh with ⟨a', w', j1, _⟩ | ⟨chain, a', w', todo, ⟨ρ', q1, q2, q3, q4, q5, q6⟩, j2, j3⟩
    · exact j1.elim
    · exact ⟨ρ', w', { b.atR a' todo with mode := .panicking chain }, fs, q1, q2, i2.trans q3, ⟨h2.fn, q4, (fun hm => by cases hm), (by show DRs ρ' ds a'.defers; rw [q5]; exact h2.defers.mono q1), q6, h2.kind, h2.round.mono q1, fun _ => j2⟩, h3.mono q1, botF_same _ rfl, j3⟩
theorem run_sound (hO : OrcSound P G orc) (hNG : NoNG P) (hmix : P.follows .mixedOrders = true) (fuel : Nat) : RunSnd P G orc fuel :=
  run_snd hO hNG (fun _ hec lo => cDraw_snd hO hNG hmix hec lo) fuel
def Globals (G : Nat → Nat → Option AV) (w : World) : Prop := ∀ g off a, G g off = some a → (gp g off).block < w.heap.size ∧ ∃ v, w.cell? (gp g off) = some v ∧ VR (fun _ => none) a v
theorem Inv.init {w : World} (h : Globals G w) : Inv G (fun _ => none) .lf 0 0 w.heap.size w := {
  dom := fun i p e => by cases e
  fresh := fun i _ => by cases i <;> rfl
  obj := fun i o e => by cases i <;> cases e
  inj := fun i j o o' b sz sz' e => by cases i <;> cases e
  glob := h
  size := Nat.le_refl _ }
noncomputable def evalB (P : Program) (G : Nat → Nat → Option AV) (orc : Nat → Option Orc) (fuel f : Nat) (fin : AEnd → Bool) : Bool :=
  enterK P f [] .normal fun fr => run P G orc fuel 0 fr [] .lf 0 fun e _ _ => fin e
theorem evalB_true (hO : OrcSound P G orc) (hNG : NoNG P) (hmix : P.follows .mixedOrders = true) {fuel f : Nat} {fin : AEnd → Bool} (h : evalB P G orc fuel f fin = true) {w : World} (hG : Globals G w) :
    ∃ e, fin e = true ∧ Calls P f #[] w fun e' w' => Below w.heap.size w w' ∧ ∃ ρ', EndR ρ' e e' := by
  obtain ⟨e, H', nx', h1, h2, h3, _, h4⟩ := ec_snd (run_sound hO hNG hmix fuel) 0 f [] .lf 0 _ h
  refine ⟨e, h1, Calls.mono (h4 _ _ w [] (Inv.init hG) .nil) fun e' w' he => ?_⟩
  obtain ⟨ρ', k1, k2, k3, k4⟩ := he
  exact ⟨k3, ρ', k4⟩
noncomputable def evalA (P : Program) (G : Nat → Nat → Option AV) (orc : Nat → Option Orc) (fuel f : Nat) (args : List AV) (fin : AEnd → Bool) : Bool :=
  enterK P f args .normal fun fr => run P G orc fuel 0 fr [] .lf 0 fun e _ _ => fin e
noncomputable def uptoB (p : Nat → Bool) (n : Nat) : Bool := Nat.rec (motive := fun _ => Bool) true (fun i ih => Bool.rec (motive := fun _ => Bool) false ih (p i)) n
end
end Go.Ev

