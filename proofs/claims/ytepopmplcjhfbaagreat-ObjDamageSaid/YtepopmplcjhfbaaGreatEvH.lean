import Derived.Test.YtepopmplcjhfbaaGreatEvG
set_option linter.unusedSectionVars false
set_option linter.unusedVariables false
set_option linter.unusedSimpArgs false
set_option linter.unnecessarySimpa false
namespace Go.Ev
open Go.RowKit
variable [Unk]
section
variable {P : Program} {G : Nat → Nat → Option AV} {orc : Nat → Option Orc}
theorem over_true : ∀ (off : Nat) {cs new : List AV} {k : List AV → Bool}, over off cs new k = true → off + new.length ≤ cs.length ∧ k (cs.take off ++ (new ++ cs.drop (off + new.length))) = true
  | 0, cs, [], k, h => by
    cases cs with
    | nil => simp only [over] at h; exact ⟨by simp, by simpa using h⟩
    | cons c cs => simp only [over] at h; exact ⟨by simp, by simpa using h⟩
  | 0, [], a :: new, k, h => by simp [over] at h
  | 0, c :: cs, a :: new, k, h => by
    simp only [over] at h
    obtain ⟨h1, h2⟩ := over_true 0 h
    refine ⟨by simp at h1 ⊢; omega, ?_⟩
    simpa using h2
  | off + 1, [], new, k, h => by cases new <;> simp [over] at h
  | off + 1, c :: cs, new, k, h => by
    have h' : over off cs new (fun l => k (c :: l)) = true := by cases new <;> simpa [over] using h
    obtain ⟨h1, h2⟩ := over_true off h'
    refine ⟨by simp; omega, ?_⟩
    have e : off + 1 + new.length = (off + new.length) + 1 := by omega
    rw [e]
    simpa using h2
theorem foldl_over (off : Nat) : ∀ (l : List Value) (s : Nat) (ca : Array Value), off + s + l.length ≤ ca.size →
    ((l.zipIdx s).foldl (fun cs (x : Value × Nat) => cs.setIfInBounds (off + x.2) x.1) ca).size = ca.size ∧
    ∀ i, ((l.zipIdx s).foldl (fun cs (x : Value × Nat) => cs.setIfInBounds (off + x.2) x.1) ca)[i]? = if off + s ≤ i ∧ i < off + s + l.length then l[i - (off + s)]? else ca[i]?
  | [], s, ca, _ => ⟨rfl, fun i => by rw [if_neg (by simp)]; rfl⟩
  | v :: l, s, ca, h => by
    simp only [List.length_cons] at h
    simp only [List.zipIdx_cons, List.foldl_cons]
    obtain ⟨h1, h2⟩ := foldl_over off l (s + 1) (ca.setIfInBounds (off + s) v) (by simp; omega)
    refine ⟨by simpa using h1, fun i => ?_⟩
    rw [h2]
    by_cases e0 : i = off + s
    · subst e0
      rw [if_neg (by omega), if_pos (by simp)]
      have : off + s < ca.size := by omega
      simp [this]
    · by_cases e1 : off + (s + 1) ≤ i ∧ i < off + (s + 1) + l.length
      · rw [if_pos e1, if_pos (by simp; omega), show i - (off + s) = (i - (off + (s + 1))) + 1 from by omega, List.getElem?_cons_succ]
      · rw [if_neg e1, if_neg (by simp; omega), Array.getElem?_setIfInBounds_ne (by omega)]
def PRs (ρ : Rho) : List (Nat × AV) → List (Nat × Value) → Prop
  | [], [] => True
  | a :: l, v :: vs => (a.1 = v.1 ∧ VR ρ a.2 v.2) ∧ PRs ρ l vs
  | _, _ => False
theorem fillK_true {place : Nat → Option (Nat × Nat)} : ∀ {ps : List (Nat × AV)} {cs : List AV} {k : List AV → Bool}, fillK place cs ps k = true →
    ∃ cs', k cs' = true ∧ cs'.length = cs.length ∧ ∀ {ρ} {ca : Array Value} {pv}, VRs ρ cs ca.toList → PRs ρ ps pv → ∃ ca', Instr.fill place ca pv = some ca' ∧ VRs ρ cs' ca'.toList
  | [], cs, k, h => ⟨cs, h, rfl, fun {ρ ca pv} hc hp => by
    cases pv with
    | nil => exact ⟨ca, rfl, hc⟩
    | cons _ _ => exact hp.elim⟩
  | (i, a) :: ps, cs, k, h => by
    simp only [fillK] at h
    obtain ⟨⟨off, size⟩, hpl, h⟩ := opt_true h
    obtain ⟨hs, h⟩ := guardB_true h
    have hs := beq_true hs
    rw [len_eq] at hs
    obtain ⟨h1, h⟩ := over_true _ h
    obtain ⟨cs', hk, hl, hf⟩ := fillK_true h
    refine ⟨cs', hk, by rw [hl]; simp; omega, fun {ρ ca pv} hc hp => ?_⟩
    cases pv with
    | nil => exact hp.elim
    | cons p pv =>
      obtain ⟨i', v⟩ := p
      obtain ⟨⟨hi, hv⟩, hp⟩ := hp
      simp only at hi hv; subst hi
      have hcells := hv.cells
      have hlen : v.cells.size = size := by have := hcells.length; simp at this; omega
      have hcl := hc.length
      simp only [Array.length_toList] at hcl
      obtain ⟨z1, z2⟩ := foldl_over off v.cells.toList 0 ca (by simp; omega)
      have e : v.cells.zipIdx.foldl (fun cs (x : Value × Nat) => cs.setIfInBounds (off + x.2) x.1) ca = (v.cells.toList.zipIdx 0).foldl (fun cs (x : Value × Nat) => cs.setIfInBounds (off + x.2) x.1) ca := by
        rw [← Array.foldl_toList, Array.toList_zipIdx]
      obtain ⟨ca', f1, f2⟩ := hf (ρ := ρ) (ca := v.cells.zipIdx.foldl (fun cs (x : Value × Nat) => cs.setIfInBounds (off + x.2) x.1) ca) (pv := pv) (by
        rw [e]
        refine VRs.of_get (by simp; rw [z1]; omega) fun j b u eb eu => ?_
        have eu' : ((v.cells.toList.zipIdx 0).foldl (fun cs (x : Value × Nat) => cs.setIfInBounds (off + x.2) x.1) ca)[j]? = some u := by simpa using eu
        rw [z2] at eu'
        have hcl2 := hcells.length
        simp only [Array.length_toList] at hcl2
        by_cases hj : off + 0 ≤ j ∧ j < off + 0 + v.cells.toList.length
        · rw [if_pos hj] at eu'
          simp only [Array.length_toList] at hj
          rw [List.getElem?_append_right (by simp; omega), List.getElem?_append_left (by simp; omega)] at eb
          have : j - (List.take off cs).length = j - (off + 0) := by simp; omega
          rw [this] at eb
          obtain ⟨u', k1, k2⟩ := hcells.get _ _ eb
          rw [k1] at eu'; cases eu'; exact k2
        · rw [if_neg hj] at eu'
          simp only [Array.length_toList] at hj
          have eb' : cs[j]? = some b := by
            by_cases hjo : j < off
            · rw [List.getElem?_append_left (by simp; omega)] at eb
              rw [List.getElem?_take_of_lt hjo] at eb; exact eb
            · rw [List.getElem?_append_right (by simp; omega), List.getElem?_append_right (by simp; omega)] at eb
              rw [List.getElem?_drop] at eb
              rw [← eb]; congr 1; simp; omega
          obtain ⟨u', k1, k2⟩ := hc.get _ _ eb'
          have k1' : ca[j]? = some u' := by simpa using k1
          rw [k1'] at eu'; cases eu'; exact k2) hp
      refine ⟨ca', ?_, f2⟩
      have hnot : ¬ (v.cells.size ≠ size ∨ off + v.cells.size > ca.size) := by omega
      simp only [Instr.fill, hpl]
      rw [if_neg (by simpa using hnot)]
      exact f1
theorem ovps_true {env : Env} : ∀ {l : List (Nat × Operand)} {k : List (Nat × AV) → Bool}, ovps env l k = true →
    ∃ ps, k ps = true ∧ ∀ {ρ n} {act : Act}, EnvR ρ env n act.tmps → PRs ρ ps (l.map fun x => (x.1, act.eval x.2))
  | [], k, h => ⟨[], h, fun _ => trivial⟩
  | (i, x) :: l, k, h => by
    obtain ⟨a, ha, h⟩ := ov_true h
    obtain ⟨ps, h, hp⟩ := ovps_true h
    exact ⟨(i, a) :: ps, h, fun hE => ⟨⟨rfl, aev_sound hE ha⟩, hp hE⟩⟩
theorem allInfo_true : ∀ {fs : List Field}, allInfo P fs = true → ∃ g : Field → Nat × Nat, ∀ f ∈ fs, ∃ i, P.info? f.type = some i ∧ g f = (f.offset, i.size)
  | fs, h => by
    refine ⟨fun f => (f.offset, match P.info? f.type with | some i => i.size | none => 0), fun f hf => ?_⟩
    have : ∃ i, P.info? f.type = some i := by
      induction fs with
      | nil => simp at hf
      | cons a fs ih =>
        simp only [allInfo] at h
        split at h
        · rename_i i hi
          rcases List.mem_cons.1 hf with rfl | hf
          · exact ⟨i, hi⟩
          · exact ih h hf
        · cases h
    obtain ⟨i, hi⟩ := this
    exact ⟨i, hi, by simp [hi]⟩
theorem run_mapM_list {α β : Type} (f : α → Sem β) (g : α → β) (w : World) : ∀ (l : List α), (∀ x ∈ l, (f x).run P w = .ok (g x) w) → (l.mapM f).run P w = .ok (l.map g) w
  | [], _ => by simp
  | x :: l, h => by
    rw [List.mapM_cons]
    simp [h x (by simp), run_mapM_list f g w l (fun y hy => h y (by simp [hy]))]
theorem run_mapM {α β : Type} (f : α → Sem β) (g : α → β) (w : World) (a : Array α) (h : ∀ x ∈ a.toList, (f x).run P w = .ok (g x) w) : (a.mapM f).run P w = .ok (a.map g) w := by
  have e : a.mapM f = Functor.map List.toArray (a.toList.mapM f) := by
    conv => lhs; rw [← Array.toArray_toList (xs := a)]
    exact List.mapM_toArray
  rw [e, Sem.run_map, run_mapM_list f g w _ h, Result.andThen_ok, ← Array.toList_map, Array.toArray_toList]
theorem fieldAt_eq {fs : Array Field} {g : Field → Nat × Nat} (hg : ∀ f ∈ fs.toList, ∃ i, P.info? f.type = some i ∧ g f = (f.offset, i.size)) : fieldAt P fs = fun i => (fs.map g)[i]? := by
  funext i
  unfold fieldAt
  rw [nth_eq]
  simp only [Array.getElem?_toList, Array.getElem?_map]
  cases h : fs[i]? with
  | none => rfl
  | some f =>
    obtain ⟨inf, h1, h2⟩ := hg f (by
      have : fs.toList[i]? = some f := by simpa using h
      exact List.mem_of_getElem? this)
    simp [h1, h2]
theorem buildK_true {env : Env} {t : TypeId} {parts : List (Nat × Operand)} {k : AV → Bool} (h : buildK P env t parts k = true) :
    ∃ a, k a = true ∧ ∀ {ρ n w} {act : Act}, EnvR ρ env n act.tmps → ∃ u, (Instr.build t (parts.map fun x => (x.1, act.eval x.2)).toArray).run P w = .ok u w ∧ VR ρ a u := by
  obtain ⟨z, zv, h, hz, hzr⟩ := zeroK_true h
  obtain ⟨ps, h, hps⟩ := ovps_true h
  split at h
  · rename_i fs e
    obtain ⟨hall, h⟩ := guardB_true h
    obtain ⟨g, hg⟩ := allInfo_true hall
    obtain ⟨cs', h, _, hf⟩ := fillK_true h
    refine ⟨_, h, fun {ρ n w act} hE => ?_⟩
    obtain ⟨ca', f1, f2⟩ := hf (hz ρ).cells (hps hE)
    rw [fieldAt_eq hg] at f1
    refine ⟨.agg ca', ?_, .agg _ _ f2⟩
    have hm := run_mapM (P := P) (fun f : Field => (do pure (f.offset, ← sizeOf f.type) : Sem (Nat × Nat))) g w fs (fun f hf => by
      obtain ⟨i, h1, h2⟩ := hg f hf
      simp [sizeOf, typeInfo, h1, h2])
    simp only [Instr.build, Sem.run_bind, hzr, Result.andThen_ok, run_underlying e]
    rw [hm]
    simp only [Result.andThen_ok]
    rw [f1]; rfl
  · rename_i len el e
    obtain ⟨i, _, h, hsz⟩ := sizeK_true h
    obtain ⟨cs', h, _, hf⟩ := fillK_true h
    refine ⟨_, h, fun {ρ n w act} hE => ?_⟩
    obtain ⟨ca', f1, f2⟩ := hf (hz ρ).cells (hps hE)
    refine ⟨.agg ca', ?_, .agg _ _ f2⟩
    simp only [Instr.build, Sem.run_bind, hzr, Result.andThen_ok, run_underlying e, hsz]
    rw [f1]; rfl
  · cases h
theorem oBuild_snd (t : TypeId) (parts : Array (Nat × Operand)) : OpSnd P G orc (.build t parts) (oBuild t parts) := fun env H nx lo k h => by
  obtain ⟨a, h, ha⟩ := buildK_true h
  refine ⟨_, _, _, h, OpOK.pure fun ρ N w n act o ho hI hE => ?_⟩
  obtain ⟨u, e1, e2⟩ := ha (w := w) hE
  refine ⟨u, ?_, e2⟩
  have e : (parts.map fun x => (x.1, act.eval x.2)) = (parts.toList.map fun x => (x.1, act.eval x.2)).toArray := by rw [← Array.toList_map, Array.toArray_toList]
  simp only [execOp, ho]
  rw [show (Array.map (fun x => match x with | (i, x) => (i, act.eval x)) parts) = parts.map fun x => (x.1, act.eval x.2) from rfl, e, Sem.run_bind, e1]
  rfl
theorem rep_length (l : List AV) : ∀ n, (rep l n).length = n * l.length
  | 0 => by simp [rep]
  | n + 1 => by simp [rep, rep_length l n, Nat.succ_mul]; omega
theorem rep_get (l : List AV) : ∀ (n i : Nat), i < n * l.length → (rep l n)[i]? = l[i % l.length]?
  | 0, i, h => by omega
  | n + 1, i, h => by
    simp only [rep]
    by_cases hi : i < l.length
    · rw [List.getElem?_append_left hi, Nat.mod_eq_of_lt hi]
    · rw [List.getElem?_append_right (by omega), rep_get l n (i - l.length) (by rw [Nat.succ_mul] at h; omega)]
      rw [← Nat.mod_eq_sub_mod (by omega)]
theorem rep_vrs {ρ : Rho} {l : List AV} {zc : Array Value} {n s : Nat} (h : VRs ρ l zc.toList) (hs : l.length = s) (hs0 : s ≠ 0) : VRs ρ (rep l n) ((Array.range (n * s)).map (fun x => zc[x % zc.size]!)).toList := by
  have hz : zc.size = s := by have := h.length; simp at this; omega
  refine VRs.of_get (by rw [rep_length]; simp [hs]) fun i a v ea ev => ?_
  have hi : i < n * s := by
    have := (List.getElem?_eq_some_iff.1 ea).1
    rw [rep_length, hs] at this; exact this
  rw [rep_get _ _ _ (by rw [hs]; exact hi), hs] at ea
  obtain ⟨u, e1, e2⟩ := h.get _ _ ea
  have e1' : zc[i % s]? = some u := by simpa using e1
  have : v = u := by
    simp [List.getElem?_range hi, hz] at ev
    have hlt : i % s < zc.size := by rw [hz]; exact Nat.mod_lt _ (by omega)
    rw [Array.getElem?_eq_getElem hlt] at e1'
    simp at e1'
    rw [← ev, ← e1']
    simp [hlt]
  subst this; exact e2
end
end Go.Ev

