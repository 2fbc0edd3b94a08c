import Derived.Test.YtepopmplcjhfbaaGreatObPg
set_option linter.unusedSectionVars false
set_option linter.unusedVariables false
set_option linter.unusedSimpArgs false
set_option linter.unnecessarySimpa false
/-
  Stage 3: what a line program means (as a function on lists of bytes); the plain laws of Pack and Unpack.
-/
namespace Go.Ev
open Go.RowKit Go.Proofs Go.Rw
/-- The number at the beginning of bytes, and how many bytes it has. -/
def leadGo : Nat → Nat → List Nat → Option (Nat × Nat)
  | _, _, [] => none
  | i, acc, c :: r => if 5 ≤ i then none else if c < 128 then (if (c = 0 ∧ 0 < i) ∨ 4294967295 < acc + c % 128 * 128 ^ i then none else some (acc + c % 128 * 128 ^ i, i + 1)) else leadGo (i + 1) (acc + c % 128 * 128 ^ i) r
def leadF (l : List Nat) : Option (Nat × Nat) := leadGo 0 0 l
def numF (l : List Nat) : Option (Nat × List Nat) := (leadF l).map fun r => (r.1, l.drop r.2)
def unzig (n : Nat) : Int := if n % 2 = 1 then -(((n + 1) / 2 : Nat) : Int) else ((n / 2 : Nat) : Int)
def chkF (v : LineT) (tab : List LineT) (r : List Nat) : Option (LineT × List LineT × List Nat) := if RngOk v then some (v, tab, r) else none
def aheadB (tab : List LineT) (v : LineT) : Bool := match tab.getLast? with
  | none => true
  | some y => decide (y.sec < v.sec ∨ (y.sec = v.sec ∧ y.off < v.off))
def canAppB (tab : List LineT) (v : LineT) : Bool := decide (tab.length < 4000) && (decide (EntOk v) && aheadB tab v)
def emitF (v : LineT) (tab : List LineT) (r : List Nat) : Option (LineT × List LineT × List Nat) := if canAppB tab v then chkF v (tab ++ [v]) r else none
/-- An instruction of a line program. -/
def stepF (v : LineT) (tab : List LineT) : List Nat → Option (LineT × List LineT × List Nat)
  | [] => none
  | op :: r =>
    if op = 1 then (numF r).bind fun q => chkF ⟨v.sec, v.off + q.1, v.file, v.line⟩ tab q.2
    else if op = 2 then (numF r).bind fun q => chkF ⟨v.sec, v.off, v.file, v.line + unzig q.1⟩ tab q.2
    else if op = 3 then (numF r).bind fun q => chkF ⟨v.sec, v.off, q.1, v.line⟩ tab q.2
    else if op = 4 then (numF r).bind fun q => if q.1 = 0 then none else chkF ⟨v.sec + q.1, 0, v.file, v.line⟩ tab q.2
    else if 64 ≤ op then emitF ⟨v.sec, v.off + ((op - 64) / 16 * 4 : Nat), v.file, v.line + (((op - 64) % 16 : Nat) - 4)⟩ tab r
    else if op = 5 then emitF v tab r
    else none
def runF : Nat → LineT → List LineT → List Nat → Option (List LineT)
  | _, _, tab, [] => some tab
  | 0, _, _, _ :: _ => none
  | k + 1, v, tab, b :: bs => (stepF v tab (b :: bs)).bind fun s => runF k s.1 s.2.1 s.2.2
/-- The table of a line program. -/
def unpackF (bs : List Nat) : Option (List LineT) := runF bs.length default [] bs
theorem leadGo_le : ∀ (l : List Nat) (i acc x s : Nat), leadGo i acc l = some (x, s) → i < s ∧ s ≤ i + l.length ∧ x ≤ 4294967295
  | [], i, acc, x, s, h => by simp [leadGo] at h
  | c :: r, i, acc, x, s, h => by
    rw [leadGo] at h
    by_cases h5 : 5 ≤ i
    · rw [if_pos h5] at h; cases h
    · rw [if_neg h5] at h
      by_cases h1 : c < 128
      · rw [if_pos h1] at h
        by_cases h2 : (c = 0 ∧ 0 < i) ∨ 4294967295 < acc + c % 128 * 128 ^ i
        · rw [if_pos h2] at h; cases h
        · rw [if_neg h2] at h
          cases h
          refine ⟨by omega, by simp, ?_⟩
          have := fun h => h2 (.inr h)
          omega
      · rw [if_neg h1] at h
        have := leadGo_le r (i + 1) _ x s h
        simp only [List.length_cons]
        omega
theorem numF_len {l r : List Nat} {n : Nat} (h : numF l = some (n, r)) : r.length < l.length ∧ n ≤ 4294967295 ∧ ∃ s, leadF l = some (n, s) ∧ r = l.drop s ∧ s + r.length = l.length := by
  unfold numF at h
  cases hl : leadF l with
  | none => rw [hl] at h; cases h
  | some q =>
    obtain ⟨x, s⟩ := q
    rw [hl] at h
    cases h
    have := leadGo_le l 0 0 x s hl
    refine ⟨by rw [List.length_drop]; omega, this.2.2, s, rfl, rfl, by rw [List.length_drop]; omega⟩
theorem chkF_some {v v' : LineT} {tab tab' : List LineT} {r r' : List Nat} (h : chkF v tab r = some (v', tab', r')) : RngOk v ∧ v' = v ∧ tab' = tab ∧ r' = r := by
  unfold chkF at h
  by_cases hv : RngOk v
  · rw [if_pos hv] at h; cases h; exact ⟨hv, rfl, rfl, rfl⟩
  · rw [if_neg hv] at h; cases h
theorem emitF_some {v v' : LineT} {tab tab' : List LineT} {r r' : List Nat} (h : emitF v tab r = some (v', tab', r')) : canAppB tab v = true ∧ RngOk v ∧ v' = v ∧ tab' = tab ++ [v] ∧ r' = r := by
  unfold emitF at h
  by_cases hc : canAppB tab v = true
  · rw [if_pos hc] at h
    obtain ⟨h1, h2, h3, h4⟩ := chkF_some h
    exact ⟨hc, h1, h2, h3, h4⟩
  · rw [if_neg hc] at h; cases h
/-- How many bytes a number has. -/
abbrev nbs (n : Nat) : Nat := (numL n).length
theorem nb_mono : ∀ (a b : Nat), a ≤ b → nbs a ≤ nbs b := by
  intro a
  induction a using Nat.strongRecOn with
  | ind a ih =>
    intro b hab
    by_cases ha : a < 128
    · have h1 : nbs a = 1 := by unfold nbs; rw [numL_lt ha]; rfl
      have := numL_pos b
      unfold nbs at *
      omega
    · have hb : ¬ b < 128 := by omega
      have := ih (a / 128) (by omega) (b / 128) (by omega)
      unfold nbs at *
      rw [numL_ge ha, numL_ge hb, List.length_cons, List.length_cons]
      omega
theorem nb_up {c b : Nat} (h : c ≤ 128 * b + 127) : nbs c ≤ nbs b + 1 := by
  by_cases hc : c < 128
  · have h1 : nbs c = 1 := by unfold nbs; rw [numL_lt hc]; rfl
    omega
  · have h1 : nbs c = nbs (c / 128) + 1 := by unfold nbs; rw [numL_ge hc, List.length_cons]
    have := nb_mono (c / 128) b (by omega)
    omega
theorem nb_pos (n : Nat) : 1 ≤ nbs n := numL_pos n
/-- A sum has no more bytes than both numbers together. -/
theorem nb_sum {a b c : Nat} (h : c ≤ a + b + 1) : nbs c ≤ nbs a + nbs b := by
  have h1 := nb_pos a
  have h2 := nb_pos b
  rcases Nat.le_total a b with h3 | h3
  · have := nb_up (c := c) (b := b) (by omega)
    omega
  · have := nb_up (c := c) (b := a) (by omega)
    omega
theorem leadGo_nb : ∀ (l : List Nat) (i acc x s : Nat), leadGo i acc l = some (x, s) → ∃ n, x = acc + n * 128 ^ i ∧ nbs n + i ≤ s
  | [], i, acc, x, s, h => by simp [leadGo] at h
  | c :: r, i, acc, x, s, h => by
    rw [leadGo] at h
    by_cases h5 : 5 ≤ i
    · rw [if_pos h5] at h; cases h
    · rw [if_neg h5] at h
      by_cases h1 : c < 128
      · rw [if_pos h1] at h
        by_cases h2 : (c = 0 ∧ 0 < i) ∨ 4294967295 < acc + c % 128 * 128 ^ i
        · rw [if_pos h2] at h; cases h
        · rw [if_neg h2] at h
          cases h
          refine ⟨c % 128, rfl, ?_⟩
          have : nbs (c % 128) = 1 := by unfold nbs; rw [numL_lt (by omega)]; rfl
          omega
      · rw [if_neg h1] at h
        obtain ⟨n, hx, hn⟩ := leadGo_nb r (i + 1) _ x s h
        refine ⟨c % 128 + 128 * n, ?_, ?_⟩
        · rw [hx, Nat.pow_succ, Nat.add_mul, Nat.add_assoc]
          congr 2
          rw [Nat.mul_comm 128 n, Nat.mul_assoc, Nat.mul_comm 128]
        · have := nb_up (c := c % 128 + 128 * n) (b := n) (by omega)
          omega
theorem numF_nb {l r : List Nat} {n : Nat} (h : numF l = some (n, r)) : nbs n + r.length ≤ l.length := by
  obtain ⟨_, _, s, hl, _, hs⟩ := numF_len h
  obtain ⟨m, hm, hn⟩ := leadGo_nb l 0 0 n s hl
  rw [Nat.pow_zero, Nat.mul_one, Nat.zero_add] at hm
  subst hm
  omega
def offNeed (d : Int) : Nat := if d = 0 then 0 else 1 + nbs d.toNat
def lineNeed (e : Int) : Nat := if e = 0 then 0 else 1 + nbs (zig e)
/-- What the variables have cost since the last entry, at the least. -/
def need (now v : LineT) : Nat := (if v.sec = now.sec then 0 else 2) + (if v.file = now.file then 0 else 2) + offNeed (offD now v) + lineNeed (v.line - now.line)
theorem zig_unzig (n : Nat) : zig (unzig n) = n := by
  unfold zig unzig
  by_cases h : n % 2 = 1
  · rw [if_pos h, if_pos (by omega)]
    omega
  · rw [if_neg h, if_neg (by omega)]
    omega
theorem zig_add (a b : Int) : zig (a + b) ≤ zig a + zig b + 1 := by
  unfold zig
  repeat' split
  all_goals omega
theorem offNeed_add {d : Int} {n : Nat} (h : 0 ≤ d) : offNeed (d + n) ≤ offNeed d + (1 + nbs n) := by
  unfold offNeed
  by_cases h1 : d + (n : Int) = 0
  · rw [if_pos h1]; omega
  · rw [if_neg h1]
    by_cases h2 : d = 0
    · rw [if_pos h2]
      have : (d + (n : Int)).toNat = n := by omega
      rw [this]; omega
    · rw [if_neg h2]
      have : (d + (n : Int)).toNat = d.toNat + n := by omega
      rw [this]
      have := nb_sum (a := d.toNat) (b := n) (c := d.toNat + n) (by omega)
      omega
theorem lineNeed_add (e z : Int) : lineNeed (e + z) ≤ lineNeed e + (1 + nbs (zig z)) := by
  unfold lineNeed
  by_cases h1 : e + z = 0
  · rw [if_pos h1]; omega
  · rw [if_neg h1]
    by_cases h2 : e = 0
    · rw [if_pos h2, h2, Int.zero_add]; omega
    · rw [if_neg h2]
      have := nb_sum (a := zig e) (b := zig z) (c := zig (e + z)) (zig_add e z)
      omega
theorem need_self (x : LineT) : need x x = 0 := by
  unfold need offD offNeed lineNeed
  simp
/-- An entry costs what the variables have cost, and a byte. -/
theorem entry_need (now v x : LineT) (h0 : RngOk now) (h1 : RngOk x) (hs : now.sec ≤ v.sec) (ho : 0 ≤ offD now v) (es : x.sec = v.sec) (ef : x.file = v.file)
    (dq dl : Int) (q0 : 0 ≤ dq) (q1 : dq ≤ 44) (q2 : dq % 4 = 0) (l0 : -4 ≤ dl) (l1 : dl ≤ 11) (eo : x.off = v.off + dq) (el : x.line = v.line + dl) : (entryL now x).length ≤ need now v + 1 := by
  have e1 : offD now x = offD now v + dq := by unfold offD; rw [es, eo]; omega
  have e2 : x.line - now.line = (v.line - now.line) + dl := by omega
  have p1 : (secP now x).length ≤ if v.sec = now.sec then 0 else 2 := by
    unfold secP
    rw [es]
    split
    · simp
    · unfold RngOk at h0 h1
      rw [numL_lt (by omega)]
      simp
  have p2 : (fileP now x).length ≤ if v.file = now.file then 0 else 2 := by
    unfold fileP
    rw [ef]
    split
    · simp
    · unfold RngOk at h1
      rw [numL_lt (by omega)]
      simp
  have p3 : (offP (offD now x)).length ≤ offNeed (offD now v) := by
    rw [e1]
    generalize offD now v = d at ho
    unfold offP offNeed
    by_cases hz : offB (d + dq) = 0
    · rw [if_pos hz]; simp
    · rw [if_neg hz]
      have hb : offB (d + dq) ≤ d ∧ 0 ≤ offB (d + dq) := by
        unfold offB
        split <;> omega
      rw [if_neg (by omega)]
      have := nb_mono (offB (d + dq)).toNat d.toNat (by omega)
      simp only [List.length_cons]
      unfold nbs at this ⊢
      omega
  have p4 : (lineP (x.line - now.line)).length ≤ lineNeed (v.line - now.line) := by
    rw [e2]
    generalize v.line - now.line = e
    unfold lineP lineNeed
    by_cases hz : lineB (e + dl) = 0
    · rw [if_pos hz]; simp
    · rw [if_neg hz]
      have hb : zig (lineB (e + dl)) ≤ zig e ∧ e ≠ 0 := by
        unfold lineB at hz ⊢
        unfold zig
        repeat' split
        all_goals omega
      rw [if_neg hb.2]
      have := nb_mono _ _ hb.1
      simp only [List.length_cons]
      unfold nbs at this ⊢
      omega
  unfold entryL need
  simp only [List.length_append, List.length_singleton]
  omega
end Go.Ev

/-
  Stage 3: no line program of a table is shorter than Pack's; and Pack's is one of it.
-/
namespace Go.Ev
open Go.RowKit Go.Proofs Go.Rw
def lastOf (tab : List LineT) : LineT := tab.getLast?.getD default
theorem lastOf_snoc (tab : List LineT) (x : LineT) : lastOf (tab ++ [x]) = x := by simp [lastOf]
theorem tab_nil : TabOk [] := ⟨by simp, by simp, fun j x y h => by simp at h⟩
theorem tab_snoc {tab : List LineT} {x : LineT} (h : TabOk tab) (hc : canAppB tab x = true) : TabOk (tab ++ [x]) := by
  unfold canAppB aheadB at hc
  simp only [Bool.and_eq_true, decide_eq_true_eq] at hc
  obtain ⟨h1, h2, h3⟩ := hc
  refine ⟨by simp; omega, fun y hy => ?_, fun j a b ha hb => ?_⟩
  · rcases List.mem_append.1 hy with hy | hy
    · exact h.2.1 y hy
    · rw [List.mem_singleton.1 hy]; exact h2
  · have hbl := (List.getElem?_eq_some_iff.1 hb).1
    simp only [List.length_append, List.length_singleton] at hbl
    rw [List.getElem?_append_left (by omega)] at ha
    by_cases hj : j + 1 < tab.length
    · rw [List.getElem?_append_left hj] at hb
      exact h.2.2 j a b ha hb
    · have e : j + 1 = tab.length := by omega
      rw [e, List.getElem?_append_right (Nat.le_refl _), Nat.sub_self] at hb
      cases hb
      have hl : tab.getLast? = some a := by
        rw [List.getLast?_eq_getElem?, show tab.length - 1 = j by omega]
        exact ha
      rw [hl] at h3
      exact of_decide_eq_true h3
/-- What an instruction does to what the variables have cost. -/
theorem step_need {now v v' : LineT} {tab tab' : List LineT} {b : Nat} {bs r' : List Nat} (h : stepF v tab (b :: bs) = some (v', tab', r')) (h0 : RngOk now) (h1 : RngOk v) (hs : now.sec ≤ v.sec) (ho : v.sec = now.sec → now.off ≤ v.off) (hb : b < 256) :
    (∀ y ∈ r', y ∈ bs) ∧ ((tab' = tab ∧ RngOk v' ∧ now.sec ≤ v'.sec ∧ (v'.sec = now.sec → now.off ≤ v'.off) ∧ need now v' + r'.length ≤ need now v + (bs.length + 1)) ∨
    (tab' = tab ++ [v'] ∧ r' = bs ∧ canAppB tab v' = true ∧ RngOk v' ∧ (entryL now v').length ≤ need now v + 1)) := by
  have hsub : ∀ {l r : List Nat} {n : Nat}, numF l = some (n, r) → ∀ y ∈ r, y ∈ l := fun h y hy => by
    obtain ⟨_, _, s, _, e, _⟩ := numF_len h
    rw [e] at hy
    exact List.mem_of_mem_drop hy
  have hod : 0 ≤ offD now v := by
    unfold offD
    unfold RngOk at h1
    split
    · have := ho (by assumption); omega
    · omega
  rw [stepF] at h
  by_cases b1 : b = 1
  · rw [if_pos b1] at h
    cases hn : numF bs with
    | none => rw [hn] at h; cases h
    | some q =>
      obtain ⟨n, r⟩ := q
      rw [hn] at h
      obtain ⟨g1, rfl, rfl, rfl⟩ := chkF_some h
      have hnb := numF_nb hn
      refine ⟨hsub hn, .inl ⟨rfl, g1, hs, fun e => by have := ho e; dsimp only; omega, ?_⟩⟩
      have e1 : offD now ⟨v.sec, v.off + n, v.file, v.line⟩ = offD now v + n := by unfold offD; dsimp only; omega
      have := offNeed_add (n := n) hod
      unfold need
      rw [e1]
      dsimp only
      omega
  · rw [if_neg b1] at h
    by_cases b2 : b = 2
    · rw [if_pos b2] at h
      cases hn : numF bs with
      | none => rw [hn] at h; cases h
      | some q =>
        obtain ⟨n, r⟩ := q
        rw [hn] at h
        obtain ⟨g1, rfl, rfl, rfl⟩ := chkF_some h
        have hnb := numF_nb hn
        refine ⟨hsub hn, .inl ⟨rfl, g1, hs, ho, ?_⟩⟩
        have e1 : offD now ⟨v.sec, v.off, v.file, v.line + unzig n⟩ = offD now v := rfl
        have e2 : v.line + unzig n - now.line = (v.line - now.line) + unzig n := by omega
        have := lineNeed_add (v.line - now.line) (unzig n)
        rw [zig_unzig] at this
        unfold need
        rw [e1]
        dsimp only
        rw [e2]
        omega
    · rw [if_neg b2] at h
      by_cases b3 : b = 3
      · rw [if_pos b3] at h
        cases hn : numF bs with
        | none => rw [hn] at h; cases h
        | some q =>
          obtain ⟨n, r⟩ := q
          rw [hn] at h
          obtain ⟨g1, rfl, rfl, rfl⟩ := chkF_some h
          have hnb := numF_nb hn
          have := nb_pos n
          refine ⟨hsub hn, .inl ⟨rfl, g1, hs, ho, ?_⟩⟩
          have e1 : offD now ⟨v.sec, v.off, (n : Int), v.line⟩ = offD now v := rfl
          unfold need
          rw [e1]
          dsimp only
          split <;> split <;> split <;> omega
      · rw [if_neg b3] at h
        by_cases b4 : b = 4
        · rw [if_pos b4] at h
          cases hn : numF bs with
          | none => rw [hn] at h; cases h
          | some q =>
            obtain ⟨n, r⟩ := q
            rw [hn] at h
            dsimp only [Option.bind] at h
            by_cases hn0 : n = 0
            · rw [if_pos hn0] at h; cases h
            · rw [if_neg hn0] at h
              obtain ⟨g1, rfl, rfl, rfl⟩ := chkF_some h
              have hnb := numF_nb hn
              have := nb_pos n
              have hne : ¬ (v.sec + (n : Int) = now.sec) := by omega
              refine ⟨hsub hn, .inl ⟨rfl, g1, by dsimp only; omega, fun e => absurd e hne, ?_⟩⟩
              have e1 : offD now ⟨v.sec + n, 0, v.file, v.line⟩ = 0 := by unfold offD; dsimp only; rw [if_neg hne]; rfl
              have e2 : offNeed 0 = 0 := rfl
              unfold need
              rw [e1, e2]
              dsimp only
              rw [if_neg hne]
              split <;> omega
        · rw [if_neg b4] at h
          by_cases b5 : 64 ≤ b
          · rw [if_pos b5] at h
            obtain ⟨g0, g1, rfl, rfl, rfl⟩ := emitF_some h
            exact ⟨fun y hy => hy, .inr ⟨rfl, rfl, g0, g1, entry_need now v _ h0 g1 hs hod rfl rfl (((b - 64) / 16 * 4 : Nat) : Int) ((((b - 64) % 16 : Nat) : Int) - 4) (by omega) (by omega) (by omega) (by omega) (by omega) rfl rfl⟩⟩
          · rw [if_neg b5] at h
            by_cases b6 : b = 5
            · rw [if_pos b6] at h
              obtain ⟨g0, g1, rfl, rfl, rfl⟩ := emitF_some h
              exact ⟨fun y hy => hy, .inr ⟨rfl, rfl, g0, g1, entry_need now v' v' h0 g1 hs hod rfl rfl 0 0 (by omega) (by omega) (by omega) (by omega) (by omega) (by omega) (by omega)⟩⟩
            · rw [if_neg b6] at h; cases h
theorem run_short : ∀ (k : Nat) (now v : LineT) (tab : List LineT) (bs : List Nat) (p : List LineT), runF k v tab bs = some p → (∀ y ∈ bs, y < 256) → RngOk now → RngOk v → now.sec ≤ v.sec → (v.sec = now.sec → now.off ≤ v.off) → TabOk tab →
    ∃ l', p = tab ++ l' ∧ TabOk p ∧ (packL now l').length ≤ need now v + bs.length
  | k, now, v, tab, [], p, h, _, h0, h1, hs, ho, ht => by
    have e : p = tab := by cases k <;> (unfold runF at h; cases h; rfl)
    subst e
    exact ⟨[], by simp, ht, by simp [packL]⟩
  | 0, now, v, tab, b :: bs, p, h, _, _, _, _, _, _ => by unfold runF at h; cases h
  | k + 1, now, v, tab, b :: bs, p, h, hby, h0, h1, hs, ho, ht => by
    unfold runF at h
    cases hst : stepF v tab (b :: bs) with
    | none => rw [hst] at h; cases h
    | some q =>
      obtain ⟨v', tab', r'⟩ := q
      rw [hst] at h
      dsimp only [Option.bind] at h
      obtain ⟨hsu, hst⟩ := step_need hst h0 h1 hs ho (hby b (List.mem_cons_self ..))
      rcases hst with ⟨rfl, g1, g2, g3, g4⟩ | ⟨rfl, rfl, g1, g2, g3⟩
      · obtain ⟨l', e1, e2, e3⟩ := run_short k now v' tab' r' p h (fun y hy => hby y (List.mem_cons_of_mem _ (hsu y hy))) h0 g1 g2 g3 ht
        exact ⟨l', e1, e2, by rw [List.length_cons]; omega⟩
      · obtain ⟨l', e1, e2, e3⟩ := run_short k v' v' _ r' p h (fun y hy => hby y (List.mem_cons_of_mem _ hy)) g2 g2 (Int.le_refl _) (fun _ => Int.le_refl _) (tab_snoc ht g1)
        refine ⟨v' :: l', by rw [e1]; simp, e2, ?_⟩
        rw [need_self] at e3
        rw [packL, List.length_append, List.length_cons]
        omega
/-- What Unpack makes is a table, and Pack's program of it is no longer. -/
theorem unpack_short {bs : List Nat} {p : List LineT} (h : unpackF bs = some p) (hb : ∀ y ∈ bs, y < 256) : TabOk p ∧ (packL default p).length ≤ bs.length := by
  obtain ⟨l', e1, e2, e3⟩ := run_short _ default default [] bs p h hb rng_default rng_default (Int.le_refl _) (fun _ => Int.le_refl _) tab_nil
  rw [List.nil_append] at e1
  subst e1
  rw [need_self] at e3
  exact ⟨e2, by omega⟩
/-- The bytes as numbers without a sign. -/
def toN (l : List Int) : List Nat := l.map Int.toNat
theorem toN_append (a b : List Int) : toN (a ++ b) = toN a ++ toN b := by simp [toN]
theorem lead_num : ∀ (n i acc : Nat) (rest : List Nat), i + nbs n ≤ 5 → acc + n * 128 ^ i ≤ 4294967295 → (0 < i → 0 < n) → leadGo i acc (toN (numL n) ++ rest) = some (acc + n * 128 ^ i, i + nbs n) := by
  intro n
  induction n using Nat.strongRecOn with
  | ind n ih =>
    intro i acc rest h1 h2 h3
    have hp := nb_pos n
    by_cases hn : n < 128
    · have e : nbs n = 1 := by unfold nbs; rw [numL_lt hn]; rfl
      have e2 : n % 128 = n := by omega
      rw [numL_lt hn]
      simp only [toN, List.map_cons, List.map_nil, List.cons_append, List.nil_append, Int.toNat_natCast]
      rw [leadGo, if_neg (by omega), if_pos hn, e2, if_neg (by omega), e]
    · have e : nbs n = nbs (n / 128) + 1 := by unfold nbs; rw [numL_ge hn, List.length_cons]
      have e2 : (n % 128 + 128) % 128 = n % 128 := by omega
      have e3 : acc + n % 128 * 128 ^ i + n / 128 * 128 ^ (i + 1) = acc + n * 128 ^ i := by
        rw [Nat.pow_succ, Nat.add_assoc]
        congr 1
        rw [Nat.mul_comm (128 ^ i) 128, ← Nat.mul_assoc, ← Nat.add_mul]
        congr 1
        omega
      rw [numL_ge hn]
      simp only [toN, List.map_cons, List.cons_append, Int.toNat_natCast]
      rw [leadGo, if_neg (by omega), if_neg (by omega), e2]
      have := ih (n / 128) (by omega) (i + 1) (acc + n % 128 * 128 ^ i) rest (by omega) (by rw [e3]; exact h2) (fun _ => by omega)
      unfold toN at this
      rw [this, e3, e]
      congr 2
      omega
theorem toN_len (l : List Int) : (toN l).length = l.length := by simp [toN]
theorem numF_num {n : Nat} (h : n ≤ 4294967295) (rest : List Nat) : numF (toN (numL n) ++ rest) = some (n, rest) := by
  have h5 : nbs n ≤ 5 := numL_len 4 n (by omega)
  have := lead_num n 0 0 rest (by omega) (by omega) (by omega)
  unfold numF leadF
  rw [this]
  simp only [Option.map, Nat.zero_add, Nat.pow_zero, Nat.mul_one]
  congr 2
  have e : (toN (numL n)).length = nbs n := toN_len _
  rw [← e, List.drop_left]
/-- From these variables, this table and these bytes on this table is made. -/
def Runs (v : LineT) (tab : List LineT) (bs : List Nat) (p : List LineT) : Prop := ∀ k, bs.length ≤ k → runF k v tab bs = some p
theorem runs_nil (v : LineT) (tab : List LineT) : Runs v tab [] tab := fun k _ => by cases k <;> rfl
theorem runs_step {v v' : LineT} {tab tab' : List LineT} {b : Nat} {bs r' : List Nat} {p : List LineT} (h : stepF v tab (b :: bs) = some (v', tab', r')) (hl : r'.length ≤ bs.length) (hr : Runs v' tab' r' p) : Runs v tab (b :: bs) p := fun k hk => by
  cases k with
  | zero => simp at hk
  | succ k =>
    rw [runF, h]
    exact hr k (by simp at hk; omega)
theorem chkF_ok {v : LineT} {tab : List LineT} {r : List Nat} (h : RngOk v) : chkF v tab r = some (v, tab, r) := if_pos h
theorem runs_off {v : LineT} {tab : List LineT} {rest : List Nat} {p : List LineT} {n : Nat} (hn : n ≤ 4294967295) (h : RngOk ⟨v.sec, v.off + n, v.file, v.line⟩) (hr : Runs ⟨v.sec, v.off + n, v.file, v.line⟩ tab rest p) : Runs v tab (1 :: (toN (numL n) ++ rest)) p :=
  runs_step (by rw [stepF, if_pos rfl, numF_num hn]; exact chkF_ok h) (by simp) hr
theorem runs_line {v : LineT} {tab : List LineT} {rest : List Nat} {p : List LineT} {n : Nat} (hn : n ≤ 4294967295) (h : RngOk ⟨v.sec, v.off, v.file, v.line + unzig n⟩) (hr : Runs ⟨v.sec, v.off, v.file, v.line + unzig n⟩ tab rest p) : Runs v tab (2 :: (toN (numL n) ++ rest)) p :=
  runs_step (by rw [stepF, if_neg (by decide), if_pos rfl, numF_num hn]; exact chkF_ok h) (by simp) hr
theorem runs_file {v : LineT} {tab : List LineT} {rest : List Nat} {p : List LineT} {n : Nat} (hn : n ≤ 4294967295) (h : RngOk ⟨v.sec, v.off, n, v.line⟩) (hr : Runs ⟨v.sec, v.off, n, v.line⟩ tab rest p) : Runs v tab (3 :: (toN (numL n) ++ rest)) p :=
  runs_step (by rw [stepF, if_neg (by decide), if_neg (by decide), if_pos rfl, numF_num hn]; exact chkF_ok h) (by simp) hr
theorem runs_sec {v : LineT} {tab : List LineT} {rest : List Nat} {p : List LineT} {n : Nat} (hn : n ≤ 4294967295) (h0 : n ≠ 0) (h : RngOk ⟨v.sec + n, 0, v.file, v.line⟩) (hr : Runs ⟨v.sec + n, 0, v.file, v.line⟩ tab rest p) : Runs v tab (4 :: (toN (numL n) ++ rest)) p :=
  runs_step (by rw [stepF, if_neg (by decide), if_neg (by decide), if_neg (by decide), if_pos rfl, numF_num hn]; dsimp only [Option.bind]; rw [if_neg h0]; exact chkF_ok h) (by simp) hr
theorem unzig_zig (z : Int) : unzig (zig z) = z := by
  unfold unzig zig
  split
  · rw [if_pos (by omega)]; omega
  · rw [if_neg (by omega)]; omega
theorem runs_last {v x : LineT} {tab : List LineT} {rest : List Nat} {p : List LineT} {z : Nat} (hz : 64 ≤ z) (hx : x = ⟨v.sec, v.off + ((z - 64) / 16 * 4 : Nat), v.file, v.line + (((z - 64) % 16 : Nat) - 4)⟩) (hc : canAppB tab x = true) (h : RngOk x) (hr : Runs x (tab ++ [x]) rest p) : Runs v tab (z :: rest) p :=
  runs_step (by
    rw [stepF, if_neg (by omega), if_neg (by omega), if_neg (by omega), if_neg (by omega), if_pos hz, ← hx]
    unfold emitF
    rw [if_pos hc]
    exact chkF_ok h) (Nat.le_refl _) hr
end Go.Ev

/-
  Stage 3: Pack's program is one of the table.
-/
namespace Go.Ev
open Go.RowKit Go.Proofs Go.Rw
theorem runs_entry {now x : LineT} {tab : List LineT} {rest : List Nat} {p : List LineT} (h0 : RngOk now) (h1 : RngOk x) (hs : now.sec ≤ x.sec) (ho : now.sec = x.sec → now.off ≤ x.off) (hc : canAppB tab x = true) (hr : Runs x (tab ++ [x]) rest p) : Runs now tab (toN (entryL now x) ++ rest) p := by
  obtain ⟨ns, no, nf, nl⟩ := now
  obtain ⟨xs, xo, xf, xl⟩ := x
  unfold RngOk at h0 h1
  dsimp only at h0 h1 hs ho
  obtain ⟨o0, ho0⟩ : ∃ o0 : Int, o0 = if xs = ns then no else 0 := ⟨_, rfl⟩
  have hd : offD ⟨ns, no, nf, nl⟩ ⟨xs, xo, xf, xl⟩ = xo - o0 := by rw [ho0]; rfl
  have ho1 : 0 ≤ o0 ∧ o0 ≤ xo := by
    rw [ho0]
    split
    · have := ho (by omega); omega
    · omega
  obtain ⟨d, hdd⟩ : ∃ d : Int, d = xo - o0 := ⟨_, rfl⟩
  obtain ⟨e, hee⟩ : ∃ e : Int, e = xl - nl := ⟨_, rfl⟩
  have hB := offB_in (d := d) (by omega) (by omega)
  have hL := lineB_in (d := e) (by omega) (by omega)
  have hq : (d - offB d) % 4 = 0 := by unfold offB at hB ⊢; split at * <;> omega
  unfold entryL
  rw [hd, ← hdd, toN_append, toN_append, toN_append, toN_append, List.append_assoc, List.append_assoc, List.append_assoc, List.append_assoc]
  dsimp only
  rw [← hee]
  -- the last byte
  have k5 : Runs ⟨xs, o0 + offB d, xf, nl + lineB e⟩ tab (toN [lastP d e] ++ rest) p := by
    obtain ⟨j, hj⟩ : ∃ j : Nat, d - offB d = 4 * (j : Int) := ⟨((d - offB d) / 4).toNat, by omega⟩
    obtain ⟨m, hm⟩ : ∃ m : Nat, e - lineB e + 4 = (m : Int) := ⟨(e - lineB e + 4).toNat, by omega⟩
    have hz : lastP d e = ((64 + 16 * j + m : Nat) : Int) := by unfold lastP; rw [hj]; omega
    have h1' : (64 + 16 * j + m - 64) / 16 = j := by omega
    have h2' : (64 + 16 * j + m - 64) % 16 = m := by omega
    rw [hz]
    refine runs_last (x := ⟨xs, xo, xf, xl⟩) (z := 64 + 16 * j + m) (by omega) ?_ hc (by unfold RngOk; exact h1) hr
    rw [h1', h2']
    congr 1
    · dsimp only
      omega
    · dsimp only
      omega
  -- the lines
  have hlm : -1048576 ≤ nl + lineB e ∧ 0 ≤ nl + lineB e ∧ nl + lineB e ≤ 1048576 := by
    unfold lineB at hL ⊢
    repeat' split
    all_goals omega
  have k4 : Runs ⟨xs, o0 + offB d, xf, nl⟩ tab (toN (lineP e) ++ (toN [lastP d e] ++ rest)) p := by
    unfold lineP
    by_cases hz : lineB e = 0
    · rw [if_pos hz]
      rw [hz, Int.add_zero] at k5
      exact k5
    · rw [if_neg hz]
      refine runs_line (v := ⟨xs, o0 + offB d, xf, nl⟩) (n := zig (lineB e)) (by unfold zig; split <;> omega) ?_ ?_
      · rw [unzig_zig]; unfold RngOk; dsimp only; omega
      · rw [unzig_zig]; exact k5
  have k3 : Runs ⟨xs, o0, xf, nl⟩ tab (toN (offP d) ++ (toN (lineP e) ++ (toN [lastP d e] ++ rest))) p := by
    unfold offP
    by_cases hz : offB d = 0
    · rw [if_pos hz]
      rw [hz, Int.add_zero] at k4
      exact k4
    · rw [if_neg hz]
      have e1 : ((offB d).toNat : Int) = offB d := by omega
      refine runs_off (v := ⟨xs, o0, xf, nl⟩) (n := (offB d).toNat) (by omega) ?_ ?_
      · rw [e1]; unfold RngOk; dsimp only; omega
      · rw [e1]; exact k4
  have k2 : Runs ⟨xs, o0, nf, nl⟩ tab (toN (fileP ⟨ns, no, nf, nl⟩ ⟨xs, xo, xf, xl⟩) ++ (toN (offP d) ++ (toN (lineP e) ++ (toN [lastP d e] ++ rest)))) p := by
    unfold fileP
    dsimp only
    by_cases hz : xf = nf
    · rw [if_pos hz]
      rw [hz] at k3
      exact k3
    · rw [if_neg hz]
      have e1 : (xf.toNat : Int) = xf := by omega
      refine runs_file (v := ⟨xs, o0, nf, nl⟩) (n := xf.toNat) (by omega) ?_ ?_
      · rw [e1]; unfold RngOk; dsimp only; omega
      · rw [e1]; exact k3
  unfold secP
  dsimp only
  by_cases hz : xs = ns
  · rw [if_pos hz]
    rw [if_pos hz] at ho0
    rw [ho0, hz] at k2
    rw [hz]
    exact k2
  · rw [if_neg hz]
    rw [if_neg hz] at ho0
    have e1 : ((xs - ns).toNat : Int) = xs - ns := by omega
    have e2 : ns + (xs - ns) = xs := by omega
    refine runs_sec (v := ⟨ns, no, nf, nl⟩) (n := (xs - ns).toNat) (by omega) (by omega) ?_ ?_
    · rw [e1]; unfold RngOk; dsimp only; omega
    · rw [e1]
      dsimp only
      rw [e2]
      rw [ho0] at k2
      exact k2
theorem runs_pack : ∀ (l : List LineT) (now : LineT) (tab : List LineT), now = lastOf tab → RngOk now → TabOk (tab ++ l) → Runs now tab (toN (packL now l)) (tab ++ l)
  | [], now, tab, _, _, _ => by
    rw [List.append_nil]
    exact runs_nil now tab
  | x :: l, now, tab, e, h0, ht => by
    have hx : (tab ++ x :: l)[tab.length]? = some x := by rw [List.getElem?_append_right (Nat.le_refl _), Nat.sub_self]; rfl
    have hxe := ht.2.1 x (List.mem_of_getElem? hx)
    have hlen := ht.1
    rw [List.length_append, List.length_cons] at hlen
    have hlast : ∀ y, tab.getLast? = some y → y.sec < x.sec ∨ (y.sec = x.sec ∧ y.off < x.off) := fun y hy => by
      have h1 : 0 < tab.length := by
        cases tab with
        | nil => simp at hy
        | cons a b => simp
      rw [List.getLast?_eq_getElem?] at hy
      have h2 := ht.2.2 (tab.length - 1) y x (by rw [List.getElem?_append_left (by omega)]; exact hy) (by rw [show tab.length - 1 + 1 = tab.length by omega]; exact hx)
      exact h2
    have hord : now.sec ≤ x.sec ∧ (now.sec = x.sec → now.off ≤ x.off) := by
      rw [e]
      unfold lastOf
      cases hy : tab.getLast? with
      | none =>
        have := hxe.1
        unfold RngOk at this
        exact ⟨this.1.1, fun _ => this.2.1.1⟩
      | some y =>
        have := hlast y hy
        dsimp only [Option.getD]
        omega
    have hc : canAppB tab x = true := by
      unfold canAppB aheadB
      simp only [Bool.and_eq_true, decide_eq_true_eq]
      refine ⟨by omega, hxe, ?_⟩
      cases hy : tab.getLast? with
      | none => rfl
      | some y => exact decide_eq_true (hlast y hy)
    rw [packL, toN_append]
    refine runs_entry h0 hxe.1 hord.1 hord.2 hc ?_
    have := runs_pack l x (tab ++ [x]) (lastOf_snoc tab x).symm hxe.1 (by simpa using ht)
    simpa using this
/-- Unpack of Pack is the table. -/
theorem unpack_pack {l : List LineT} (h : TabOk l) : unpackF (toN (packL default l)) = some l := by
  have := runs_pack l default [] rfl rng_default (by simpa using h)
  rw [List.nil_append] at this
  exact this _ (Nat.le_refl _)
end Go.Ev

