import Derived.Test.YtmiccmelipbakaaGreatDoorIsaIsM
set_option linter.unusedSectionVars false
set_option linter.unusedVariables false
set_option linter.unusedSimpArgs false
/-
  Rank and Unrank, of the program and of the specification: by runs at each operation, the fields unknown.
-/
namespace Go.Ev
open Go.RowKit Go.Proofs

/-! ### Numbers of instructions -/
/-- How many instructions the operations below each number have. -/
def stab : List Nat := [0, 0, 1, 257, 4353, 8449, 12545, 16641, 20737, 24833, 28929, 33025, 37121, 41217, 45313, 49409, 53505, 57601, 61697, 127233, 127489, 127745, 128769, 129025, 129281, 133377, 198913, 199169, 264705, 330241, 395777, 461313, 526849, 592385, 657921, 657937, 657953, 723489, 1772065, 1837601, 1837602, 1837618, 1837634, 1837635, 1837636, 1837637, 1837638, 1837654, 1837670, 1870438, 1903206, 1903270, 1904806, 1906342, 1907878, 1908390, 1908902, 1909414, 1909926, 1910438, 1910950, 1911078, 1911206, 1911206, 1911206, 68721387942, 1168233015718, 1172527983014, 1241247459750, 1245542427046, 2345054054822, 3444565682598, 73813309860262, 73882029336998]
def start (op : Nat) : Nat := match nth stab op with | some n => n | none => 0
def sizes : List (Int × Int) → List Int
  | [] => []
  | (a, b) :: l => Int.add (Int.sub b a) (.ofNat 1) :: sizes l
def prodI : List Int → Int
  | [] => .ofNat 1
  | x :: l => Int.mul x (prodI l)
/-- The weights of the digits. -/
def coefs : List Int → List Int
  | [] => []
  | _ :: l => prodI l :: coefs l
def cf (op : Nat) : List Int := coefs (sizes (rt op))
def many (op : Nat) : Int := prodI (sizes (rt op))
def dotLo : List Int → List (Int × Int) → Int
  | c :: l, (a, _) :: s => Int.add (Int.mul c a) (dotLo l s)
  | _, _ => .ofNat 0
def c0 (op : Nat) : Int := Int.sub (.ofNat (start op)) (dotLo (cf op) (rt op))
def stepOK (op : Nat) : Bool := match opN op with
  | true => ibeq (.ofNat (start (op + 1))) (Int.add (.ofNat (start op)) (many op))
  | false => Nat.beq (start (op + 1)) (start op)
theorem steps_ok : uptoB stepOK 73 = true := by kernel_rfl
theorem start_zero : start 0 = 0 := by kernel_rfl
theorem start_end : start 73 = 73882029336998 := by kernel_rfl

/-! ### Runs that yield two values -/
def isRetU (l : List AV) : AEnd → Bool
  | .ret (.tup m) => avEqL m l
  | _ => false
def GoodL [Unk] : List AV → Prop
  | [] => True
  | a :: l => Good a ∧ GoodL l
theorem vrs_of_denL [Unk] {ρ : Rho} : ∀ {l : List AV} {vs : List Value}, GoodL l → DenL l vs → VRs ρ l vs
  | [], [], _, _ => .nil
  | [], _ :: _, _, h => h.elim
  | _ :: _, [], _, h => h.elim
  | _ :: _, _ :: _, hg, hd => .cons _ _ _ _ (vr_of_den hg.1 hd.1) (vrs_of_denL hg.2 hd.2)
theorem pair_of_eval [Unk] {G : Nat → Nat → Option AV} {orc : Nat → Option Orc} (hO : OrcSound Tryz.prog G orc) {fuel f : Nat} {args : List AV} {l : List AV} (h : evalA Tryz.prog G orc fuel f args (isRetU l) = true) {vs : List Value} (hv : VRs (fun _ => none) args vs) {us : List Value} (hd : DenL l us)
    {w : World} (hG : Globals G w) : Calls Tryz.prog f vs.toArray w fun e w' => e = .returned (.tuple us.toArray) ∧ Below w.heap.size w w' := by
  obtain ⟨e, he, hc⟩ := evalA_true hO noNG1 mix1 h hv hG
  unfold isRetU at he
  split at he
  · refine Calls.mono hc fun e' w' h => ?_
    obtain ⟨hb, ρ', hr⟩ := h
    cases e' with
    | returned u =>
      cases hr with
      | tup _ cs hs =>
        refine ⟨?_, hb⟩
        have := denL_unique (avEqL_den he hs) hd
        rw [← this]
    | panicked c => exact hr.elim
    | outgrown => exact hr.elim
  · cases he

/-! ### The runs -/
def tabRows (g : Nat → AV) : Nat → Nat → List (List AV × AV)
  | _, 0 => []
  | k, n + 1 => ([.int .i64 (.ofNat k)], g k) :: tabRows g (k + 1) n
theorem tabRows_mem {g : Nat → AV} {pat : List AV} {v : AV} : ∀ {k n : Nat}, (pat, v) ∈ tabRows g k n → ∃ j, j < k + n ∧ k ≤ j ∧ pat = [.int .i64 (.ofNat j)] ∧ v = g j
  | _, 0, h => by cases h
  | k, n + 1, h => by
    simp only [tabRows, List.mem_cons, Prod.mk.injEq] at h
    rcases h with ⟨rfl, rfl⟩ | h
    · exact ⟨k, by omega, by omega, rfl, rfl⟩
    · obtain ⟨j, h1, h2, h3⟩ := tabRows_mem h
      exact ⟨j, by omega, by omega, h3⟩
def rngAV (k : Nat) : AV := .agg (spanCells (rt k))
def sizAV (k : Nat) : AV := .agg (sizeCells (rt k))
def manyAV (k : Nat) : AV := .int .u64 (many k)
/-- An instruction of an operation: its fields are unknowns. -/
def opArg (op : Nat) (bs : List (Int × Int)) : AV := .agg [.int .i64 (.ofNat op), lf .i64 bs 0, lf .i64 bs 1, lf .i64 bs 2, lf .i64 bs 3, lf .i64 bs 4, lf .u32 bs 5]
def rankAV (op : Nat) : AV := match ibeq (many op) (.ofNat 1) with
  | true => .int .u64 (.ofNat (start op))
  | false => .lin .u64 (c0 op) (cf op) (rt op)
def orcR (op : Nat) (f : Nat) : Option Orc := match Nat.beq f 18 with
  | true => some (.given [([opArg op (rt op)], .int .i64 (.ofNat 0))])
  | false => match Nat.beq f 58 with
    | true => some (.given (tabRows rngAV 0 73))
    | false => none
noncomputable def rkRun (m : Int) (op : Nat) : Bool := match opN op with
  | false => true
  | true => evalA Tryz.prog (G1 m) (orcR op) 1000000 39 [opArg op (rt op)] (isRetU [rankAV op, .int .i64 (.ofNat 0)])
/-- Digits. -/
def digB : List (Int × Int) → List (Int × Int)
  | [] => []
  | (a, b) :: l => (.ofNat 0, Int.sub b a) :: digB l
def nForm (op : Nat) : AV := .lin .u64 (.ofNat (start op)) (cf op) (digB (rt op))
def fld (kd : IntKind) (p : Int × Int) (i : Nat) (bs : List (Int × Int)) : AV := match p with
  | (a, b) => match ibeq a b with
    | true => .int kd a
    | false => .lin kd a (e1 i (.ofNat 1)) bs
def fldAt (kd : IntKind) (op i : Nat) : AV := match nth (rt op) i with
  | some p => fld kd p i (digB (rt op))
  | none => .bool false
def outAV (op : Nat) : AV := .agg [.int .i64 (.ofNat op), fldAt .i64 op 0, fldAt .i64 op 1, fldAt .i64 op 2, fldAt .i64 op 3, fldAt .i64 op 4, fldAt .u32 op 5]
def orcU (f : Nat) : Option Orc := match Nat.beq f 58 with
  | true => some (.given (tabRows rngAV 0 73))
  | false => none
noncomputable def unRun (m : Int) (op : Nat) : Bool := match opN op with
  | false => true
  | true => evalA Tryz.prog (G1 m) orcU 1000000 41 [nForm op] (isRetU [outAV op, .int .i64 (.ofNat 0)])
/-- The specification's. -/
def orcZ (f : Nat) : Option Orc := match Nat.beq f 89 with
  | true => some (.given (tabRows manyAV 1 61 ++ tabRows manyAV 64 9))
  | false => match Nat.beq f 90 with
    | true => some (.given (tabRows sizAV 1 61 ++ tabRows sizAV 64 9))
    | false => none
def orcQ (op : Nat) (f : Nat) : Option Orc := match Nat.beq f 56 with
  | true => some (.given [([opArg op (rt op)], .bool true)])
  | false => orcZ f
noncomputable def rqRun (m : Int) (op : Nat) : Bool := match opN op with
  | false => true
  | true => evalA Tryz.prog (G1 m) (orcQ op) 1000000 40 [opArg op (rt op)] (isRetU [rankAV op, .int .i64 (.ofNat 0)])
noncomputable def uqRun (m : Int) (op : Nat) : Bool := match opN op with
  | false => true
  | true => evalA Tryz.prog (G1 m) orcZ 1000000 42 [nForm op] (isRetU [outAV op, .int .i64 (.ofNat 0)])
end Go.Ev

namespace Go.Ev
open Go.RowKit Go.Proofs

/-! ### The oracles are sound -/
theorem hb56 : HasBody Tryz.prog 56 := ⟨_, _, Tryz.func56, by kernel_rfl, rfl⟩
theorem hb58' : HasBody Tryz.prog 58 := hb58
theorem hb89 : HasBody Tryz.prog 89 := ⟨_, _, Tryz.func89, by kernel_rfl, rfl⟩
set_option maxRecDepth 1000000 in
theorem many_ev (m : Int) : uptoB (fun i => match opN i with | false => true | true => evalA Tryz.prog (G1 m) orcN 100000 89 [.int .i64 (.ofNat i)] (isRet (manyAV i))) 73 = true := by kernel_rfl
theorem denL_int [Unk] {j : Nat} {vs : List Value} (h : DenL [.int .i64 (.ofNat j)] vs) : vs = [.int .i64 (j : Int)] := denL_one (a := .int .i64 (.ofNat j)) (v := .int .i64 (j : Int)) rfl h
theorem vrs_spans [Unk] {ρ : Rho} : ∀ l, VRs ρ (spanCells l) (spansV l)
  | [] => .nil
  | (_, _) :: l => .cons _ _ _ _ (.int _ _) (.cons _ _ _ _ (.int _ _) (vrs_spans l))
theorem vrs_sizes [Unk] {ρ : Rho} : ∀ l, VRs ρ (sizeCells l) (sizesV l)
  | [] => .nil
  | (_, _) :: l => .cons _ _ _ _ (.int _ _) (.cons _ _ _ _ (.int _ _) (vrs_sizes l))
theorem row_rng [Unk] {m : Int} {j : Nat} (hj : j < 73) : RowOK Tryz.prog (G1 m) 58 [.int .i64 (.ofNat j)] (rngAV j) := by
  intro w vs hG hd
  obtain rfl := denL_int hd
  refine Calls.mono (ranges_calls (globU_of hG) hj) fun e w' he => ?_
  obtain ⟨rfl, hb⟩ := he
  exact ⟨_, rfl, fun ρ => .agg _ _ (vrs_spans _), hb⟩
theorem row_siz [Unk] {m : Int} {j : Nat} (hj : j < 73) (ho : opN j = true) : RowOK Tryz.prog (G1 m) 90 [.int .i64 (.ofNat j)] (sizAV j) := by
  intro w vs hG hd
  obtain rfl := denL_int hd
  refine Calls.mono (sizes_of (globU_of hG) hj ho) fun e w' he => ?_
  obtain ⟨rfl, hb⟩ := he
  exact ⟨_, rfl, fun ρ => .agg _ _ (vrs_sizes _), hb⟩
theorem row_many [Unk] {m : Int} {j : Nat} (hj : j < 73) (ho : opN j = true) : RowOK Tryz.prog (G1 m) 89 [.int .i64 (.ofNat j)] (manyAV j) := by
  intro w vs hG hd
  obtain rfl := denL_int hd
  have hev := @uptoB_true (Unk.mk (nthI [])) _ _ (many_ev m) j hj
  rw [ho] at hev
  refine Calls.mono (rowOK_of_eval (orcN_snd _) noNG1 mix1 hev (vs := [.int .i64 (j : Int)]) (.cons _ _ _ _ (.int _ _) .nil) (show Good (.int _ _) from trivial) hG) fun e w' he => ?_
  obtain ⟨u, rfl, hd, hv, hb⟩ := he
  exact ⟨u, rfl, hv, hb⟩
theorem opN_low {j : Nat} (h1 : 1 ≤ j) (h2 : j < 62) : opN j = true := by
  have := @uptoB_true (Unk.mk (nthI [])) _ _ (show uptoB (fun n => opN (n + 1)) 61 = true by kernel_rfl) (j - 1) (by omega)
  rwa [show j - 1 + 1 = j by omega] at this
theorem opN_high {j : Nat} (h1 : 64 ≤ j) (h2 : j < 73) : opN j = true := by
  have := @uptoB_true (Unk.mk (nthI [])) _ _ (show uptoB (fun n => opN (n + 64)) 9 = true by kernel_rfl) (j - 64) (by omega)
  rwa [show j - 64 + 64 = j by omega] at this
theorem orcU_snd [Unk] {m : Int} : OrcSound Tryz.prog (G1 m) orcU := orcSound_given fun f oc hf => by
  unfold orcU at hf
  split at hf
  · rename_i h
    have h := beqF h
    subst h
    cases hf
    refine ⟨_, rfl, hb58, fun pat v hm => ?_⟩
    obtain ⟨j, h1, h2, rfl, rfl⟩ := tabRows_mem hm
    exact row_rng (by omega)
  · cases hf
theorem given_Z [Unk] {m : Int} {f : Nat} {oc : Orc} (hf : orcZ f = some oc) : ∃ rows, oc = .given rows ∧ HasBody Tryz.prog f ∧ ∀ pat v, (pat, v) ∈ rows → RowOK Tryz.prog (G1 m) f pat v := by
  unfold orcZ at hf
  split at hf
  · rename_i h
    have h := beqF h
    subst h
    cases hf
    refine ⟨_, rfl, hb89, fun pat v hm => ?_⟩
    rcases List.mem_append.1 hm with hm | hm
    · obtain ⟨j, h1, h2, rfl, rfl⟩ := tabRows_mem hm
      exact row_many (by omega) (opN_low h2 (by omega))
    · obtain ⟨j, h1, h2, rfl, rfl⟩ := tabRows_mem hm
      exact row_many (by omega) (opN_high h2 (by omega))
  · split at hf
    · rename_i h
      have h := beqF h
      subst h
      cases hf
      refine ⟨_, rfl, hb90, fun pat v hm => ?_⟩
      rcases List.mem_append.1 hm with hm | hm
      · obtain ⟨j, h1, h2, rfl, rfl⟩ := tabRows_mem hm
        exact row_siz (by omega) (opN_low h2 (by omega))
      · obtain ⟨j, h1, h2, rfl, rfl⟩ := tabRows_mem hm
        exact row_siz (by omega) (opN_high h2 (by omega))
    · cases hf
end Go.Ev

namespace Go.Ev
open Go.RowKit Go.Proofs

/-! ### Digits -/
def dot : List Int → List Int → Int
  | [], _ => 0
  | _ :: _, [] => 0
  | c :: l, x :: xs => c * x + dot l xs
theorem val_zero (s : Nat → Int) : ∀ (l : List Int) (i : Nat), (∀ n, i ≤ n → s n = 0) → Lin.val s l i = 0
  | [], _, _ => rfl
  | c :: l, i, h => by
    simp only [Lin.val]
    rw [h i (Nat.le_refl _), val_zero s l (i + 1) fun n hn => h n (by omega)]
    simp
theorem val_at (s : Nat → Int) : ∀ (l xs : List Int) (i : Nat), (∀ n, s (i + n) = nthI xs n) → Lin.val s l i = dot l xs
  | [], _, _, _ => rfl
  | c :: l, [], i, h => by
    show Lin.val s (c :: l) i = 0
    exact val_zero s _ i fun n hn => by have := h (n - i); rw [show i + (n - i) = n by omega] at this; rw [this]; rfl
  | c :: l, x :: xs, i, h => by
    simp only [Lin.val, dot]
    have h0 := h 0
    rw [Nat.add_zero] at h0
    rw [h0, val_at s l xs (i + 1) fun n => by have := h (n + 1); rw [show i + (n + 1) = i + 1 + n by omega] at this; rw [this]; rfl]
    rfl
theorem val_dot (l xs : List Int) : Lin.val (nthI xs) l 0 = dot l xs := val_at _ l xs 0 fun n => by rw [Nat.zero_add]
theorem prodI_cons (x : Int) (l : List Int) : prodI (x :: l) = x * prodI l := rfl
theorem prodI_pos : ∀ {l : List Int}, (∀ s, s ∈ l → 1 ≤ s) → 1 ≤ prodI l
  | [], _ => by decide
  | x :: l, h => by
    rw [prodI_cons]
    have h1 := h x (List.mem_cons_self ..)
    have h2 := prodI_pos (l := l) fun s hs => h s (List.mem_cons_of_mem _ hs)
    have := Int.mul_pos (show 0 < x by omega) (show 0 < prodI l by omega)
    omega
def digits : List Int → Int → List Int
  | [], _ => []
  | _ :: l, n => n / prodI l :: digits l (n % prodI l)
theorem digits_dot : ∀ {l : List Int} {n : Int}, (∀ s, s ∈ l → 1 ≤ s) → 0 ≤ n → n < prodI l → dot (coefs l) (digits l n) = n
  | [], n, _, h0, h1 => by
    have : n < 1 := h1
    show (0 : Int) = n
    omega
  | x :: l, n, h, h0, h1 => by
    have hp := prodI_pos (l := l) fun s hs => h s (List.mem_cons_of_mem _ hs)
    show prodI l * (n / prodI l) + dot (coefs l) (digits l (n % prodI l)) = n
    rw [digits_dot (fun s hs => h s (List.mem_cons_of_mem _ hs)) (Int.emod_nonneg _ (by omega)) (Int.emod_lt_of_pos _ (by omega))]
    exact Int.mul_ediv_add_emod n (prodI l)
theorem sizes_cons (a b : Int) (l : List (Int × Int)) : sizes ((a, b) :: l) = (b - a + 1) :: sizes l := rfl
theorem digits_ins : ∀ {r : List (Int × Int)} {n : Int}, (∀ p, p ∈ r → p.1 ≤ p.2) → 0 ≤ n → n < prodI (sizes r) → Ins (digits (sizes r) n) (digB r)
  | [], _, _, _, _ => trivial
  | (a, b) :: r, n, h, h0, h1 => by
    have hab : a ≤ b := h (a, b) (List.mem_cons_self ..)
    have hp := prodI_pos (l := sizes r) fun s hs => by
      have : ∀ {r : List (Int × Int)}, (∀ p, p ∈ r → p.1 ≤ p.2) → ∀ s, s ∈ sizes r → 1 ≤ s := by
        intro r
        induction r with
        | nil => intro _ s hs; cases hs
        | cons p r ih =>
          obtain ⟨a, b⟩ := p
          intro h s hs
          rw [sizes_cons] at hs
          rcases List.mem_cons.1 hs with rfl | hs
          · have : a ≤ b := h (a, b) (List.mem_cons_self ..)
            omega
          · exact ih (fun p hp => h p (List.mem_cons_of_mem _ hp)) s hs
      exact this (fun p hp => h p (List.mem_cons_of_mem _ hp)) s hs
    rw [sizes_cons, prodI_cons] at h1
    refine ⟨⟨?_, ?_⟩, ?_⟩
    · show 0 ≤ n / prodI (sizes r)
      exact Int.ediv_nonneg h0 (by omega)
    · show n / prodI (sizes r) ≤ b - a
      have := Int.ediv_lt_of_lt_mul (show 0 < prodI (sizes r) by omega) h1
      omega
    · exact digits_ins (fun p hp => h p (List.mem_cons_of_mem _ hp)) (Int.emod_nonneg _ (by omega)) (Int.emod_lt_of_pos _ (by omega))
theorem sizes_pos : ∀ {r : List (Int × Int)}, (∀ p, p ∈ r → p.1 ≤ p.2) → ∀ s, s ∈ sizes r → 1 ≤ s
  | [], _, s, hs => by cases hs
  | (a, b) :: r, h, s, hs => by
    rw [sizes_cons] at hs
    rcases List.mem_cons.1 hs with rfl | hs
    · have : a ≤ b := h (a, b) (List.mem_cons_self ..)
      omega
    · exact sizes_pos (fun p hp => h p (List.mem_cons_of_mem _ hp)) s hs
/-! ### Which operation a number belongs to -/
theorem step_at (p : Nat → Prop) : ∀ n, p 0 → ¬ p n → ∃ k, k < n ∧ p k ∧ ¬ p (k + 1)
  | 0, h, h' => absurd h h'
  | n + 1, h, h' => by
    by_cases hn : p n
    · exact ⟨n, by omega, hn, h'⟩
    · obtain ⟨k, h1, h2⟩ := step_at p n h hn
      exact ⟨k, by omega, h2⟩
theorem find_op {n : Nat} (h : n < 73882029336998) : ∃ op, op < 73 ∧ opN op = true ∧ start op ≤ n ∧ (n : Int) - start op < many op := by
  obtain ⟨op, h1, h2, h3⟩ := step_at (fun k => start k ≤ n) 73 (by show start 0 ≤ n; rw [start_zero]; omega) (by show ¬ start 73 ≤ n; rw [start_end]; omega)
  have hs := @uptoB_true (Unk.mk (nthI [])) _ _ steps_ok op h1
  unfold stepOK at hs
  split at hs
  · rename_i ho
    rw [ibeq_eq] at hs
    have hs : (start (op + 1) : Int) = start op + many op := of_decide_eq_true hs
    exact ⟨op, h1, ho, h2, by omega⟩
  · have := Nat.eq_of_beq_eq_true hs
    omega
theorem spans_le {op : Nat} (h : op < 73) : ∀ p, p ∈ rt op → p.1 ≤ p.2 := by
  obtain ⟨a4, b0, b1, b2, b3, b4, b5, hr, k1, k2, g0, g1, g2, g3, g4, g5⟩ := spans_of h
  rw [hr]
  intro p hp
  simp only [List.mem_cons, List.not_mem_nil, or_false] at hp
  rcases hp with rfl | rfl | rfl | rfl | rfl | rfl <;> simp only <;> omega
end Go.Ev

