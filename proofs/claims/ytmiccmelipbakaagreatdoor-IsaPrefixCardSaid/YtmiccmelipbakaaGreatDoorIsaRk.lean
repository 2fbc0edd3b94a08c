import Derived.Test.YtmiccmelipbakaaGreatDoorIsaIsM
set_option linter.unusedSectionVars false
set_option linter.unusedVariables false
set_option linter.unusedSimpArgs false
/-
  Rank and Unrank, of the program and of the specification: by runs at each operation, the fields unknown.
-/
namespace Go.Ev
open Go.RowKit Go.Proofs

/-! ### Numbers of instructions -/
/-- How many instructions the operations below each number have. -/
def stab : List Nat := [0, 0, 1, 257, 4353, 8449, 12545, 16641, 20737, 24833, 28929, 33025, 37121, 41217, 45313, 49409, 53505, 57601, 61697, 127233, 127489, 127745, 128769, 129025, 129281, 133377, 198913, 199169, 264705, 330241, 395777, 461313, 526849, 592385, 657921, 657937, 657953, 723489, 1772065, 1837601, 1837602, 1837618, 1837634, 1837635, 1837636, 1837637, 1837638, 1837654, 1837670, 1870438, 1903206, 1903270, 1904806, 1906342, 1907878, 1908390, 1908902, 1909414, 1909926, 1910438, 1910950, 1911078, 1911206, 1911206, 1911206, 68721387942, 1168233015718, 1172527983014, 1241247459750, 1245542427046, 2345054054822, 3444565682598, 73813309860262, 73882029336998]
def start (op : Nat) : Nat := match nth stab op with | some n => n | none => 0
def sizes : List (Int × Int) → List Int
  | [] => []
  | (a, b) :: l => Int.add (Int.sub b a) (.ofNat 1) :: sizes l
def prodI : List Int → Int
  | [] => .ofNat 1
  | x :: l => Int.mul x (prodI l)
/-- The weights of the digits. -/
def coefs : List Int → List Int
  | [] => []
  | _ :: l => prodI l :: coefs l
def cf (op : Nat) : List Int := coefs (sizes (rt op))
def many (op : Nat) : Int := prodI (sizes (rt op))
def dotLo : List Int → List (Int × Int) → Int
  | c :: l, (a, _) :: s => Int.add (Int.mul c a) (dotLo l s)
  | _, _ => .ofNat 0
def c0 (op : Nat) : Int := Int.sub (.ofNat (start op)) (dotLo (cf op) (rt op))
def stepOK (op : Nat) : Bool := match opN op with
  | true => ibeq (.ofNat (start (op + 1))) (Int.add (.ofNat (start op)) (many op))
  | false => Nat.beq (start (op + 1)) (start op)
theorem steps_ok : uptoB stepOK 73 = true := by kernel_rfl
theorem start_zero : start 0 = 0 := by kernel_rfl
theorem start_end : start 73 = 73882029336998 := by kernel_rfl

/-! ### Runs that yield two values -/
def isRetU (l : List AV) : AEnd → Bool
  | .ret (.tup m) => avEqL m l
  | _ => false
def GoodL [Unk] : List AV → Prop
  | [] => True
  | a :: l => Good a ∧ GoodL l
theorem vrs_of_denL [Unk] {ρ : Rho} : ∀ {l : List AV} {vs : List Value}, GoodL l → DenL l vs → VRs ρ l vs
  | [], [], _, _ => .nil
  | [], _ :: _, _, h => h.elim
  | _ :: _, [], _, h => h.elim
  | _ :: _, _ :: _, hg, hd => .cons _ _ _ _ (vr_of_den hg.1 hd.1) (vrs_of_denL hg.2 hd.2)
theorem pair_of_eval [Unk] {G : Nat → Nat → Option AV} {orc : Nat → Option Orc} (hO : OrcSound Tryz.prog G orc) {fuel f : Nat} {args : List AV} {l : List AV} (h : evalA Tryz.prog G orc fuel f args (isRetU l) = true) {vs : List Value} (hv : VRs (fun _ => none) args vs) {us : List Value} (hd : DenL l us)
    {w : World} (hG : Globals G w) : Calls Tryz.prog f vs.toArray w fun e w' => e = .returned (.tuple us.toArray) ∧ Below w.heap.size w w' := by
  obtain ⟨e, he, hc⟩ := evalA_true hO noNG1 mix1 h hv hG
  unfold isRetU at he
  split at he
  · refine Calls.mono hc fun e' w' h => ?_
    obtain ⟨hb, ρ', hr⟩ := h
    cases e' with
    | returned u =>
      cases hr with
      | tup _ cs hs =>
        refine ⟨?_, hb⟩
        have := denL_unique (avEqL_den he hs) hd
        rw [← this]
    | panicked c => exact hr.elim
    | outgrown => exact hr.elim
  · cases he

/-! ### The runs -/
def tabRows (g : Nat → AV) : Nat → Nat → List (List AV × AV)
  | _, 0 => []
  | k, n + 1 => ([.int .i64 (.ofNat k)], g k) :: tabRows g (k + 1) n
theorem tabRows_mem {g : Nat → AV} {pat : List AV} {v : AV} : ∀ {k n : Nat}, (pat, v) ∈ tabRows g k n → ∃ j, j < k + n ∧ k ≤ j ∧ pat = [.int .i64 (.ofNat j)] ∧ v = g j
  | _, 0, h => by cases h
  | k, n + 1, h => by
    simp only [tabRows, List.mem_cons, Prod.mk.injEq] at h
    rcases h with ⟨rfl, rfl⟩ | h
    · exact ⟨k, by omega, by omega, rfl, rfl⟩
    · obtain ⟨j, h1, h2, h3⟩ := tabRows_mem h
      exact ⟨j, by omega, by omega, h3⟩
def rngAV (k : Nat) : AV := .agg (spanCells (rt k))
def sizAV (k : Nat) : AV := .agg (sizeCells (rt k))
def manyAV (k : Nat) : AV := .int .u64 (many k)
/-- An instruction of an operation: its fields are unknowns. -/
def opArg (op : Nat) (bs : List (Int × Int)) : AV := .agg [.int .i64 (.ofNat op), lf .i64 bs 0, lf .i64 bs 1, lf .i64 bs 2, lf .i64 bs 3, lf .i64 bs 4, lf .u32 bs 5]
def rankAV (op : Nat) : AV := match ibeq (many op) (.ofNat 1) with
  | true => .int .u64 (.ofNat (start op))
  | false => .lin .u64 (c0 op) (cf op) (rt op)
def orcR (op : Nat) (f : Nat) : Option Orc := match Nat.beq f 18 with
  | true => some (.given [([opArg op (rt op)], .int .i64 (.ofNat 0))])
  | false => match Nat.beq f 58 with
    | true => some (.given (tabRows rngAV 0 73))
    | false => none
noncomputable def rkRun (m : Int) (op : Nat) : Bool := match opN op with
  | false => true
  | true => evalA Tryz.prog (G1 m) (orcR op) 1000000 39 [opArg op (rt op)] (isRetU [rankAV op, .int .i64 (.ofNat 0)])
/-- Digits. -/
def digB : List (Int × Int) → List (Int × Int)
  | [] => []
  | (a, b) :: l => (.ofNat 0, Int.sub b a) :: digB l
def nForm (op : Nat) : AV := .lin .u64 (.ofNat (start op)) (cf op) (digB (rt op))
def fld (kd : IntKind) (p : Int × Int) (i : Nat) (bs : List (Int × Int)) : AV := match p with
  | (a, b) => match ibeq a b with
    | true => .int kd a
    | false => .lin kd a (e1 i (.ofNat 1)) bs
def fldAt (kd : IntKind) (op i : Nat) : AV := match nth (rt op) i with
  | some p => fld kd p i (digB (rt op))
  | none => .bool false
def outAV (op : Nat) : AV := .agg [.int .i64 (.ofNat op), fldAt .i64 op 0, fldAt .i64 op 1, fldAt .i64 op 2, fldAt .i64 op 3, fldAt .i64 op 4, fldAt .u32 op 5]
def orcU (f : Nat) : Option Orc := match Nat.beq f 58 with
  | true => some (.given (tabRows rngAV 0 73))
  | false => none
noncomputable def unRun (m : Int) (op : Nat) : Bool := match opN op with
  | false => true
  | true => evalA Tryz.prog (G1 m) orcU 1000000 41 [nForm op] (isRetU [outAV op, .int .i64 (.ofNat 0)])
/-- The specification's. -/
def orcZ (f : Nat) : Option Orc := match Nat.beq f 89 with
  | true => some (.given (tabRows manyAV 1 61 ++ tabRows manyAV 64 9))
  | false => match Nat.beq f 90 with
    | true => some (.given (tabRows sizAV 1 61 ++ tabRows sizAV 64 9))
    | false => none
def orcQ (op : Nat) (f : Nat) : Option Orc := match Nat.beq f 56 with
  | true => some (.given [([opArg op (rt op)], .bool true)])
  | false => orcZ f
noncomputable def rqRun (m : Int) (op : Nat) : Bool := match opN op with
  | false => true
  | true => evalA Tryz.prog (G1 m) (orcQ op) 1000000 40 [opArg op (rt op)] (isRetU [rankAV op, .int .i64 (.ofNat 0)])
noncomputable def uqRun (m : Int) (op : Nat) : Bool := match opN op with
  | false => true
  | true => evalA Tryz.prog (G1 m) orcZ 1000000 42 [nForm op] (isRetU [outAV op, .int .i64 (.ofNat 0)])
end Go.Ev
