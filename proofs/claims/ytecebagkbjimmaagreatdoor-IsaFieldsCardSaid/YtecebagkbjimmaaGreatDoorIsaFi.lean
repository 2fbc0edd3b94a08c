import Derived.Test.YtecebagkbjimmaaGreatDoorIsaX
set_option linter.unusedSectionVars false
set_option linter.unusedVariables false
set_option linter.unusedSimpArgs false
/-
  The law IsaFields returns true.
-/
namespace Go.Ev
open Go.RowKit Go.Proofs

/-! ### range_: a table -/
def isRetT (l : List AV) : AEnd → Bool
  | .ret (.tup m) => avEqs m l
  | _ => false
theorem rowOK_tup [Unk] {G : Nat → Nat → Option AV} {orc : Nat → Option Orc} (hO : OrcSound Tryz.prog G orc) {fuel f : Nat} {args : List AV} {l : List AV} (h : evalA Tryz.prog G orc fuel f args (isRetT l) = true) {vs : List Value} (hv : VRs (fun _ => none) args vs) (hg : GoodS l)
    {w : World} (hG : Globals G w) : Calls Tryz.prog f vs.toArray w fun e w' => ∃ u, e = .returned u ∧ (∀ ρ, VR ρ (.tup l) u) ∧ Below w.heap.size w w' := by
  obtain ⟨e, he, hc⟩ := evalA_true hO noNG1 mix1 h hv hG
  unfold isRetT at he
  split at he
  · refine Calls.mono hc fun e' w' h => ?_
    obtain ⟨hb, ρ', hr⟩ := h
    cases e' with
    | returned u =>
      cases hr with
      | tup _ cs hs => exact ⟨_, rfl, fun ρ => .tup _ _ (vrs_of_denS hg (avEqs_den he hs)), hb⟩
    | panicked c => exact hr.elim
    | outgrown => exact hr.elim
  · cases he
def memK (k : Nat) : Bool := match Nat.beq k 14 with | true => true | false => Nat.beq k 15
def dMost (k : Nat) : Option Nat := match k with | 7 => some 15 | 8 => some 3 | 9 => some 2 | 10 => some 3 | 11 => some 3 | _ => none
def rangeL (k w : Nat) : List AV := match w with
  | 0 => match Nat.beq k 1 with | true => [.int .i64 (.ofNat 0), .int .i64 (.ofNat 15), .bool true] | false => [.int .i64 (.ofNat 0), .int .i64 (.ofNat 7), .bool (Nat.beq k 4)]
  | 1 => match (match Nat.beq k 2 with | true => true | false => memK k) with | true => [.int .i64 (.ofNat 0), .int .i64 (.ofNat 15), .bool true] | false => [.int .i64 (.ofNat 0), .int .i64 (.ofNat 7), .bool (Nat.beq k 5)]
  | 2 => match Nat.beq k 3 with | true => [.int .i64 (.ofNat 0), .int .i64 (.ofNat 15), .bool true] | false => [.int .i64 (.ofNat 0), .int .i64 (.ofNat 7), .bool (Nat.beq k 6)]
  | 3 => match dMost k with | some m => [.int .i64 (.ofNat 0), .int .i64 (.ofNat m), .bool true] | none => [.int .i64 (.ofNat 0), .int .i64 (.ofNat 0), .bool false]
  | 4 => [.int .i64 (.negSucc 127), .int .i64 (.ofNat 127), .bool (match Nat.beq k 12 with | true => true | false => Nat.beq k 14)]
  | _ => [.int .i64 (.ofNat 0), .int .i64 (.ofNat 4294967295), .bool (match Nat.beq k 13 with | true => true | false => Nat.beq k 15)]
theorem goodS_range [Unk] (k w : Nat) : GoodS (rangeL k w) := by
  unfold rangeL
  repeat' split
  all_goals exact ⟨trivial, trivial, trivial, trivial⟩
set_option maxRecDepth 1000000 in
theorem range_ev (m : Int) : uptoB (fun w => uptoB (fun k => evalA Tryz.prog (G1 m) orcN 100000 49 [.int .i64 (.ofNat k), .int .i64 (.ofNat w)] (isRetT (rangeL k w))) 16) 6 = true := by kernel_rfl
def rangeRows (w : Nat) : Nat → List (List AV × AV)
  | 0 => []
  | k + 1 => ([.int .i64 (.ofNat k), .int .i64 (.ofNat w)], .tup (rangeL k w)) :: rangeRows w k
theorem rangeRows_mem {w : Nat} {pat : List AV} {v : AV} : ∀ {n : Nat}, (pat, v) ∈ rangeRows w n → ∃ k, k < n ∧ pat = [.int .i64 (.ofNat k), .int .i64 (.ofNat w)] ∧ v = .tup (rangeL k w)
  | 0, h => by cases h
  | n + 1, h => by
    simp only [rangeRows, List.mem_cons, Prod.mk.injEq] at h
    rcases h with ⟨rfl, rfl⟩ | h
    · exact ⟨n, by omega, rfl, rfl⟩
    · obtain ⟨k, h1, h2⟩ := rangeRows_mem h
      exact ⟨k, by omega, h2⟩
theorem row_range [Unk] {m : Int} {k w : Nat} (hk : k < 16) (hw : w < 6) : RowOK Tryz.prog (G1 m) 49 [.int .i64 (.ofNat k), .int .i64 (.ofNat w)] (.tup (rangeL k w)) := by
  intro W vs hG hd
  have hev := @uptoB_true (Unk.mk (nthI [])) _ _ (@uptoB_true (Unk.mk (nthI [])) _ _ (range_ev m) w hw) k hk
  match vs, hd with
  | [x, y], hd =>
    have hx : x = .int .i64 (.ofNat k) := hd.1
    have hy : y = .int .i64 (.ofNat w) := hd.2.1
    subst hx hy
    exact rowOK_tup (orcN_snd _) hev (.cons _ _ _ _ (.int _ _) (.cons _ _ _ _ (.int _ _) .nil)) (goodS_range k w) hG

/-! ### The runs. Unknowns: A, B, C, D, K, I, to, which -/
def u32b : Int × Int := (.ofNat 0, .ofNat 4294967295)
def fb (tb wb : Int × Int) : List (Int × Int) := [i64b, i64b, i64b, i64b, i64b, u32b, tb, wb]
def fx (op : AV) (bs : List (Int × Int)) : AV := .agg [op, lf .i64 bs 0, lf .i64 bs 1, lf .i64 bs 2, lf .i64 bs 3, lf .i64 bs 4, lf .u32 bs 5]
/-- With field w set to unknown 6. -/
def fy (op : AV) (w : Nat) (z : Bool) (bs : List (Int × Int)) : AV := match w with
  | 0 => .agg [op, lf .i64 bs 6, lf .i64 bs 1, lf .i64 bs 2, lf .i64 bs 3, lf .i64 bs 4, lf .u32 bs 5]
  | 1 => .agg [op, lf .i64 bs 0, lf .i64 bs 6, lf .i64 bs 2, lf .i64 bs 3, lf .i64 bs 4, lf .u32 bs 5]
  | 2 => .agg [op, lf .i64 bs 0, lf .i64 bs 1, lf .i64 bs 6, lf .i64 bs 3, lf .i64 bs 4, lf .u32 bs 5]
  | 3 => .agg [op, lf .i64 bs 0, lf .i64 bs 1, lf .i64 bs 2, lf .i64 bs 6, lf .i64 bs 4, lf .u32 bs 5]
  | 4 => .agg [op, lf .i64 bs 0, lf .i64 bs 1, lf .i64 bs 2, lf .i64 bs 3, lf .i64 bs 6, lf .u32 bs 5]
  | _ => .agg [op, lf .i64 bs 0, lf .i64 bs 1, lf .i64 bs 2, lf .i64 bs 3, lf .i64 bs 4, (match z with | true => .int .u32 (.ofNat 0) | false => lf .u32 bs 6)]
def spanAt (op w : Nat) : Int × Int := match nth (rt op) w with | some p => p | none => (.ofNat 0, .ofNat 0)
/-- Where 'to' lies: below the field's range, in it, above it; t = 3 (of I alone): above all words. -/
def tB (op w t : Nat) : Int × Int := match t with
  | 0 => (.negSucc 9223372036854775807, Int.sub (spanAt op w).1 (.ofNat 1))
  | 1 => spanAt op w
  | 2 => (Int.add (spanAt op w).2 (.ofNat 1), match w with | 5 => .ofNat 4294967295 | _ => .ofNat 9223372036854775807)
  | _ => (.ofNat 4294967296, .ofNat 9223372036854775807)
/-- Is y examined at all? -/
def tY (w t : Nat) : Bool := match w with
  | 5 => (match t with | 0 => false | 3 => false | _ => true)
  | _ => true
/-- Is I set to 0, the only number that it may have? -/
def tZ (op t : Nat) : Bool := match t with | 1 => ibeq (spanAt op 5).2 (.ofNat 0) | _ => false
def tR (t : Nat) : Int := match t with | 1 => .ofNat 0 | _ => .ofNat 6
def orcF (rows : List (List AV × AV)) (w : Nat) (f : Nat) : Option Orc := match Nat.beq f 15 with
  | true => some (.given [([], .bool true)])
  | false => match Nat.beq f 18 with
    | true => some (.given rows)
    | false => match Nat.beq f 49 with
      | true => some (.given (rangeRows w 16))
      | false => none
def fOp (op : Nat) : AV := .int .i64 (.ofNat op)
def rowsF (op w t : Nat) (bs : List (Int × Int)) : List (List AV × AV) := ([fx (fOp op) bs], .int .i64 (.ofNat 0)) :: (match tY w t with | true => [([fy (fOp op) w (tZ op t) bs], .int .i64 (tR t))] | false => [])
noncomputable def fRun (m : Int) (op w t : Nat) : Bool := evalA Tryz.prog (G1 m) (orcF (rowsF op w t (fb (tB op w t) i64b)) w) 100000 12 [fx (fOp op) (fb (tB op w t) i64b), .int .i64 (.ofNat w), lf .i64 (fb (tB op w t) i64b) 6] isTrue
/-- There is no such 'to': nothing to run. -/
def fNo (op w t : Nat) : Bool := match w with
  | 5 => (match t with | 2 => ile (.ofNat 4294967295) (spanAt op w).2 | _ => false)
  | _ => Nat.beq t 3
def isOpN (op : Nat) : Bool := match Nat.blt op 1 with | true => false | false => match Nat.ble op 61 with | true => true | false => match Nat.blt op 64 with | true => false | false => Nat.ble op 72
noncomputable def fAt (m : Int) (op : Nat) : Bool := match isOpN op with | false => true | true => uptoB (fun w => uptoB (fun t => match fNo op w t with | true => true | false => fRun m op w t) 4) 6
set_option maxRecDepth 1000000 in
theorem fields_ev0 (m : Int) : uptoB (fun i => fAt m (0 + i)) 12 = true := by kernel_rfl
set_option maxRecDepth 1000000 in
theorem fields_ev1 (m : Int) : uptoB (fun i => fAt m (12 + i)) 12 = true := by kernel_rfl
set_option maxRecDepth 1000000 in
theorem fields_ev2 (m : Int) : uptoB (fun i => fAt m (24 + i)) 12 = true := by kernel_rfl
set_option maxRecDepth 1000000 in
theorem fields_ev3 (m : Int) : uptoB (fun i => fAt m (36 + i)) 12 = true := by kernel_rfl
set_option maxRecDepth 1000000 in
theorem fields_ev4 (m : Int) : uptoB (fun i => fAt m (48 + i)) 12 = true := by kernel_rfl
set_option maxRecDepth 1000000 in
theorem fields_ev5 (m : Int) : uptoB (fun i => fAt m (60 + i)) 12 = true := by kernel_rfl
set_option maxRecDepth 1000000 in
theorem fields_ev6 (m : Int) : uptoB (fun i => fAt m (72 + i)) 12 = true := by kernel_rfl
theorem fields_ev (m : Int) {op : Nat} (h : op < 73) : fAt m op = true := by
  have e : op = 12 * (op / 12) + op % 12 := by omega
  have hm : op % 12 < 12 := by omega
  have hd : op / 12 < 7 := by omega
  rw [e]
  generalize op / 12 = q at hd ⊢
  generalize op % 12 = r at hm ⊢
  match q, hd with
  | 0, _ => exact @uptoB_true (Unk.mk (nthI [])) _ _ (fields_ev0 m) r hm
  | 1, _ => exact @uptoB_true (Unk.mk (nthI [])) _ _ (fields_ev1 m) r hm
  | 2, _ => exact @uptoB_true (Unk.mk (nthI [])) _ _ (fields_ev2 m) r hm
  | 3, _ => exact @uptoB_true (Unk.mk (nthI [])) _ _ (fields_ev3 m) r hm
  | 4, _ => exact @uptoB_true (Unk.mk (nthI [])) _ _ (fields_ev4 m) r hm
  | 5, _ => exact @uptoB_true (Unk.mk (nthI [])) _ _ (fields_ev5 m) r hm
  | 6, _ => exact @uptoB_true (Unk.mk (nthI [])) _ _ (fields_ev6 m) r hm
  | q + 7, h => omega
/-- x is no instruction; or 'which' is no field. -/
noncomputable def fOut (m : Int) (op : AV) (r : Int) (wb : Int × Int) : Bool := evalA Tryz.prog (G1 m) (orcF [([fx op (fb i64b wb)], .int .i64 r)] 0) 100000 12 [fx op (fb i64b wb), lf .i64 (fb i64b wb) 7, lf .i64 (fb i64b wb) 6] isTrue
set_option maxRecDepth 1000000 in
theorem out_ev (m : Int) : uptoB (fun op => match isOpN op with | false => true | true => match fOut m (fOp op) (.ofNat 6) i64b with | false => false | true => match fOut m (fOp op) (.ofNat 0) (.negSucc 9223372036854775807, .negSucc 0) with | false => false | true => fOut m (fOp op) (.ofNat 0) (.ofNat 6, .ofNat 9223372036854775807)) 73 = true := by kernel_rfl
end Go.Ev
