import Derived.Test.YtecebagkbjimmaaGreatDoorIsaX
set_option linter.unusedSectionVars false
set_option linter.unusedVariables false
set_option linter.unusedSimpArgs false
/-
  The law IsaSizes returns true.
-/
namespace Go.Ev
open Go.RowKit Go.Proofs

/-- n: below 0; from the length on; or a number in between. -/
def szB (x : XK) (t : Nat) : Int × Int := match t with
  | 0 => (.negSucc 9223372036854775807, .negSucc 0)
  | 1 => (.ofNat (xlen x), .ofNat 9223372036854775807)
  | _ + 2 => i64b
def szN (bs : List (Int × Int)) (t : Nat) : AV := match t with
  | 0 => lf .i64 bs 22
  | 1 => lf .i64 bs 22
  | n + 2 => .int .i64 (.ofNat n)
def szBs (x y : XK) (t : Nat) : List (Int × Int) := xb x ++ (xb y ++ [szB x t])
def orcS (x y : XK) (bs : List (Int × Int)) (f : Nat) : Option Orc := match Nat.beq f 15 with
  | true => some (.given [([], .bool true)])
  | false => match Nat.beq f 18 with
    | true => some (.given [([xa 0 x bs], .int .i64 (xret x)), ([xa 11 y bs], .int .i64 (xret y))])
    | false => none
noncomputable def szRun (m : Int) (x y : XK) (t : Nat) : Bool := evalA Tryz.prog (G1 m) (orcS x y (szBs x y t)) 100000 14 [xa 0 x (szBs x y t), xa 11 y (szBs x y t), szN (szBs x y t) t] isTrue
set_option maxRecDepth 1000000 in
theorem sizes_ev (m : Int) (x y : XK) : uptoB (szRun m x y) (2 + xlen x) = true := by
  cases x <;> cases y <;> kernel_rfl
theorem sizes_calls {m : Int} {w : World} (hG : GlobU m w) {x y : XK} {o a b c d k i o' a' b' c' d' k' i' n : Int} (hx : IsX x o a b c d k i) (hy : IsX y o' a' b' c' d' k' i') (hn : inI64 n) :
    Calls Tryz.prog 14 #[insnV o a b c d k i, insnV o' a' b' c' d' k' i', .int .i64 n] w fun e w' => e = .returned (.bool true) ∧ Below w.heap.size w w' := by
  unfold inI64 at hn
  obtain ⟨t, ht, hb, hv⟩ : ∃ t, t < 2 + xlen x ∧ ((szB x t).1 ≤ n ∧ n ≤ (szB x t).2) ∧ (t < 2 ∨ (n = ((t - 2 : Nat) : Int) ∧ 2 ≤ t)) := by
    by_cases h1 : n < 0
    · exact ⟨0, by omega, ⟨hn.1, by show n ≤ -1; omega⟩, .inl (by omega)⟩
    · by_cases h2 : (xlen x : Int) ≤ n
      · exact ⟨1, by omega, ⟨h2, hn.2⟩, .inl (by omega)⟩
      · refine ⟨n.toNat + 2, by omega, hn, .inr ⟨by omega, by omega⟩⟩
  have hw : Ins (xl x o a b c d k i ++ (xl y o' a' b' c' d' k' i' ++ [n])) (szBs x y t) :=
    ins_append (by rw [xl_len, xb_len]) (ins_xl hx) (ins_append (by rw [xl_len, xb_len]) (ins_xl hy) ⟨hb, trivial⟩)
  have hLx : ∀ j, j < 11 → nthI (xl x o a b c d k i ++ (xl y o' a' b' c' d' k' i' ++ [n])) (0 + j) = nthI (xl x o a b c d k i) j := fun j hj => by
    rw [Nat.zero_add, nthI_left (by rw [xl_len]; exact hj)]
  have hLy : ∀ j, j < 11 → nthI (xl x o a b c d k i ++ (xl y o' a' b' c' d' k' i' ++ [n])) (11 + j) = nthI (xl y o' a' b' c' d' k' i') j := fun j hj => by
    have e := nthI_right (l := xl x o a b c d k i) (l' := xl y o' a' b' c' d' k' i' ++ [n]) j
    rw [xl_len] at e
    rw [e, nthI_left (by rw [xl_len]; exact hj)]
  have hLn : nthI (xl x o a b c d k i ++ (xl y o' a' b' c' d' k' i' ++ [n])) 22 = n := by
    have e := nthI_right (l := xl x o a b c d k i) (l' := xl y o' a' b' c' d' k' i' ++ [n]) 11
    rw [xl_len] at e
    have e' := nthI_right (l := xl y o' a' b' c' d' k' i') (l' := [n]) 0
    rw [xl_len] at e'
    exact e.trans e'
  have rx := row_check (m := m) hw hx hLx
  have ry := row_check (m := m) hw hy hLy
  have vx := vr_xa hw hx hLx (fun _ => none)
  have vy := vr_xa hw hy hLy (fun _ => none)
  have vn : @VR (Unk.mk (nthI (xl x o a b c d k i ++ (xl y o' a' b' c' d' k' i' ++ [n])))) (fun _ => none) (szN (szBs x y t) t) (.int .i64 n) := by
    match t, hv with
    | 0, _ => exact vr_lf hw _ hLn _
    | 1, _ => exact vr_lf hw _ hLn _
    | j + 2, hv =>
      have e : n = (j : Int) := by omega
      subst e
      exact @VR.int (Unk.mk _) _ _ _
  have hev := @uptoB_true (Unk.mk (nthI [])) _ _ (sizes_ev m x y) t ht
  generalize hLL : xl x o a b c d k i ++ (xl y o' a' b' c' d' k' i' ++ [n]) = L at *
  letI : Unk := Unk.mk (nthI L)
  have hO : OrcSound Tryz.prog (G1 m) (orcS x y (szBs x y t)) := orcSound_given fun f oc hf => by
    unfold orcS at hf
    split at hf
    · rename_i h15
      have h15 := beqF h15
      subst h15
      cases hf
      refine ⟨_, rfl, hb15, fun pat v hm => ?_⟩
      simp only [List.mem_cons, List.not_mem_nil, or_false, Prod.mk.injEq] at hm
      obtain ⟨rfl, rfl⟩ := hm
      exact row_sane m
    · split at hf
      · rename_i h18
        have h18 := beqF h18
        subst h18
        cases hf
        refine ⟨_, rfl, hb18, fun pat v hm => ?_⟩
        simp only [List.mem_cons, List.not_mem_nil, or_false, Prod.mk.injEq] at hm
        rcases hm with ⟨rfl, rfl⟩ | ⟨rfl, rfl⟩
        · exact rx
        · exact ry
      · cases hf
  exact true_of_eval hO hev (.cons _ _ _ _ vx (.cons _ _ _ _ vy (.cons _ _ _ _ vn .nil))) (hG _)
end Go.Ev
