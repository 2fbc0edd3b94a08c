import Derived.Test.YtmiccmelipbakaaGreatDoorSaneOr
import Derived.Test.YtmiccmelipbakaaGreatDoorSaneSh
import Derived.Test.YtmiccmelipbakaaGreatDoorSaneEv
set_option linter.unusedSectionVars false
set_option linter.unusedVariables false
set_option linter.unusedSimpArgs false
namespace Go.Ev
open Go.RowKit Go.Proofs
theorem beqF {a b : Nat} (h : Nat.beq a b = true) : a = b := Nat.eq_of_beq_eq_true h
theorem G1_zero (m : Int) : G1 m 0 0 = some (.int .i64 m) := rfl
theorem fn70 : ∃ fn c, Tryz.prog.funcs[70]? = some fn ∧ (fn.name == "runtime.NumGoroutine") = false ∧ fn.body = some c := ⟨_, _, Tryz.func70, by kernel_rfl, rfl⟩
theorem fn148 : ∃ fn c, Tryz.prog.funcs[148]? = some fn ∧ (fn.name == "runtime.NumGoroutine") = false ∧ fn.body = some c := ⟨_, _, Tryz.func148, by kernel_rfl, rfl⟩
theorem run_enters {P : Program} {f : Nat} (h : ∃ fn c, P.funcs[f]? = some fn ∧ (fn.name == "runtime.NumGoroutine") = false ∧ fn.body = some c) (args : Array Value) (w : World) : (callFunc f args).run P w = .ok (.enter f args) w := by
  obtain ⟨fn, c, h1, h2, h3⟩ := h
  have hne : ¬ fn.name = "runtime.NumGoroutine" := by simpa using h2
  simp [callFunc, h1, hne, h3]
theorem run188 (args : Array Value) (w : World) : (callFunc 188 args).run Tryz.prog w = ((Extern.BytealgIndexByte.indexByte args).run Tryz.prog w).andThen fun v w' => .ok (.value v) w' :=
  run_callFunc_extern Tryz.func188 (by kernel_rfl) rfl (by kernel_rfl) (by kernel_rfl) args w
theorem orc1_snd [Unk] (m : Int) : OrcSound Tryz.prog (G1 m) orc1 := by
  intro f oc H avs v hf hv ρ nx lo N w vs hI hvs
  unfold orc1 at hf
  split at hf
  · -- strings.Join
    rename_i h70
    have h70 := beqF h70
    subst h70
    cases hf
    obtain ⟨id, off, n, cap, sep, c, m', e, tail, l, r, rfl, ho, hl, hg, rfl, hj, hn, hr⟩ := hv
    refine .inr ⟨run_enters fn70 _ _, ?_⟩
    cases hvs with
    | cons _ sv _ _ h1 h2 =>
      cases h2 with
      | cons _ pv _ _ h3 h4 =>
        cases h4
        cases h3 with
        | str _ sb hsb =>
          subst hsb
          have key : ∀ {b sz cc : Nat}, ρ id = some (b, sz) → n ≤ cc → Calls Tryz.prog 70 #[.slice (some ⟨b, off, none⟩) n cc, .string sb] w fun e w' => ∃ u, e = .returned u ∧ VR ρ (.str r) u ∧ Below w.heap.size w w' := by
            intro b sz cc hrho hcc
            obtain ⟨ws, k1, k2, k3⟩ := getMany_vrs hI ho hl hg hrho
            obtain ⟨xs, e1, e2⟩ := joinV_join k1 hj
            have hlen : xs.length = n := by rw [← k2, e1]; simp
            obtain ⟨b', sz', cs, e', _, _, g1, _, g3, _⟩ := hI.cells ho
            rw [hrho] at g1; simp at g1; obtain ⟨rfl, rfl⟩ := g1
            have := Tryz.strings_Join b off cc xs sb w (fun j x hx => k3 j _ (by rw [e1, List.getElem?_map, hx]; rfl)) (getElem?_lt g3) (by omega) (by omega) (by have := hr; rw [e2, List.length_map] at this; exact this)
            rw [hlen] at this
            refine Calls.mono this fun e w' he => ?_
            obtain ⟨rfl, hb⟩ := he
            exact ⟨_, rfl, .str _ _ (by rw [e2]), hb⟩
          cases h1 with
          | sliceK _ _ _ cc b sz hrho hcc => exact key hrho hcc
          | sliceU _ _ _ s cc b sz hrho hcc _ => exact key hrho hcc
  · split at hf
    · -- stringslite.Index
      rename_i h148
      have h148 := beqF h148
      subst h148
      cases hf
      obtain ⟨s, sub, rfl, hlt, hv⟩ := hv
      refine .inr ⟨run_enters fn148 _ _, ?_⟩
      cases hvs with
      | cons _ sv _ _ h1 h2 =>
        cases h2 with
        | cons _ pv _ _ h3 h4 =>
          cases h4
          cases h1 with
          | str _ sb hsb =>
            cases h3 with
            | str _ tb htb =>
              subst hsb htb
              obtain ⟨_, u, hu, hvu⟩ := hI.glob 0 0 _ (G1_zero m)
              cases hvu
              rw [gp_low (by omega)] at hu
              have hsz : sb.size < 4294967281 := by rw [← size_bytes]; exact hlt
              refine Calls.mono (Tryz.stringslite_Index sb tb m w hsz hu) fun e w' he => ?_
              obtain ⟨rfl, rfl⟩ := he
              exact ⟨_, rfl, vr_idx hv (idxL_index _ _), Below.refl _ _⟩
    · split at hf
      · -- bytealg.IndexByteString
        rename_i h188
        have h188 := beqF h188
        subst h188
        cases hf
        obtain ⟨s, c, rfl, hlt, hv⟩ := hv
        refine .inl ?_
        cases hvs with
        | cons _ sv _ _ h1 h2 =>
          cases h2 with
          | cons _ pv _ _ h3 h4 =>
            cases h4
            cases h1 with
            | str _ sb hsb =>
              cases h3
              subst hsb
              have hrun := Lib.run_indexByteString (P := Tryz.prog) sb (c : Int) w
              refine ⟨.int .i64 (Lib.indexByte sb.data.toList (UInt8.ofNat c)), ?_, ?_⟩
              · rw [run188]
                show ((Extern.BytealgIndexByte.indexByte #[.string sb, .int .u8 (c : Int)]).run Tryz.prog w).andThen _ = _
                rw [hrun]; rfl
              · refine vr_idx hv ?_
                rw [← index_one, ← idxL_index]
                have : (UInt8.ofNat c).toNat = c := by simp [Nat.mod_eq_of_lt hlt]
                simp [this]
      · cases hf
/-- sane() returns true, in every world that bears the table of math/bits and any MaxLen. -/
theorem sane_ok [Unk] {m : Int} {w : World} (hG : Globals (G1 m) w) : Calls Tryz.prog 15 #[] w fun e w' => e = .returned (.bool true) ∧ Below w.heap.size w w' := sane_calls (orc1_snd m) hG
end Go.Ev
