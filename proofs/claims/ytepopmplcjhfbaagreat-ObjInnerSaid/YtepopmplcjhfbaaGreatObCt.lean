import Derived.Test.YtepopmplcjhfbaaGreatObCs
set_option linter.unusedSectionVars false
set_option linter.unusedVariables false
set_option linter.unusedSimpArgs false
set_option linter.unnecessarySimpa false
/-
  Stage 3: the symbols.
-/
namespace Go.Ev
open Go.RowKit Go.Proofs Go.Rw
/-- What the symbols' check answers. -/
def SymsR (o : ObjT) (w : World) (e : Ending) (w' : World) : Prop := ∃ r : Bool, e = .returned (.bool r) ∧ Below w.heap.size w w' ∧ (r = true → o.syms.length ≤ 500 ∧ ∀ x ∈ o.syms, x.sec < (o.secs.length : Int))
theorem syms_no {o : ObjT} {w w' : World} (h : Below w.heap.size w w') : SymsR o w (.returned (.bool false)) w' := ⟨_, rfl, h, by simp⟩
set_option maxRecDepth 100000 in
set_option maxHeartbeats 2000000 in
theorem symbols_b {w : World} {v : Value} {o : ObjT} (h : ObjAt w v o) (hR : o.R) : Calls Tryz.prog 136 #[v] w (SymsR o w) := by
  obtain ⟨s1, s2, s3, s4, s5, rfl, k1, k2, k3, k4, k5⟩ := id h
  obtain ⟨a2, c2, rfl⟩ := rows_slice k2
  have hR2 := hR.2.1
  have hn2 := hR.2.2.2.2.2.2.1
  have z1 : ∀ A, Below w.heap.size w (w.alloc A) := fun A => (Below.refl w.heap.size w).alloc (Nat.le_refl _) A
  clear k1 k3 k4 k5
  go_enter Tryz.func136, Tryz.ntmps136
  go_wp2
  all_goals try (go_ret; exact syms_no (z1 _))
  have hl5 : o.syms.length ≤ 500 := by omega
  go_loopw [3] (fun i wr => ∃ k : Nat, k ≤ o.syms.length ∧ i = .int .i64 k ∧ Below (w.alloc (.cells #[s1, .slice a2 o.syms.length c2, s3, s4, s5] 28)).heap.size (w.alloc (.cells #[s1, .slice a2 o.syms.length c2, s3, s4, s5] 28)) wr ∧ (∀ j x, j < k → o.syms[j]? = some x → x.sec < (o.secs.length : Int))) (fun i _ => o.syms.length - (intOf i).toNat)
  case atStart => exact ⟨0, by omega, rfl, Below.refl _ _, fun j x hj => by omega⟩
  case round =>
    obtain ⟨k, hk, rfl, hbl, h1⟩ := hrel
    have hbw := bel_then (z1 _) (Nat.le_refl _) hbl
    have b0 := (hbl.cell (p := ⟨w.heap.size, 0, none⟩) (by simp)).trans (new_cell w _ 28 0 _ rfl)
    have b1 := (hbl.cell (p := ⟨w.heap.size, 1, none⟩) (by simp)).trans (new_cell w _ 28 1 _ rfl)
    have b2 := (hbl.cell (p := ⟨w.heap.size, 2, none⟩) (by simp)).trans (new_cell w _ 28 2 _ rfl)
    have b3 := (hbl.cell (p := ⟨w.heap.size, 3, none⟩) (by simp)).trans (new_cell w _ 28 3 _ rfl)
    have b4 := (hbl.cell (p := ⟨w.heap.size, 4, none⟩) (by simp)).trans (new_cell w _ 28 4 _ rfl)
    by_cases hlt : k < o.syms.length
    · obtain ⟨b, of, rfl⟩ := rows_some2 k2 hlt
      obtain ⟨⟨xn, xs, xv, xz, xb, xk⟩, hx⟩ : ∃ x, o.syms[k]? = some x := ⟨o.syms[k], by simp [hlt]⟩
      have hxR := hR2 _ (List.mem_of_getElem? hx)
      have hlt' : (k : Int) < (o.syms.length : Int) := by omega
      have hO := h.below hbw
      obtain ⟨g0, g1, g2, g3, g4, g5⟩ := rows_sym (k2.below hbw) hx
      dsimp only at g0 g1 g2 g3 g4 g5
      have hsym := fun w' (hw : ObjAt w' (.agg #[s1, .slice (some ⟨b, of, none⟩) o.syms.length c2, s3, s4, s5]) o) => symbol_b hw hR _ hxR
      dsimp only [SymT.v] at hsym
      have hnm := fun w' => is_name (w := w') xn hxR.2.2.2.2.2
      unfold NmR at hnm
      generalize nameV xn = nv at hnm
      have hx := Lib.hid hx
      have h1 := Lib.hid h1
      have hOd : ObjAt wr.drew _ o := hO.below (Below.refl _ _).drew
      go_wp2_with fail
      cases nv
      · go_quiet (exact Calls.quiet_of_same (hnm _))
        go_wp2
        go_ret
        exact syms_no (below_drewN hbw _)
      · go_region_held3 (fun w' => w'.cell? ⟨w.heap.size, 0, none⟩ = some s1 ∧ w'.cell? ⟨w.heap.size, 1, none⟩ = some (.slice (some ⟨b, of, none⟩) o.syms.length c2) ∧ w'.cell? ⟨w.heap.size, 2, none⟩ = some s3 ∧ w'.cell? ⟨w.heap.size, 3, none⟩ = some s4 ∧ w'.cell? ⟨w.heap.size, 4, none⟩ = some s5 ∧
              w'.cell? ⟨b, of + k * 6, none⟩ = some (.string xn) ∧ w'.cell? ⟨b, of + k * 6 + 1, none⟩ = some (.int .i64 xs) ∧ w'.cell? ⟨b, of + k * 6 + 2, none⟩ = some (.int .u32 xv) ∧ w'.cell? ⟨b, of + k * 6 + 3, none⟩ = some (.int .i64 xz) ∧ w'.cell? ⟨b, of + k * 6 + 4, none⟩ = some (.int .i64 xb) ∧ w'.cell? ⟨b, of + k * 6 + 5, none⟩ = some (.int .i64 xk))
            (first
              | go_keep
              | (go_split_ands
                 refine ⟨?_, ?_, ?_, ?_, ?_, ?_, ?_, ?_, ?_, ?_, ?_⟩ <;> (rw [hb2.cell (low_of_cell (by assumption))]; assumption)))
            (first
              | (go_simp; go_at_call 218; refine (hnm _).mono ?_; rintro e w2 ⟨rfl, rfl⟩)
              | (go_simp; go_at_call 219; refine (hsym _ (by assumption)).mono ?_; rintro e w2 ⟨r2, rfl, hb2, hr2⟩))
        all_goals go_wp2
        · go_ret
          exact syms_no (bel_then hbw.drew (Nat.le_refl _) hb2)
        · obtain rfl : r2 = true := by cases r2 <;> simp_all
          have hr2 := hr2 rfl
          have hbl2 := bel_then hbl.drew (Nat.le_refl _) (hb2.mono (by have := hbl.size; simpa using this))
          clear hb2 hbl b0 b1 b2 b3 b4 g0 g1 g2 g3 g4 g5 hO hOd hsym hnm hbw
          obtain ⟨wo, rfl⟩ : ∃ wo : World, wo = wr := ⟨_, rfl⟩
          go_loopw [4] (fun i wr => ∃ j : Nat, j ≤ k ∧ i = .int .i64 j ∧ Below (w.alloc (.cells #[s1, .slice (some ⟨b, of, none⟩) o.syms.length c2, s3, s4, s5] 28)).heap.size (w.alloc (.cells #[s1, .slice (some ⟨b, of, none⟩) o.syms.length c2, s3, s4, s5] 28)) wr) (fun i _ => k - (intOf i).toNat)
          case atStart => exact ⟨0, by omega, rfl, hbl2⟩
          case round =>
            obtain ⟨j, hj, rfl, hbj⟩ := hrel
            have hbw := bel_then (z1 _) (Nat.le_refl _) hbj
            have b1 := (hbj.cell (p := ⟨w.heap.size, 1, none⟩) (by simp)).trans (new_cell w _ 28 1 _ rfl)
            by_cases hjk : j < k
            · obtain ⟨⟨yn, ys, yv, yz, yb, yk⟩, hy⟩ : ∃ y, o.syms[j]? = some y := ⟨o.syms[j], by simp [Nat.lt_trans hjk hlt]⟩
              obtain ⟨p0, _, _, _, _, _⟩ := rows_sym (k2.below hbw) hy
              obtain ⟨q0, _, _, _, _, _⟩ := rows_sym (k2.below hbw) hx.out
              dsimp only at p0 q0
              have hj' : (j : Int) < (o.syms.length : Int) := by omega
              go_wp2
              go_quiet (fail)
              go_wp2
              · go_ret
                exact syms_no (below_drewN hbw _)
              · go_roundw
                case rel => (repeat apply Exists.intro); refine ⟨⟨j + 1, by omega, ?hh, below_drewN hbj _⟩, ?ff⟩; (case ff => rfl); (case hh => go_num)
                case measure => simp [intOf]; omega
            · go_wp2
              go_roundw
              case rel =>
                refine ⟨k + 1, by omega, by go_num, hbj, fun i x hi hx' => ?_⟩
                by_cases hik : i < k
                · exact h1.out i x hik hx'
                · obtain rfl : i = k := by omega
                  rw [hx.out] at hx'
                  cases hx'
                  exact hr2
              case measure => simp [intOf]; omega
    · have : k = o.syms.length := by omega
      subst this
      go_wp2
      go_ret
      refine ⟨_, rfl, hbw, fun _ => ⟨hl5, fun x hx => ?_⟩⟩
      obtain ⟨j, hj⟩ := List.getElem?_of_mem hx
      exact h1 j x (List.getElem?_eq_some_iff.1 hj).1 hj
end Go.Ev
