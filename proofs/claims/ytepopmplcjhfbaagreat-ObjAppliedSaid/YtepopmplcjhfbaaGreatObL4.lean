import Derived.Test.YtepopmplcjhfbaaGreatObLp
set_option linter.unusedSectionVars false
set_option linter.unusedVariables false
set_option linter.unusedSimpArgs false
/-
  Stage 3: the walk of the law ObjApplied, where the field is there, at one kind.
-/
namespace Go.Ev
open Go.RowKit Go.Proofs
set_option maxRecDepth 100000 in
set_option maxHeartbeats 1000000 in
theorem law_k4 {b o n cap off : Nat} {q : Nat → Int} {s add p : Int} {w : World} (hn : n ≤ 20000) (hle : n ≤ cap) (hcap : cap ≤ 140737488351232) (ha0 : -2147483648 ≤ add) (ha1 : add ≤ 2147483647) (hf : off + 4 ≤ n) (h4 : okR (s + add) 4 = true) (hs0 : 0 ≤ s) (hs1 : s ≤ 4294967295) (hp0 : 0 ≤ p) (hp1 : p ≤ 4294967295)
    (hc : ∀ j, j < n → w.cell? ⟨b, o + j, none⟩ = some (.int .u8 (q j))) :
    Calls Tryz.prog 12 #[.slice (some ⟨b, o, none⟩) n cap, .int .i64 off, .int .i64 4, .int .u32 s, .int .i64 add, .int .u32 p] w fun e w' => e = .returned (.bool true) ∧ Below w.heap.size w w' := by
  have hv : ∀ w, Calls Tryz.prog 148 #[.int .i64 4, .int .u32 s, .int .i64 add, .int .u32 p] w fun e w' => e = .returned (.tuple #[.int .u32 (((s + add) % 4294967296 - p) % 4294967296), .bool true]) ∧ w' = w := h4 ▸ value_calls (k := 4) hs0 hs1 ha0 ha1 hp0 hp1
  have hq : ∀ i, byteN (((s + add) % 4294967296 - p) % 4294967296) i = byteN (s + add - p) i := fun i => by
    unfold byteN
    split <;> omega
  have hR0 : 0 ≤ ((s + add) % 4294967296 - p) % 4294967296 := by omega
  have hR1 : ((s + add) % 4294967296 - p) % 4294967296 ≤ 4294967295 := by omega
  go_enter Tryz.func12, Tryz.ntmps12
  go_wp2_with fail
  refine (sane_calls _).mono ?_
  rintro e w1 ⟨rfl, hA1⟩
  obtain ⟨hc1, hf1⟩ := bcell hA1
  go_wp2_with fail
  have hcl1 : ∀ j, j < n → w1.cell? ⟨b, o + j, none⟩ = some (.int .u8 (q j)) := fun j hj => (hA1.cell (low_of_cell (hc j hj))).trans (hc j hj)
  refine (clone_some (by omega) hcl1).mono ?_
  rintro e w2 ⟨go, co, rfl, hgo, hOo, hB2⟩
  have hA2 := bel_then hA1 (Nat.le_refl _) hB2
  clear hc1 hf1 hB2 hA1 hcl1 hgo
  go_wp2_with fail
  have hcl2 : ∀ j, j < n → w2.cell? ⟨b, o + j, none⟩ = some (.int .u8 (q j)) := fun j hj => (hA2.cell (low_of_cell (hc j hj))).trans (hc j hj)
  refine (apply_k4 hn ha0 ha1 hf h4 hs0 hs1 hp0 hp1 hcl2).mono ?_
  rintro e w3 ⟨gx, cx, rfl, hgx, hOx, hB3⟩
  have hA3 := bel_then hA2 (Nat.le_refl _) hB3
  replace hOo := hOo.below hB3
  clear hB3 hA2 hcl2 hgx
  obtain ⟨hcox, hcox2⟩ := hOo.cap
  go_wp2_with fail
  have hcl3 : ∀ j, j < n → w3.cell? ⟨go, 0 + j, none⟩ = some (.int .u8 (q j)) := fun j hj => by rw [Nat.zero_add]; exact hOo.cell hj
  refine (rapply_4 (R := ((s + add) % 4294967296 - p) % 4294967296) hn (by decide) (by decide) ha0 ha1 hf (by decide) hv hR0 hR1 hcl3).mono ?_
  rintro e w4 ⟨gy, cy, rfl, hgy, hOy, hB4⟩
  have hA4 := bel_then hA3 (Nat.le_refl _) hB4
  replace hOo := hOo.below hB4
  replace hOx := hOx.below hB4
  rw [putB_eq hq] at hOy
  clear hB4 hA3 hcl3 hgy hv hR0 hR1
  go_wp2_with fail
  refine (bequal hOx.at hOy.at).mono ?_
  rintro e w5 ⟨rfl, rfl⟩
  have hcl5 : ∀ j, j < n → w5.cell? ⟨b, o + j, none⟩ = some (.int .u8 (q j)) := fun j hj => (hA4.cell (low_of_cell (hc j hj))).trans (hc j hj)
  go_wp2_with fail
  refine (bequal (.inr ⟨b, o, rfl, hcl5⟩) hOo.at).mono ?_
  rintro e w6 ⟨rfl, rfl⟩
  clear hOo hOy hq
  go_wp2_with fail
  have hW : ∀ w, Calls Tryz.prog 52 #[.int .i64 4] w fun e w' => e = .returned (.int .i64 4) ∧ w' = w := width_calls 4
  refine (hW _).mono ?_
  rintro e w7 ⟨rfl, rfl⟩
  clear hW
  obtain ⟨hcx, hcx2⟩ := hOx.cap
  unfold maxLen at hcx2
  go_wp2_with fail
  have E1 : ∀ N, Calls Tryz.prog 23 #[.slice (some ⟨gx, 0, none⟩) off cx, .slice (some ⟨b, o, none⟩) off cap] (w7.drewN N) fun e w' => e = .returned (.bool true) ∧ w' = w7.drewN N := fun N =>
    bequal (q := q) (.inr ⟨gx, 0, rfl, fun j hj => by rw [Nat.zero_add]; exact (hOx.cell (j := j) (by omega)).trans (by rw [putB_low hj])⟩) (.inr ⟨b, o, rfl, fun j hj => hcl5 j (by omega)⟩)
  have E2 : ∀ N, Calls Tryz.prog 23 #[.slice (if cx = off + 4 then some ⟨gx, 0, none⟩ else some ⟨gx, off + 4, none⟩) (n - (off + 4)) (cx - (off + 4)), .slice (if cap = off + 4 then some ⟨b, o, none⟩ else some ⟨b, o + (off + 4), none⟩) (n - (off + 4)) (cap - (off + 4))] (w7.drewN N) fun e w' => e = .returned (.bool true) ∧ w' = w7.drewN N := fun N => by
    have h1 := BytesAt.tail (w := w7) (b := gx) (o := 0) (cap := cx) (i := off + 4) (q := putB q off 4 (byteN (s + add - p))) (fun j hj => by rw [Nat.zero_add]; exact hOx.cell hj) hf hcx
    have h2 := BytesAt.tail (cap := cap) (i := off + 4) hcl5 hf hle
    rw [Nat.zero_add] at h1
    exact bequal (h1.drewN N) ((h2.congr fun j _ => (putB_high (by omega)).symm).drewN N)
  have f1 : off ≤ cx := by omega
  have f2 : off ≤ cap := by omega
  have f3 : (off : Int) + 4 ≤ n := by omega
  have f4 : off + 4 ≤ cx := by omega
  have f5 : off + 4 ≤ cap := by omega
  have f6 : (off : Int) + 4 ≤ cx := by omega
  have f7 : (off : Int) + 4 ≤ cap := by omega
  go_quiet (first | exact Calls.quiet_of_same (E1 _) | exact Calls.quiet_of_same (E2 _))
  clear E1 E2 f4 f5 f7
  have hA5 : Below w.heap.size w (w7.drewN nq) := hA4.trans ⟨rfl, rfl, rfl, Nat.le_refl _, fun _ _ => rfl⟩
  have hO8 : OwnB (w7.drewN nq) gx n cx (putB q off 4 (byteN (s + add - p))) := hOx
  clear hOx hcl5 hA4
  generalize w7.drewN nq = w8 at *
  have hx0 : w8.cell? ⟨gx, off, none⟩ = some (.int .u8 ((s + add - p) % 256)) := (hO8.cell (j := off) (by omega)).trans (by rw [show putB q off 4 (byteN (s + add - p)) (off) = byteN (s + add - p) 0 from putB_in (j := 0) (by omega)]; rfl)
  have hx1 : w8.cell? ⟨gx, off + 1, none⟩ = some (.int .u8 ((s + add - p) / 256 % 256)) := (hO8.cell (j := off + 1) (by omega)).trans (by rw [show putB q off 4 (byteN (s + add - p)) (off + 1) = byteN (s + add - p) 1 from putB_in (j := 1) (by omega)]; rfl)
  have hx2 : w8.cell? ⟨gx, off + 2, none⟩ = some (.int .u8 ((s + add - p) / 65536 % 256)) := (hO8.cell (j := off + 2) (by omega)).trans (by rw [show putB q off 4 (byteN (s + add - p)) (off + 2) = byteN (s + add - p) 2 from putB_in (j := 2) (by omega)]; rfl)
  have hx3 : w8.cell? ⟨gx, off + 3, none⟩ = some (.int .u8 ((s + add - p) / 16777216 % 256)) := (hO8.cell (j := off + 3) (by omega)).trans (by rw [show putB q off 4 (byteN (s + add - p)) (off + 3) = byteN (s + add - p) 3 from putB_in (j := 3) (by omega)]; rfl)
  have ho0 : bits .or .i64 0 ((s + add - p) % 256) = (s + add - p) % 256 := or_i64_0 _ (by omega) (by omega)
  have ho1 := or_i64_8 (s + add - p)
  have ho2 := or_i64_16 (s + add - p)
  have ho3 := or_i64_24 (s + add - p)
  have hm := and_i64_32 (s + add - p)
  generalize (if cx = off + 4 then (some ⟨gx, 0, none⟩ : Option Addr) else some ⟨gx, off + 4, none⟩) = A1
  generalize (if cap = off + 4 then (some ⟨b, o, none⟩ : Option Addr) else some ⟨b, o + (off + 4), none⟩) = A2
  go_wp2_with fail
  refine wp_loop_rounds 5 ?_
  rw [rounds_succ]
  go_wp2_with fail
  rw [rounds_succ]
  go_wp2_with fail
  rw [rounds_succ]
  go_wp2_with fail
  rw [rounds_succ]
  go_wp2_with fail
  rw [rounds_succ]
  go_wp2_with fail
  have hcl8 : ∀ j, j < n → w8.cell? ⟨gx, 0 + j, none⟩ = some (.int .u8 (putB q off 4 (byteN (s + add - p)) j)) := fun j hj => by rw [Nat.zero_add]; exact hO8.cell hj
  refine (apply_k4 hn ha0 ha1 hf h4 hs0 hs1 hp0 hp1 hcl8).mono ?_
  rintro e w9 ⟨gz, cz, rfl, hgz, hOz, hB9⟩
  rw [putB_twice] at hOz
  have hA9 := bel_then hA5 (Nat.le_refl _) hB9
  have hO9 := hO8.below hB9
  clear hx0 hO8 hcl8 hB9 hgz
  go_wp2_with fail
  refine (bequal hO9.at hOz.at).mono ?_
  rintro e w10 ⟨rfl, rfl⟩
  go_wp2
  go_ret
  exact ⟨rfl, hA9⟩
end Go.Ev
