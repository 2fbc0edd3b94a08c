import Derived.Test.YtepopmplcjhfbaaGreatObHlw
import Derived.Test.YtepopmplcjhfbaaGreatObHkx
import Derived.Test.YtepopmplcjhfbaaGreatObHc2
import Derived.Test.YtepopmplcjhfbaaGreatObSane
import Derived.Shelf.Abstract
import Derived.Laws.EntriesVeiled
import Derived.Test.YtepopmplcjhfbaaGreatObHky
import Derived.Test.YtepopmplcjhfbaaGreatObGok
import Derived.WalkKit
set_option linter.unusedSectionVars false
set_option linter.unusedVariables false
set_option linter.unusedSimpArgs false
set_option linter.unnecessarySimpa false
/-
  Stage 3: ObjChecks' law.
-/
namespace Go.Ev
open Go.RowKit Go.Proofs Go.Rw
theorem objEq_refl (C : SecT → ByteArray) (a : ObjT) : ObjEq C a a := ⟨⟨rfl, fun k x y hx hy => by rw [hx] at hy; cases hy; exact ⟨rfl, rfl, rfl, rfl, rfl⟩⟩, rfl, rfl, rfl, rfl⟩
def TrueC (w : World) (e : Ending) (w' : World) : Prop := e = .returned (.bool true) ∧ Below w.heap.size w w'
set_option maxRecDepth 100000 in
set_option maxHeartbeats 40000000 in
theorem checks_calls {w : World} {u v : Value} {a b : ObjT} {C : SecT → ByteArray} (h : ObjAt w u a) (h' : ObjAt w v b) (hR : a.R) (hR' : b.R) (hC : ∀ x ∈ a.secs, SecIn w x.ba x.bn (C x)) (hC' : ∀ x ∈ b.secs, SecIn w x.ba x.bn (C x)) :
    Calls Tryz.prog 3 #[u, v] w (TrueC w) := by
  obtain ⟨s1, s2, s3, s4, s5, rfl, k1, k2, k3, k4, k5⟩ := id h
  obtain ⟨t1, t2, t3, t4, t5, rfl, m1, m2, m3, m4, m5⟩ := id h'
  have z : ∀ A B, Below w.heap.size w ((w.alloc A).alloc B) := fun A B => (one_below w A).alloc (by simp) B
  obtain ⟨W, hW⟩ : ∃ W, W = (w.alloc (.cells #[s1, s2, s3, s4, s5] 28)).alloc (.cells #[t1, t2, t3, t4, t5] 28) := ⟨_, rfl⟩
  have hbW : Below w.heap.size w W := by rw [hW]; exact z _ _
  have hB1 : W.heap[w.heap.size]? = some (.cells #[s1, s2, s3, s4, s5] 28 (0, 0)) := by rw [hW]; exact ((one_below _ _).block _ (by simp)).trans (heap_alloc_new w _)
  have hB2 : W.heap[w.heap.size + 1]? = some (.cells #[t1, t2, t3, t4, t5] 28 (0, 0)) := by rw [hW]; have := heap_alloc_new (w.alloc (.cells #[s1, s2, s3, s4, s5] 28)) (.cells #[t1, t2, t3, t4, t5] 28); rwa [World.size_alloc] at this
  have hlt : w.heap.size + 1 < W.heap.size := by rw [hW, World.size_alloc, World.size_alloc]; omega
  have up : ∀ W', Below W.heap.size W W' → Below w.heap.size w W' := fun W' hW' => hbW.trans (hW'.mono (by omega))
  have cells : ∀ W', Below W.heap.size W W' → (W'.cell? ⟨w.heap.size, 0, none⟩ = some s1 ∧ W'.cell? ⟨w.heap.size, 1, none⟩ = some s2 ∧ W'.cell? ⟨w.heap.size, 2, none⟩ = some s3 ∧ W'.cell? ⟨w.heap.size, 3, none⟩ = some s4 ∧ W'.cell? ⟨w.heap.size, 4, none⟩ = some s5) ∧
      W'.cell? ⟨w.heap.size + 1, 0, none⟩ = some t1 ∧ W'.cell? ⟨w.heap.size + 1, 1, none⟩ = some t2 ∧ W'.cell? ⟨w.heap.size + 1, 2, none⟩ = some t3 ∧ W'.cell? ⟨w.heap.size + 1, 3, none⟩ = some t4 ∧ W'.cell? ⟨w.heap.size + 1, 4, none⟩ = some t5 := fun W' hW' => by
    have e1 := (hW'.block _ (show w.heap.size < W.heap.size by omega)).trans hB1
    have e2 := (hW'.block _ hlt).trans hB2
    refine ⟨⟨?_, ?_, ?_, ?_, ?_⟩, ?_, ?_, ?_, ?_, ?_⟩ <;> simp [World.cell?, e1, e2]
  have hsm1 := fun W' (hW' : Below W.heap.size W W') => small_b (h.below (up W' hW')) hR
  have hsm2 := fun W' (hW' : Below W.heap.size W W') => small_b (h'.below (up W' hW')) hR'
  have hc1 := fun W' (hW' : Below W.heap.size W W') => pcheck_c (h.below (up W' hW')) hR
  have hc2 := fun W' (hW' : Below W.heap.size W W') => pcheck_c (h'.below (up W' hW')) hR'
  have hd1 := fun W' (hW' : Below W.heap.size W W') => rcheck_c (h.below (up W' hW')) hR
  have hd2 := fun W' (hW' : Below W.heap.size W W') => rcheck_c (h'.below (up W' hW')) hR'
  have hp := fun W' (hW' : Below W.heap.size W W') => psame_c (h.below (up W' hW')) (h'.below (up W' hW')) hR hR' (fun x hx => (hC x hx).below (up W' hW')) (fun x hx => (hC' x hx).below (up W' hW'))
  have hr := fun W' (hW' : Below W.heap.size W W') => rsame_c (h.below (up W' hW')) (h'.below (up W' hW')) hR hR' (fun x hx => (hC x hx).below (up W' hW')) (fun x hx => (hC' x hx).below (up W' hW'))
  have hq := fun W' (hW' : Below W.heap.size W W') => psame_c (h.below (up W' hW')) (h.below (up W' hW')) hR hR (fun x hx => (hC x hx).below (up W' hW')) (fun x hx => (hC x hx).below (up W' hW'))
  simp only [dec_yes (objEq_refl C a)] at hq
  generalize dec (ObjOk a) = q1 at hc1 hd1
  generalize dec (ObjOk b) = q2 at hc2 hd2
  generalize dec (ObjEq C a b) = q3 at hp hr
  unfold ErrR at hc1 hc2 hd1 hd2
  unfold BelR at hp hr hq
  generalize errV q1 = n1 at hc1 hd1
  generalize errV q2 = n2 at hc2 hd2
  have hW0 := Below.refl W.heap.size W
  clear h h' hC hC' hR hR' k1 k2 k3 k4 k5 m1 m2 m3 m4 m5 hB1 hB2
  go_enter Tryz.func3, Tryz.ntmps3
  go_wp2_with fail
  rw [← hW]
  clear hW
  refine (sane_calls _).mono ?_
  rintro e w1 ⟨rfl, hb1⟩
  obtain ⟨⟨e10, e11, e12, e13, e14⟩, f10, f11, f12, f13, f14⟩ := cells _ hb1
  go_wp2_with fail
  refine (hsm1 _ hb1).mono ?_
  rintro e w2 ⟨r, rfl, hb2⟩
  have hb2 := bel_then hb1 (Nat.le_refl _) hb2
  obtain ⟨⟨e20, e21, e22, e23, e24⟩, f20, f21, f22, f23, f24⟩ := cells _ hb2
  cases r
  · go_wp2
    go_ret
    exact ⟨rfl, up _ hb2⟩
  go_wp2_with fail
  refine (hsm2 _ hb2).mono ?_
  rintro e w3 ⟨r, rfl, hb3⟩
  have hb3 := bel_then hb2 (Nat.le_refl _) hb3
  obtain ⟨⟨e30, e31, e32, e33, e34⟩, f30, f31, f32, f33, f34⟩ := cells _ hb3
  cases r
  · go_wp2
    go_ret
    exact ⟨rfl, up _ hb3⟩
  clear e10 e11 e12 e13 e14 f10 f11 f12 f13 f14 e20 e21 e22 e23 e24 f20 f21 f22 f23 f24 hsm1 hsm2
  have up2 := fun d os => bel_then hb3 (Nat.le_refl _) (below_regrown w3 d os)
  have c1 := fun d os => hc1 _ (up2 d os)
  have c2 := fun d os => hc2 _ (up2 d os)
  have r1 := fun d os => hd1 _ (up2 d os)
  have r2 := fun d os => hd2 _ (up2 d os)
  have p1 := fun d os => hp _ (up2 d os)
  have p2 := fun d os => hr _ (up2 d os)
  have p3 := fun d os => hq _ (up2 d os)
  have x0 := fun d os => cell_regrown e30 d os
  have x1 := fun d os => cell_regrown e31 d os
  have x2 := fun d os => cell_regrown e32 d os
  have x3 := fun d os => cell_regrown e33 d os
  have x4 := fun d os => cell_regrown e34 d os
  have y0 := fun d os => cell_regrown f30 d os
  have y1 := fun d os => cell_regrown f31 d os
  have y2 := fun d os => cell_regrown f32 d os
  have y3 := fun d os => cell_regrown f33 d os
  have y4 := fun d os => cell_regrown f34 d os
  clear hc1 hc2 hd1 hd2 hp hr hq cells
  go_wp2_with fail
  refine wp_region_quiet_below (by kernel_rfl) (by kernel_rfl) ?_
  repeat (go_big_quiet_step (first | with_reducible exact Calls.regrown_of (c1 _ _) | with_reducible exact Calls.regrown_of (c2 _ _) | with_reducible exact Calls.regrown_of (r1 _ _) | with_reducible exact Calls.regrown_of (r2 _ _) | with_reducible exact Calls.regrown_of (p1 _ _) | with_reducible exact Calls.regrown_of (p2 _ _) | with_reducible exact Calls.regrown_of (p3 _ _)))
  refine wpQuiet_nil ?_
  intro _ hw'
  obtain ⟨⟨dq, osq⟩, hw''⟩ := hw'
  subst hw''
  have hb4 := up _ (bel_then hb3 (Nat.le_refl _) (below_regrown w3 dq osq))
  go_wp2
  go_ret
  exact ⟨rfl, hb4⟩
end Go.Ev

/-
  Stage 3: an object as an argument, opened with the bytes of its sections.
-/
namespace Go.Ev
open Go.ChangeShapes Go.WideShapes Go.ChangeAt Go.RowKit Go.Proofs Go.Deep Go.Rw
section
variable {H : Type} {enc : TypeId × Value → H} {w : World} {n : Nat}
theorem cellsB : Tryz.prog.cellsOf 5 = 1 := by kernel_rfl
theorem one_bytesC {v : Value} {y : DataW H × List MemPlace} (h : Rd enc w n 34 [v] y) (hw : ∀ k ∈ y.1.weights Tryz.prog 34, k ≤ reachBytes) : ∃ a len c, v = .slice a len c ∧ len ≤ 140737488351232 ∧ ∃ B, SecIn w a len B := by
  obtain ⟨a0, len0, c0, rfl, hle⟩ := one_bytes h hw
  refine ⟨a0, len0, c0, rfl, hle, ?_⟩
  rcases open_ints Tryz.underlying34 Tryz.underlying5 cellsB h with ⟨hcs, _⟩ | ⟨a, len, cap, zs, hcs, _, hl, hm, hz, hd, hcell, hwz⟩
  · simp at hcs
    obtain ⟨rfl, rfl, rfl⟩ := hcs
    exact ⟨_, .inl ⟨rfl, rfl⟩⟩
  · simp at hcs
    obtain ⟨rfl, rfl, rfl⟩ := hcs
    simp only [if_true] at hz
    by_cases h0 : len0 = 0
    · exact ⟨_, .inl ⟨h0, rfl⟩⟩
    · have hsp : a.spot = none := by
        have := hcell 0 (by omega)
        have e : a.add 0 = a := by unfold Addr.add; simp
        rw [e] at this
        cases hsp : a.spot with
        | none => rfl
        | some p =>
          unfold World.cell? at this
          split at this
          · rw [hsp] at this; cases this
          · cases this
      obtain ⟨blk, off, spot⟩ := a
      dsimp only at hsp
      subst hsp
      have hin : ∀ j, InB (zs.getD j 0) := fun j => by
        by_cases h : j < zs.length
        · have : zs.getD j 0 = zs[j] := by simp [List.getD, h]
          rw [this]
          have := hwz _ (List.getElem_mem h)
          simpa [Lit.wf, IntKind.min, IntKind.max, IntKind.signed, IntKind.bits, InB] using this
        · have : zs.getD j 0 = 0 := by simp [List.getD, List.getElem?_eq_none (Nat.le_of_not_lt h)]
          rw [this]
          exact ⟨Int.le_refl _, by omega⟩
      exact ⟨_, .inr ⟨blk, off, fun j => zs.getD j 0, rfl, rfl, hin, fun j hj => by rw [← hcell j (by omega), cell_add]⟩⟩
def SecRB (W : World) (x : SecT) : Prop := x.R ∧ ∃ B, SecIn W x.ba x.bn B
set_option maxRecDepth 100000 in
theorem read_secB {cs : List Value} {y : DataW H × List MemPlace} (hl : cs.length = 5) (h : Rd enc w n 66 cs y) (hw : ∀ k ∈ y.1.weights Tryz.prog 66, k ≤ reachBytes) : ∃ x : SecT, cs = x.cells ∧ SecRB w x := by
  match cs, hl with
  | [c0, c1, c2, c3, c4], _ =>
    obtain ⟨xs, n, _, rfl, _, hlen, hel⟩ := DataW.trod_struct Tryz.underlying66 h
    match xs, hlen with
    | [y0, y1, y2, y3, y4], _ =>
      have h0 := hel 0 _ rfl
      have h1 := hel 1 _ rfl
      have h2 := hel 2 _ rfl
      have h3 := hel 3 _ rfl
      have h4 := hel 4 _ rfl
      have w0 := fun k hk => hw k (weights_field Tryz.underlying66 (i := 0) rfl (d := y0.1) rfl k hk)
      have w3 := fun k hk => hw k (weights_field Tryz.underlying66 (i := 3) rfl (d := y3.1) rfl k hk)
      (try simp only [cells9] at h0); (try simp only [cells3] at h1); (try simp only [cells3] at h2); (try simp only [cells34] at h3); (try simp only [cells3] at h4)
      obtain ⟨n0, rfl, w0⟩ := one_str (show Rd enc w n 9 [c0] y0 from h0) w0
      obtain ⟨n1, rfl, w1⟩ := one_int Tryz.underlying3 (show Rd enc w n 3 [c1] y1 from h1)
      obtain ⟨n2, rfl, w2⟩ := one_int Tryz.underlying3 (show Rd enc w n 3 [c2] y2 from h2)
      obtain ⟨a3, n3, m3, rfl, w3, hB⟩ := one_bytesC (show Rd enc w n 34 [c3] y3 from h3) w3
      obtain ⟨n4, rfl, w4⟩ := one_int Tryz.underlying3 (show Rd enc w n 3 [c4] y4 from h4)
      exact ⟨⟨n0, n1, n2, a3, n3, m3, n4⟩, rfl, ⟨inI64_wf w1, inI64_wf w2, w3, inI64_wf w4, w0⟩, hB⟩
end
set_option maxRecDepth 100000 in
/-- An object as an argument, with the bytes of its sections. -/
theorem open_objB {H : Type} {enc : TypeId × Value → H} {W : World} {r : Go.Reach} {b0 : Nat} {v : Value} {d : DataW H} {p : List MemPlace} (hv : Value.okWide Tryz.prog W r b0 28 v) (h : DataW.Trod enc Tryz.prog W 0 (fun _ => true) true 28 v d p)
    (hw : ∀ k ∈ d.weights Tryz.prog 28, k ≤ reachBytes) : ∃ o : ObjT, ObjAt W v o ∧ o.R ∧ ∀ x ∈ o.secs, ∃ B, SecIn W x.ba x.bn B := by
  obtain ⟨cs, rfl, hsz⟩ := okWide_struct Tryz.underlying28 hv
  obtain ⟨l⟩ := cs
  have hsz : l.length = 5 := hsz.trans cells28
  obtain ⟨fuel, hf⟩ := h
  obtain ⟨xs, n, _, hd, _, hlen, hel⟩ := DataW.trod_struct Tryz.underlying28 hf
  match l, hsz, xs, hlen with
  | [c0, c1, c2, c3, c4], _, [y0, y1, y2, y3, y4], _ =>
    obtain rfl : d = .agg [y0.1, y1.1, y2.1, y3.1, y4.1] := (Prod.mk.inj hd).1
    have h0 := hel 0 _ rfl
    have h1 := hel 1 _ rfl
    have h2 := hel 2 _ rfl
    have h3 := hel 3 _ rfl
    have h4 := hel 4 _ rfl
    have w0 := fun k hk => hw k (weights_field Tryz.underlying28 (i := 0) rfl (d := y0.1) rfl k hk)
    have w1 := fun k hk => hw k (weights_field Tryz.underlying28 (i := 1) rfl (d := y1.1) rfl k hk)
    have w2 := fun k hk => hw k (weights_field Tryz.underlying28 (i := 2) rfl (d := y2.1) rfl k hk)
    have w3 := fun k hk => hw k (weights_field Tryz.underlying28 (i := 3) rfl (d := y3.1) rfl k hk)
    have w4 := fun k hk => hw k (weights_field Tryz.underlying28 (i := 4) rfl (d := y4.1) rfl k hk)
    simp only [Value.cells] at h0 h1 h2 h3 h4
    (try simp only [cells22] at h0); (try simp only [cells23] at h1); (try simp only [cells24] at h2); (try simp only [cells25] at h3); (try simp only [cells26] at h4)
    obtain ⟨l0, r0, q0, b0⟩ := open_rows Tryz.underlying22 cells66 (by omega) SecT.cells (SecRB W) (show Rd enc W n 22 [c0] y0 from h0) w0 (fun n cs y hl h hw => read_secB hl h hw)
    obtain ⟨l1, r1, q1, b1⟩ := open_rows Tryz.underlying23 cells68 (by omega) SymT.cells SymT.R (show Rd enc W n 23 [c1] y1 from h1) w1 (fun n cs y hl h hw => read_sym hl h hw)
    obtain ⟨l2, r2, q2, b2⟩ := open_rows Tryz.underlying24 cells94 (by omega) RelT.cells RelT.R (show Rd enc W n 24 [c2] y2 from h2) w2 (fun n cs y hl h hw => read_rel hl h)
    obtain ⟨l3, r3, q3, b3⟩ := open_rows (α := ByteArray) Tryz.underlying25 cells9 (by omega) fileCells fileR (show Rd enc W n 25 [c3] y3 from h3) w3 (fun n cs y hl h hw => by
      match cs, hl with
      | [c], _ =>
        obtain ⟨s, rfl, hs⟩ := one_str h hw
        exact ⟨s, rfl, hs⟩)
    obtain ⟨l4, r4, q4, b4⟩ := open_rows Tryz.underlying26 cells48 (by omega) LineT.cells LineT.R (show Rd enc W n 26 [c4] y4 from h4) w4 (fun n cs y hl h hw => read_line hl h)
    exact ⟨⟨l0, l1, l2, l3, l4⟩, ⟨c0, c1, c2, c3, c4, rfl, r0, r1, r2, r3, r4⟩, ⟨fun s hs => (q0 s hs).1, q1, q2, q3, q4, len_le bytes66 b0, len_le bytes68 b1, len_le bytes94 b2, len_le bytes9 b3, len_le bytes48 b4⟩, fun x hx => (q0 x hx).2⟩
open Classical in
/-- The bytes of a section in a world. -/
noncomputable def secStr (W : World) (x : SecT) : ByteArray := if h : ∃ B, SecIn W x.ba x.bn B then Classical.choose h else ⟨#[]⟩
theorem secStr_in {W : World} {x : SecT} (h : ∃ B, SecIn W x.ba x.bn B) : SecIn W x.ba x.bn (secStr W x) := by
  unfold secStr
  rw [dif_pos h]
  exact Classical.choose_spec h
end Go.Ev

