import Derived.Test.YtepopmplcjhfbaaGreatObHrc
import Derived.Test.YtepopmplcjhfbaaGreatObGvw
import Derived.Deep.CutRange
set_option linter.unusedSectionVars false
set_option linter.unusedVariables false
set_option linter.unusedSimpArgs false
set_option linter.unnecessarySimpa false
/-
  Stage 3: the specification's Pack.
-/
namespace Go.Ev
open Go.RowKit Go.Proofs Go.Rw
theorem OwnS.form2 {W : World} {base : Nat} {ob : Option Nat} {v : Value} {xs : List Value} (h : OwnS W base ob v xs) : ∃ a L c, v = .slice a L c ∧ L = xs.length := by
  obtain ⟨a, c, rfl⟩ := h.form
  exact ⟨a, _, c, rfl, rfl⟩
def RwR2 (base : Nat) (ob : Option Nat) (ys : List Value) (w : World) (e : Ending) (w' : World) : Prop := ∃ (a : Option Addr) (L c : Nat) (ob' : Option Nat), e = .returned (.slice a L c) ∧ L = ys.length ∧ OwnS w' base ob' (.slice a L c) ys ∧ Rst w w' ob ob'
theorem rwR2_of {base : Nat} {ob : Option Nat} {ys : List Value} {w : World} {e : Ending} {w' : World} (h : RwR base ob ys w e w') : RwR2 base ob ys w e w' := by
  obtain ⟨a, c, ob', h1, h2, h3⟩ := h
  exact ⟨a, _, c, ob', h1, rfl, h2, h3⟩
theorem PkS.fin {w cur : World} {base B X : Nat} {ob : Option Nat} {v : Value} {xs : List Value} {now x : LineT} (h : PkS w cur base B X ob v xs now x) :
    OwnS ((((cur.setCell ⟨B, 0, none⟩ (.int .i64 x.sec)).setCell ⟨B, 1, none⟩ (.int .i64 x.off)).setCell ⟨B, 2, none⟩ (.int .i64 x.file)).setCell ⟨B, 3, none⟩ (.int .i64 x.line)) base ob v xs ∧
    LineB ((((cur.setCell ⟨B, 0, none⟩ (.int .i64 x.sec)).setCell ⟨B, 1, none⟩ (.int .i64 x.off)).setCell ⟨B, 2, none⟩ (.int .i64 x.file)).setCell ⟨B, 3, none⟩ (.int .i64 x.line)) B x ∧
    Below base w ((((cur.setCell ⟨B, 0, none⟩ (.int .i64 x.sec)).setCell ⟨B, 1, none⟩ (.int .i64 x.off)).setCell ⟨B, 2, none⟩ (.int .i64 x.file)).setCell ⟨B, 3, none⟩ (.int .i64 x.line)) := by
  refine ⟨⟨?_, h.own.2⟩, lineB_set h.now x, below_set4 h.bel h.low.1 _ _ _ _⟩
  have hk : ∀ (W : World) (i : Nat) (u : Value), W.ownsRow base 5 1 v xs.length xs → (W.setCell ⟨B, i, none⟩ u).ownsRow base 5 1 v xs.length xs := fun W i u hW =>
    hW.kept (w' := W.setCell ⟨B, i, none⟩ u) (row := some B) ⟨rfl, rfl, rfl, by simp, fun k _ hne => heap_setCell_other W ⟨B, i, none⟩ k _ (fun e => hne (by rw [e]))⟩ (.inr (by rw [h.own.2]; exact h.o1))
  exact hk _ 3 _ (hk _ 2 _ (hk _ 1 _ (hk _ 0 _ h.own.1)))
theorem sec_len {now next : LineT} (h : 0 ≤ next.sec - now.sec ∧ next.sec - now.sec ≤ 15 ∨ next.sec = now.sec) : (secP now next).length ≤ 10 := by
  unfold secP
  split
  · simp
  · have := numL_len 8 (next.sec - now.sec).toNat (by omega)
    simp only [List.length_cons]
    omega
theorem file_len {now next : LineT} (h : 0 ≤ next.file ∧ next.file ≤ 19) : (fileP now next).length ≤ 10 := by
  unfold fileP
  split
  · simp
  · have := numL_len 8 next.file.toNat (by omega)
    simp only [List.length_cons]
    omega
theorem ent_split {P P1 Q1 P2 : List Value} {ns no nf nl xs xo xf xl no2 : Int} (hQ : Q1 = P1 ++ byL (fileP ⟨ns, no, nf, nl⟩ ⟨xs, xo, xf, xl⟩)) (h1 : P1 = P ++ byL (secP ⟨ns, no, nf, nl⟩ ⟨xs, xo, xf, xl⟩)) (hno : no2 = (if xs = ns then no else 0))
    (hap : P ++ byL (entryL ⟨ns, no, nf, nl⟩ ⟨xs, xo, xf, xl⟩) = P2) : Q1 ++ byL (offP (xo - no2) ++ (lineP (xl - nl) ++ [lastP (xo - no2) (xl - nl)])) = P2 := by
  have e : offD ⟨ns, no, nf, nl⟩ ⟨xs, xo, xf, xl⟩ = xo - no2 := by rw [hno]; rfl
  rw [← hap, hQ, h1, entryL, e]
  simp [byL]
set_option maxRecDepth 100000 in
set_option maxHeartbeats 40000000 in
theorem rpack_c {w : World} {s : Value} {l : List LineT} (h : RowsAt w s LineT.cells 4 l) (hr : ∀ x ∈ l, x.R) (hl : l.length ≤ 140737488351232) :
    Calls Tryz.prog 29 #[s] w (PkR l w) := by
  have hT := table_x h hr hl
  obtain ⟨a, c, rfl⟩ := rows_slice h
  by_cases ht : TabOk l
  · rw [dec_yes ht] at hT
    have h4 : l.length ≤ 4000 := ht.1
    have hent := ht.2.1
    have hstep := ht.2.2
    have ht2 := Lib.hid ht
    clear ht
    obtain ⟨i0, hi, hz0, hz1, hz2⟩ := info_parts infoW
    go_enter Tryz.func29, Tryz.ntmps29
    go_wp2_with fail
    refine hT.mono ?_
    rintro e w1 ⟨rfl, hb1⟩
    have hB1 := hb1.size
    have hN0 := Lib.hid (lineB_new w1 default)
    have hb2 : Below w.heap.size w (w1.alloc (.cells #[.int .i64 0, .int .i64 0, .int .i64 0, .int .i64 0] 48)) := hb1.alloc hB1 _
    go_wp2_with fail
    go_loopg [4, 6] l.length (fun gn v i wr => ∃ (k : Nat) (ob : Option Nat), gn + k = l.length ∧ k ≤ l.length ∧ i = .int .i64 k ∧ OwnS wr w.heap.size ob v (byL (packL default (l.take k))) ∧ LineB wr w1.heap.size (nowAt l k) ∧ ob ≠ some w1.heap.size ∧ Below w.heap.size w wr)
    case atStart => exact ⟨0, none, by omega, by omega, rfl, ⟨World.ownsRow_nil _ _ _ _, rfl⟩, hN0.out, by simp, hb2⟩
    case round =>
      obtain ⟨k, ob, hgk, hk, rfl, hOw, hN, hob, hbl⟩ := hrel
      have hB := hbl.size
      by_cases hlt : k < l.length
      · obtain ⟨b, of, rfl⟩ := rows_some2 h hlt
        obtain ⟨x, hx⟩ : ∃ x, l[k]? = some x := ⟨l[k], by simp [hlt]⟩
        have hxR := (hent x (List.mem_of_getElem? hx)).1
        have hord : (nowAt l k).sec ≤ x.sec ∧ ((nowAt l k).sec = x.sec → (nowAt l k).off ≤ x.off) := by
          cases k with
          | zero => exact ⟨hxR.1.1, fun _ => hxR.2.1.1⟩
          | succ k =>
            have h1 : k < l.length := by omega
            have e : nowAt l (k + 1) = l[k] := by simp [nowAt, h1]
            have := hstep k l[k] x (List.getElem?_eq_getElem h1) hx
            rw [e]
            omega
        have hlen := packL_len default (l.take k) rng_default (fun y hy => (hent y (List.mem_of_mem_take hy)).1)
        rw [List.length_take] at hlen
        have hnx : nowAt l (k + 1) = x := by simp [nowAt, hx]
        have hnR := nowAt_rng (fun y hy => (hent y hy).1) hk
        have hap : byL (packL default (l.take k)) ++ byL (entryL (nowAt l k) x) = byL (packL default (l.take (k + 1))) := by rw [pack_step hx]; simp [byL]
        have hPl : (byL (packL default (l.take k))).length ≤ 164000 := by simp [byL]; omega
        generalize byL (packL default (l.take k)) = P at *
        obtain ⟨P2, hP2e⟩ : ∃ P2, P2 = byL (packL default (l.take (k + 1))) := ⟨_, rfl⟩
        rw [← hP2e] at hap
        have hP2f := Lib.hid hP2e
        clear hP2e
        have hnx := Lib.hid hnx
        have hlt' : (k : Int) < (l.length : Int) := by omega
        obtain ⟨g0, g1, g2, g3⟩ := rows_line (h.below hbl) hx
        obtain ⟨y, hy⟩ : ∃ y, y = nowAt l k := ⟨_, rfl⟩
        rw [← hy] at hN hnR hord hap
        clear hy hx hent hstep hlen hN0 hb2
        obtain ⟨va, vc, rfl⟩ := hOw.form
        have hX := lineB_new wr x
        have hlow := hN.low
        have hlt3 := hOw.1.lt
        have hP : PkS w (wr.alloc (.cells #[.int .i64 x.sec, .int .i64 x.off, .int .i64 x.file, .int .i64 x.line] 48)) w.heap.size w1.heap.size wr.heap.size ob (.slice va P.length vc) P y x :=
          ⟨hOw.alloc _, hN.alloc _, hX, hob, fun e => by have := hlt3 _ (hOw.2.trans e); omega, hbl.alloc hB _, ⟨hB1, hB, by omega⟩⟩
        clear hX hOw hN hbl hlt3
        obtain ⟨xs, xo, xf, xl⟩ := x
        obtain ⟨ns, no, nf, nl⟩ := y
        unfold RngOk at hxR hnR
        dsimp only at hxR hnR hord g0 g1 g2 g3 hP
        obtain ⟨a0, a1, a2, a3⟩ := hP.now.cells
        obtain ⟨n0, n1, n2, n3⟩ := hP.nx.cells
        dsimp only at a0 a1 a2 a3 n0 n1 n2 n3
        have hP2 := Lib.hid hP
        have hap2 := Lib.hid hap
        clear hP hap
        have hnew : ∀ u, ((wr.alloc (.cells #[.int .i64 xs, .int .i64 xo, .int .i64 xf, .int .i64 xl] 48)).alloc (.cells #[u] 5)).cell? ⟨wr.heap.size + 1, 0, none⟩ = some u := fun u => by simpa using new_cell (wr.alloc (.cells #[.int .i64 xs, .int .i64 xo, .int .i64 xf, .int .i64 xl] 48)) #[u] 5 0 u rfl
        go_upto_if 28 with fail
        go_cut [4] from 14 to 113 (fun bv wx => ∃ (ob2 : Option Nat) (no2 : Int), no2 = (if xs = ns then no else 0) ∧ PkS w wx w.heap.size w1.heap.size wr.heap.size ob2 bv (P ++ byL (secP ⟨ns, no, nf, nl⟩ ⟨xs, xo, xf, xl⟩)) ⟨ns, no2, nf, nl⟩ ⟨xs, xo, xf, xl⟩)
        case first =>
          by_cases cS : xs = ns
          · subst cS
            go_wp2_with fail
            go_meet
            exact ⟨ob, no, by simp, by rw [show secP ⟨xs, no, nf, nl⟩ ⟨xs, xo, xf, xl⟩ = [] from if_pos rfl]; simpa [byL] using hP2.out⟩
          · obtain ⟨c9, hc9⟩ : ∃ c9 : Int, c9 = xs - ns := ⟨_, rfl⟩
            have s0 : 0 < c9 ∧ c9 ≤ 15 := by omega
            have s1 : xs - ns = c9 := hc9.symm
            have s4 : (xs != ns) = true := bne_iff_ne.2 cS
            have hsec := Lib.hid (show secP ⟨ns, no, nf, nl⟩ ⟨xs, xo, xf, xl⟩ = 4 :: numL c9.toNat by rw [hc9]; exact if_neg cS)
            have hcS := Lib.hid cS
            have qs := numL_len 8 c9.toNat (by omega)
            clear hc9 cS
            go_wp2_with (first
              | (at_builtin; refine wpList_append_fresh rfl _ _ 34 rfl w.heap.size 5 i0 (.int .u8 0) 1 1 Tryz.underlying34 hi hz0 hz1 hz2 rfl (by decide) _ _ _ rfl (hP2.out.own.1.alloc _) _ 1 1 _ rfl rfl (one_cell (hnew _)) (one_one rfl) (by unfold maxLen; simp [byL]; omega) (by simp [byL]; omega) (Nat.le_trans hP2.out.bel.size (by simp)) ?_; intro v' w2 hown1 hgr hfr; have hP3 := hP2.out.app hown1 hgr hfr; clear hown1 hgr hfr; obtain ⟨va2, L2, vc2, rfl, hL2⟩ := hP3.own.form2; clear hL2; clear a0 a1 a2 a3 n0 n1 n2 n3 hnew; obtain ⟨a0, a1, a2, a3⟩ := hP3.now.cells; obtain ⟨n0, n1, n2, n3⟩ := hP3.nx.cells; (try clear f0 f1 f2 f3); have f0 := hP3.now.frozen 0; have f1 := hP3.now.frozen 1; have f2 := hP3.now.frozen 2; have f3 := hP3.now.frozen 3; dsimp only at a0 a1 a2 a3 n0 n1 n2 n3; clear hP2; have hP2 := Lib.hid hP3; clear hP3; have hnew := fun u => new_cell w2 #[u] 5 0 u rfl)
              | (go_at_call 87; refine (rnum_i hP2.out.own hP2.out.bel.size (by simp [byL]; omega) (by omega) (by omega)).mono ?_; rintro e w2 hh; obtain ⟨ra, L2, rc, ob2, rfl, hL2, ho2, hs2⟩ := rwR2_of hh; clear hh hL2; have hP3 := hP2.out.step ho2 hs2; clear ho2 hs2; clear a0 a1 a2 a3 n0 n1 n2 n3 hnew; obtain ⟨a0, a1, a2, a3⟩ := hP3.now.cells; obtain ⟨n0, n1, n2, n3⟩ := hP3.nx.cells; (try clear f0 f1 f2 f3); have f0 := hP3.now.frozen 0; have f1 := hP3.now.frozen 1; have f2 := hP3.now.frozen 2; have f3 := hP3.now.frozen 3; dsimp only at a0 a1 a2 a3 n0 n1 n2 n3; clear hP2; have hP2 := Lib.hid hP3; clear hP3; have hnew := fun u => new_cell w2 #[u] 5 0 u rfl)
              | (go_at_call 90; refine (rsig_c hP2.out.own hP2.out.bel.size (by simp [byL]; omega) (by omega) (by omega)).mono ?_; rintro e w2 hh; obtain ⟨ra, L2, rc, ob2, rfl, hL2, ho2, hs2⟩ := rwR2_of hh; clear hh hL2; have hP3 := hP2.out.step ho2 hs2; clear ho2 hs2; clear a0 a1 a2 a3 n0 n1 n2 n3 hnew; obtain ⟨a0, a1, a2, a3⟩ := hP3.now.cells; obtain ⟨n0, n1, n2, n3⟩ := hP3.nx.cells; (try clear f0 f1 f2 f3); have f0 := hP3.now.frozen 0; have f1 := hP3.now.frozen 1; have f2 := hP3.now.frozen 2; have f3 := hP3.now.frozen 3; dsimp only at a0 a1 a2 a3 n0 n1 n2 n3; clear hP2; have hP2 := Lib.hid hP3; clear hP3; have hnew := fun u => new_cell w2 #[u] 5 0 u rfl))
            go_meet
            exact ⟨_, 0, (if_neg hcS.out).symm, by have := hP2.out.zero; rw [hsec.out]; simpa [byL] using this⟩
        case rest =>
          clear a0 a1 a2 a3 n0 n1 n2 n3 hnew hP2
          obtain ⟨ob2, no2, hno2, hP⟩ := hcut
          obtain ⟨va3, L3, vc3, rfl, hL3⟩ := hP.own.form2
          have hsl := sec_len (now := ⟨ns, no, nf, nl⟩) (next := ⟨xs, xo, xf, xl⟩) (by dsimp only; omega)
          obtain ⟨P1, hP1⟩ : ∃ P1, P1 = P ++ byL (secP ⟨ns, no, nf, nl⟩ ⟨xs, xo, xf, xl⟩) := ⟨_, rfl⟩
          rw [← hP1] at hP hL3
          have hP1l : P1.length ≤ 164020 := by rw [hP1, List.length_append]; simp only [byL, List.length_map]; omega
          have hd0 : 0 ≤ xo - no2 ∧ xo - no2 ≤ 65535 := by rw [hno2]; split <;> omega
          have hno := Lib.hid hno2
          have hP1e := Lib.hid hP1
          clear hno2 hP1 hsl hL3 hord
          obtain ⟨a0, a1, a2, a3⟩ := hP.now.cells
          obtain ⟨n0, n1, n2, n3⟩ := hP.nx.cells
          dsimp only at a0 a1 a2 a3 n0 n1 n2 n3
          have hP2 := Lib.hid hP
          clear hP
          have hnew := fun (u : Value) => new_cell wc #[u] 5 0 u rfl
          go_upto_if 44 with fail
          go_cut [4] from 14 to 113 (fun bv wx => ∃ (ob3 : Option Nat), PkS w wx w.heap.size w1.heap.size wr.heap.size ob3 bv (P1 ++ byL (fileP ⟨ns, no, nf, nl⟩ ⟨xs, xo, xf, xl⟩)) ⟨ns, no2, nf, nl⟩ ⟨xs, xo, xf, xl⟩)
          case first =>
            by_cases cF : xf = nf
            · subst cF
              go_wp2_with fail
              go_meet
              exact ⟨ob2, by rw [show fileP ⟨ns, no, xf, nl⟩ ⟨xs, xo, xf, xl⟩ = [] from if_pos rfl]; simpa [byL] using hP2.out⟩
            · have s4 : (xf != nf) = true := bne_iff_ne.2 cF
              have hfil := Lib.hid (show fileP ⟨ns, no, nf, nl⟩ ⟨xs, xo, xf, xl⟩ = 3 :: numL xf.toNat from if_neg cF)
              have qs := numL_len 8 xf.toNat (by omega)
              clear cF
              go_wp2_with (first
                | (at_builtin; refine wpList_append_fresh rfl _ _ 34 rfl w.heap.size 5 i0 (.int .u8 0) 1 1 Tryz.underlying34 hi hz0 hz1 hz2 rfl (by decide) _ _ _ rfl (hP2.out.own.1.alloc _) _ 1 1 _ rfl rfl (one_cell (hnew _)) (one_one rfl) (by unfold maxLen; simp [byL]; omega) (by simp [byL]; omega) (Nat.le_trans hP2.out.bel.size (by simp)) ?_; intro v' w2 hown1 hgr hfr; have hP3 := hP2.out.app hown1 hgr hfr; clear hown1 hgr hfr; obtain ⟨va2, L2, vc2, rfl, hL2⟩ := hP3.own.form2; clear hL2; clear a0 a1 a2 a3 n0 n1 n2 n3 hnew; obtain ⟨a0, a1, a2, a3⟩ := hP3.now.cells; obtain ⟨n0, n1, n2, n3⟩ := hP3.nx.cells; (try clear f0 f1 f2 f3); have f0 := hP3.now.frozen 0; have f1 := hP3.now.frozen 1; have f2 := hP3.now.frozen 2; have f3 := hP3.now.frozen 3; dsimp only at a0 a1 a2 a3 n0 n1 n2 n3; clear hP2; have hP2 := Lib.hid hP3; clear hP3; have hnew := fun u => new_cell w2 #[u] 5 0 u rfl)
                | (go_at_call 87; refine (rnum_i hP2.out.own hP2.out.bel.size (by simp [byL]; omega) (by omega) (by omega)).mono ?_; rintro e w2 hh; obtain ⟨ra, L2, rc, ob2, rfl, hL2, ho2, hs2⟩ := rwR2_of hh; clear hh hL2; have hP3 := hP2.out.step ho2 hs2; clear ho2 hs2; clear a0 a1 a2 a3 n0 n1 n2 n3 hnew; obtain ⟨a0, a1, a2, a3⟩ := hP3.now.cells; obtain ⟨n0, n1, n2, n3⟩ := hP3.nx.cells; (try clear f0 f1 f2 f3); have f0 := hP3.now.frozen 0; have f1 := hP3.now.frozen 1; have f2 := hP3.now.frozen 2; have f3 := hP3.now.frozen 3; dsimp only at a0 a1 a2 a3 n0 n1 n2 n3; clear hP2; have hP2 := Lib.hid hP3; clear hP3; have hnew := fun u => new_cell w2 #[u] 5 0 u rfl)
                | (go_at_call 90; refine (rsig_c hP2.out.own hP2.out.bel.size (by simp [byL]; omega) (by omega) (by omega)).mono ?_; rintro e w2 hh; obtain ⟨ra, L2, rc, ob2, rfl, hL2, ho2, hs2⟩ := rwR2_of hh; clear hh hL2; have hP3 := hP2.out.step ho2 hs2; clear ho2 hs2; clear a0 a1 a2 a3 n0 n1 n2 n3 hnew; obtain ⟨a0, a1, a2, a3⟩ := hP3.now.cells; obtain ⟨n0, n1, n2, n3⟩ := hP3.nx.cells; (try clear f0 f1 f2 f3); have f0 := hP3.now.frozen 0; have f1 := hP3.now.frozen 1; have f2 := hP3.now.frozen 2; have f3 := hP3.now.frozen 3; dsimp only at a0 a1 a2 a3 n0 n1 n2 n3; clear hP2; have hP2 := Lib.hid hP3; clear hP3; have hnew := fun u => new_cell w2 #[u] 5 0 u rfl))
              go_meet
              exact ⟨_, by have := hP2.out; rw [hfil.out]; simpa [byL] using this⟩
          case rest =>
            clear a0 a1 a2 a3 n0 n1 n2 n3 hnew hP2
            obtain ⟨ob3, hP⟩ := hcut
            obtain ⟨va4, L4, vc4, rfl, hL4⟩ := hP.own.form2
            have hfl := file_len (now := ⟨ns, no, nf, nl⟩) (next := ⟨xs, xo, xf, xl⟩) (by dsimp only; omega)
            obtain ⟨Q1, hQ1⟩ : ∃ Q1, Q1 = P1 ++ byL (fileP ⟨ns, no, nf, nl⟩ ⟨xs, xo, xf, xl⟩) := ⟨_, rfl⟩
            rw [← hQ1] at hP hL4
            have hQ1l : Q1.length ≤ 164040 := by rw [hQ1, List.length_append]; simp only [byL, List.length_map]; omega
            have hQ := Lib.hid (show Q1 ++ byL (offP (xo - no2) ++ (lineP (xl - nl) ++ [lastP (xo - no2) (xl - nl)])) = P2 from ent_split hQ1 hP1e.out hno.out hap2.out)
            clear hQ1 hfl hL4 hap2 hP1e hno
            obtain ⟨a0, a1, a2, a3⟩ := hP.now.cells
            obtain ⟨n0, n1, n2, n3⟩ := hP.nx.cells
            dsimp only at a0 a1 a2 a3 n0 n1 n2 n3
            have hP2 := Lib.hid hP
            clear hP
            have hnew := fun (u : Value) => new_cell wc #[u] 5 0 u rfl
            by_cases cO : (xo - no2) % 4 = 0 ∧ xo - no2 ≤ 44
            · by_cases cL : -4 ≤ xl - nl ∧ xl - nl ≤ 11
              · skip
                obtain ⟨d, hd⟩ : ∃ d : Int, d = xo - no2 := ⟨_, rfl⟩
                obtain ⟨e, he⟩ : ∃ e : Int, e = xl - nl := ⟨_, rfl⟩
                rw [← hd] at cO hd0
                rw [← he] at cL
                obtain ⟨m, hm⟩ : ∃ m : Int, m = 0 := ⟨_, rfl⟩
                obtain ⟨m2, hm2⟩ : ∃ m2 : Int, m2 = 0 := ⟨_, rfl⟩
                obtain ⟨q, hq⟩ : ∃ q : Int, q = (d - m) / 4 := ⟨_, rfl⟩
                obtain ⟨e9, he9⟩ : ∃ e9 : Int, e9 = e - m2 := ⟨_, rfl⟩
                obtain ⟨z, hz⟩ : ∃ z : Int, z = 64 + 16 * q + e9 + 4 := ⟨_, rfl⟩
                have hfin : offP (xo - no2) ++ (lineP (xl - nl) ++ [lastP (xo - no2) (xl - nl)]) = ([] : List Int) ++ (([] : List Int) ++ [z]) := by
                  unfold offP lineP lastP
                  rw [← hd, ← he]
                  have o1 : offB d = m := by unfold offB; split <;> omega
                  have o2 : lineB e = m2 := by unfold lineB; split <;> (try split) <;> omega
                  rw [o1, o2, if_pos (by omega), if_pos (by omega), show 64 + (d - m) / 4 * 16 + (e - m2) + 4 = z by omega]
                have hfin := Lib.hid hfin
                have w1 : wrap64 (xo - no2) = d := by rw [wrap64_id] <;> omega
                have w1c : xo - no2 = d := hd.symm
                have w2 : wrap64 (xl - nl) = e := by rw [wrap64_id] <;> omega
                have w2c : xl - nl = e := he.symm
                have d0 : 0 ≤ d ∧ d ≤ 70000 := by omega
                have e0 : -1100000 ≤ e ∧ e ≤ 1100000 := by omega
                have y0 : 0 ≤ m ∧ m ≤ 70000 := by omega
                have y1 : -1100000 ≤ m2 ∧ m2 ≤ 1100000 := by omega
                have d2 : d % 4 = 0 := by omega
                have d3 : d.tmod 4 = 0 := by rw [Int.tmod_eq_emod_of_nonneg d0.1]; exact d2
                have d5 : d ≤ 44 := by omega
                have q1 : d.tdiv 4 = q := by rw [Int.tdiv_eq_ediv_of_nonneg d0.1]; omega
                have q1c : d / 4 = q := by omega
                have q2 : 0 ≤ (q : Int) ∧ (q : Int) ≤ 11 := by omega
                obtain rfl : e = e9 := by omega
                have e1 : -4 ≤ e ∧ e ≤ 11 := by omega
                obtain ⟨r, hr2⟩ : ∃ r : Int, r = 16 * q := ⟨_, rfl⟩
                obtain ⟨s, hs⟩ : ∃ s : Int, s = 64 + r := ⟨_, rfl⟩
                obtain ⟨u, hu⟩ : ∃ u : Int, u = s + e := ⟨_, rfl⟩
                have r1c : 16 * q = r := hr2.symm
                have s1c : 64 + r = s := hs.symm
                have u1c : s + e = u := hu.symm
                have z1c : u + 4 = z := by omega
                have b1 : 0 ≤ r ∧ r ≤ 176 := by omega
                have b2 : 0 ≤ s ∧ s ≤ 240 := by omega
                have b3 : 0 ≤ u ∧ u ≤ 251 := by omega
                have i1 : wrap64 q = q := wrap64_id (by omega) (by omega)
                have i6 : wrap64 (16 * q) = r := by rw [r1c]; exact wrap64_id (by omega) (by omega)
                have i7 : wrap64 (64 + r) = s := by rw [s1c]; exact wrap64_id (by omega) (by omega)
                have i8 : wrap64 (s + e) = u := by rw [u1c]; exact wrap64_id (by omega) (by omega)
                have i9 : wrap64 (u + 4) = z := by rw [z1c]; exact wrap64_id (by omega) (by omega)
                have z0 : 0 ≤ z := by omega
                have z1 : z < 256 := by omega
                have z2 : z % 256 = z := by omega
                have qm := numL_len 8 m.toNat (by omega)
                have qz := numL_len 8 (zig m2) (by unfold zig; split <;> omega)
                clear hd he hm hm2 hq he9 hz hr2 hs hu
                go_wp2_with (first
                  | (at_builtin; refine wpList_append_fresh rfl _ _ 34 rfl w.heap.size 5 i0 (.int .u8 0) 1 1 Tryz.underlying34 hi hz0 hz1 hz2 rfl (by decide) _ _ _ rfl (hP2.out.own.1.alloc _) _ 1 1 _ rfl rfl (one_cell (hnew _)) (one_one rfl) (by unfold maxLen; simp [byL]; omega) (by simp [byL]; omega) (Nat.le_trans hP2.out.bel.size (by simp)) ?_; intro v' w2 hown1 hgr hfr; have hP3 := hP2.out.app hown1 hgr hfr; clear hown1 hgr hfr; obtain ⟨va2, L2, vc2, rfl, hL2⟩ := hP3.own.form2; clear hL2; clear a0 a1 a2 a3 n0 n1 n2 n3 hnew; obtain ⟨a0, a1, a2, a3⟩ := hP3.now.cells; obtain ⟨n0, n1, n2, n3⟩ := hP3.nx.cells; (try clear f0 f1 f2 f3); have f0 := hP3.now.frozen 0; have f1 := hP3.now.frozen 1; have f2 := hP3.now.frozen 2; have f3 := hP3.now.frozen 3; dsimp only at a0 a1 a2 a3 n0 n1 n2 n3; clear hP2; have hP2 := Lib.hid hP3; clear hP3; have hnew := fun u => new_cell w2 #[u] 5 0 u rfl)
                  | (go_at_call 87; refine (rnum_i hP2.out.own hP2.out.bel.size (by simp [byL]; omega) (by omega) (by omega)).mono ?_; rintro e w2 hh; obtain ⟨ra, L2, rc, ob2, rfl, hL2, ho2, hs2⟩ := rwR2_of hh; clear hh hL2; have hP3 := hP2.out.step ho2 hs2; clear ho2 hs2; clear a0 a1 a2 a3 n0 n1 n2 n3 hnew; obtain ⟨a0, a1, a2, a3⟩ := hP3.now.cells; obtain ⟨n0, n1, n2, n3⟩ := hP3.nx.cells; (try clear f0 f1 f2 f3); have f0 := hP3.now.frozen 0; have f1 := hP3.now.frozen 1; have f2 := hP3.now.frozen 2; have f3 := hP3.now.frozen 3; dsimp only at a0 a1 a2 a3 n0 n1 n2 n3; clear hP2; have hP2 := Lib.hid hP3; clear hP3; have hnew := fun u => new_cell w2 #[u] 5 0 u rfl)
                  | (go_at_call 90; refine (rsig_c hP2.out.own hP2.out.bel.size (by simp [byL]; omega) (by omega) (by omega)).mono ?_; rintro e w2 hh; obtain ⟨ra, L2, rc, ob2, rfl, hL2, ho2, hs2⟩ := rwR2_of hh; clear hh hL2; have hP3 := hP2.out.step ho2 hs2; clear ho2 hs2; clear a0 a1 a2 a3 n0 n1 n2 n3 hnew; obtain ⟨a0, a1, a2, a3⟩ := hP3.now.cells; obtain ⟨n0, n1, n2, n3⟩ := hP3.nx.cells; (try clear f0 f1 f2 f3); have f0 := hP3.now.frozen 0; have f1 := hP3.now.frozen 1; have f2 := hP3.now.frozen 2; have f3 := hP3.now.frozen 3; dsimp only at a0 a1 a2 a3 n0 n1 n2 n3; clear hP2; have hP2 := Lib.hid hP3; clear hP3; have hnew := fun u => new_cell w2 #[u] 5 0 u rfl))
                all_goals
                  obtain ⟨k1, k2, k3⟩ := hP2.out.fin
                  have k4 := hP2.out.o1
                  dsimp only at k1 k2 k3
                  rw [show Q1 ++ [Value.int .u8 z] = P2 by rw [← hQ.out, hfin.out]; simp [byL], hP2f.out] at k1
                  go_roundg (gk - 1)
                  case measure => omega
                  case rel => exact ⟨k + 1, _, by omega, by omega, by go_num, k1, by rw [hnx.out]; exact k2, k4, k3⟩
              · by_cases cL3 : 11 < xl - nl
                · skip
                  obtain ⟨d, hd⟩ : ∃ d : Int, d = xo - no2 := ⟨_, rfl⟩
                  obtain ⟨e, he⟩ : ∃ e : Int, e = xl - nl := ⟨_, rfl⟩
                  rw [← hd] at cO hd0
                  rw [← he] at cL cL3
                  obtain ⟨m, hm⟩ : ∃ m : Int, m = 0 := ⟨_, rfl⟩
                  obtain ⟨m2, hm2⟩ : ∃ m2 : Int, m2 = e - 11 := ⟨_, rfl⟩
                  obtain ⟨q, hq⟩ : ∃ q : Int, q = (d - m) / 4 := ⟨_, rfl⟩
                  obtain ⟨e9, he9⟩ : ∃ e9 : Int, e9 = e - m2 := ⟨_, rfl⟩
                  obtain ⟨z, hz⟩ : ∃ z : Int, z = 64 + 16 * q + e9 + 4 := ⟨_, rfl⟩
                  have hfin : offP (xo - no2) ++ (lineP (xl - nl) ++ [lastP (xo - no2) (xl - nl)]) = ([] : List Int) ++ ((2 :: numL (zig m2) : List Int) ++ [z]) := by
                    unfold offP lineP lastP
                    rw [← hd, ← he]
                    have o1 : offB d = m := by unfold offB; split <;> omega
                    have o2 : lineB e = m2 := by unfold lineB; split <;> (try split) <;> omega
                    rw [o1, o2, if_pos (by omega), if_neg (by omega), show 64 + (d - m) / 4 * 16 + (e - m2) + 4 = z by omega]
                  have hfin := Lib.hid hfin
                  have w1 : wrap64 (xo - no2) = d := by rw [wrap64_id] <;> omega
                  have w1c : xo - no2 = d := hd.symm
                  have w2 : wrap64 (xl - nl) = e := by rw [wrap64_id] <;> omega
                  have w2c : xl - nl = e := he.symm
                  have d0 : 0 ≤ d ∧ d ≤ 70000 := by omega
                  have e0 : -1100000 ≤ e ∧ e ≤ 1100000 := by omega
                  have y0 : 0 ≤ m ∧ m ≤ 70000 := by omega
                  have y1 : -1100000 ≤ m2 ∧ m2 ≤ 1100000 := by omega
                  have d2 : d % 4 = 0 := by omega
                  have d3 : d.tmod 4 = 0 := by rw [Int.tmod_eq_emod_of_nonneg d0.1]; exact d2
                  have d5 : d ≤ 44 := by omega
                  have q1 : d.tdiv 4 = q := by rw [Int.tdiv_eq_ediv_of_nonneg d0.1]; omega
                  have q1c : d / 4 = q := by omega
                  have q2 : 0 ≤ (q : Int) ∧ (q : Int) ≤ 11 := by omega
                  have e1 : 11 < e := by omega
                  have e2 : e - 11 = m2 := hm2.symm
                  have e3 : wrap64 (e - 11) = m2 := by rw [e2]; exact wrap64_id (by omega) (by omega)
                  obtain rfl : e9 = 11 := by omega
                  obtain ⟨r, hr2⟩ : ∃ r : Int, r = 16 * q := ⟨_, rfl⟩
                  obtain ⟨s, hs⟩ : ∃ s : Int, s = 64 + r := ⟨_, rfl⟩
                  obtain ⟨u, hu⟩ : ∃ u : Int, u = s + 11 := ⟨_, rfl⟩
                  have r1c : 16 * q = r := hr2.symm
                  have s1c : 64 + r = s := hs.symm
                  have u1c : s + 11 = u := hu.symm
                  have z1c : u + 4 = z := by omega
                  have b1 : 0 ≤ r ∧ r ≤ 176 := by omega
                  have b2 : 0 ≤ s ∧ s ≤ 240 := by omega
                  have b3 : 0 ≤ u ∧ u ≤ 251 := by omega
                  have i1 : wrap64 q = q := wrap64_id (by omega) (by omega)
                  have i6 : wrap64 (16 * q) = r := by rw [r1c]; exact wrap64_id (by omega) (by omega)
                  have i7 : wrap64 (64 + r) = s := by rw [s1c]; exact wrap64_id (by omega) (by omega)
                  have i8 : wrap64 (s + 11) = u := by rw [u1c]; exact wrap64_id (by omega) (by omega)
                  have i9 : wrap64 (u + 4) = z := by rw [z1c]; exact wrap64_id (by omega) (by omega)
                  have z0 : 0 ≤ z := by omega
                  have z1 : z < 256 := by omega
                  have z2 : z % 256 = z := by omega
                  have qm := numL_len 8 m.toNat (by omega)
                  have qz := numL_len 8 (zig m2) (by unfold zig; split <;> omega)
                  clear hd he hm hm2 hq he9 hz hr2 hs hu
                  go_wp2_with (first
                    | (at_builtin; refine wpList_append_fresh rfl _ _ 34 rfl w.heap.size 5 i0 (.int .u8 0) 1 1 Tryz.underlying34 hi hz0 hz1 hz2 rfl (by decide) _ _ _ rfl (hP2.out.own.1.alloc _) _ 1 1 _ rfl rfl (one_cell (hnew _)) (one_one rfl) (by unfold maxLen; simp [byL]; omega) (by simp [byL]; omega) (Nat.le_trans hP2.out.bel.size (by simp)) ?_; intro v' w2 hown1 hgr hfr; have hP3 := hP2.out.app hown1 hgr hfr; clear hown1 hgr hfr; obtain ⟨va2, L2, vc2, rfl, hL2⟩ := hP3.own.form2; clear hL2; clear a0 a1 a2 a3 n0 n1 n2 n3 hnew; obtain ⟨a0, a1, a2, a3⟩ := hP3.now.cells; obtain ⟨n0, n1, n2, n3⟩ := hP3.nx.cells; (try clear f0 f1 f2 f3); have f0 := hP3.now.frozen 0; have f1 := hP3.now.frozen 1; have f2 := hP3.now.frozen 2; have f3 := hP3.now.frozen 3; dsimp only at a0 a1 a2 a3 n0 n1 n2 n3; clear hP2; have hP2 := Lib.hid hP3; clear hP3; have hnew := fun u => new_cell w2 #[u] 5 0 u rfl)
                    | (go_at_call 87; refine (rnum_i hP2.out.own hP2.out.bel.size (by simp [byL]; omega) (by omega) (by omega)).mono ?_; rintro e w2 hh; obtain ⟨ra, L2, rc, ob2, rfl, hL2, ho2, hs2⟩ := rwR2_of hh; clear hh hL2; have hP3 := hP2.out.step ho2 hs2; clear ho2 hs2; clear a0 a1 a2 a3 n0 n1 n2 n3 hnew; obtain ⟨a0, a1, a2, a3⟩ := hP3.now.cells; obtain ⟨n0, n1, n2, n3⟩ := hP3.nx.cells; (try clear f0 f1 f2 f3); have f0 := hP3.now.frozen 0; have f1 := hP3.now.frozen 1; have f2 := hP3.now.frozen 2; have f3 := hP3.now.frozen 3; dsimp only at a0 a1 a2 a3 n0 n1 n2 n3; clear hP2; have hP2 := Lib.hid hP3; clear hP3; have hnew := fun u => new_cell w2 #[u] 5 0 u rfl)
                    | (go_at_call 90; refine (rsig_c hP2.out.own hP2.out.bel.size (by simp [byL]; omega) (by omega) (by omega)).mono ?_; rintro e w2 hh; obtain ⟨ra, L2, rc, ob2, rfl, hL2, ho2, hs2⟩ := rwR2_of hh; clear hh hL2; have hP3 := hP2.out.step ho2 hs2; clear ho2 hs2; clear a0 a1 a2 a3 n0 n1 n2 n3 hnew; obtain ⟨a0, a1, a2, a3⟩ := hP3.now.cells; obtain ⟨n0, n1, n2, n3⟩ := hP3.nx.cells; (try clear f0 f1 f2 f3); have f0 := hP3.now.frozen 0; have f1 := hP3.now.frozen 1; have f2 := hP3.now.frozen 2; have f3 := hP3.now.frozen 3; dsimp only at a0 a1 a2 a3 n0 n1 n2 n3; clear hP2; have hP2 := Lib.hid hP3; clear hP3; have hnew := fun u => new_cell w2 #[u] 5 0 u rfl))
                  all_goals
                    obtain ⟨k1, k2, k3⟩ := hP2.out.fin
                    have k4 := hP2.out.o1
                    dsimp only at k1 k2 k3
                    rw [show Q1 ++ [Value.int .u8 2] ++ byL (numL (zig m2)) ++ [Value.int .u8 z] = P2 by rw [← hQ.out, hfin.out]; simp [byL], hP2f.out] at k1
                    go_roundg (gk - 1)
                    case measure => omega
                    case rel => exact ⟨k + 1, _, by omega, by omega, by go_num, k1, by rw [hnx.out]; exact k2, k4, k3⟩
                · skip
                  obtain ⟨d, hd⟩ : ∃ d : Int, d = xo - no2 := ⟨_, rfl⟩
                  obtain ⟨e, he⟩ : ∃ e : Int, e = xl - nl := ⟨_, rfl⟩
                  rw [← hd] at cO hd0
                  rw [← he] at cL cL3
                  obtain ⟨m, hm⟩ : ∃ m : Int, m = 0 := ⟨_, rfl⟩
                  obtain ⟨m2, hm2⟩ : ∃ m2 : Int, m2 = e + 4 := ⟨_, rfl⟩
                  obtain ⟨q, hq⟩ : ∃ q : Int, q = (d - m) / 4 := ⟨_, rfl⟩
                  obtain ⟨e9, he9⟩ : ∃ e9 : Int, e9 = e - m2 := ⟨_, rfl⟩
                  obtain ⟨z, hz⟩ : ∃ z : Int, z = 64 + 16 * q + e9 + 4 := ⟨_, rfl⟩
                  have hfin : offP (xo - no2) ++ (lineP (xl - nl) ++ [lastP (xo - no2) (xl - nl)]) = ([] : List Int) ++ ((2 :: numL (zig m2) : List Int) ++ [z]) := by
                    unfold offP lineP lastP
                    rw [← hd, ← he]
                    have o1 : offB d = m := by unfold offB; split <;> omega
                    have o2 : lineB e = m2 := by unfold lineB; split <;> (try split) <;> omega
                    rw [o1, o2, if_pos (by omega), if_neg (by omega), show 64 + (d - m) / 4 * 16 + (e - m2) + 4 = z by omega]
                  have hfin := Lib.hid hfin
                  have w1 : wrap64 (xo - no2) = d := by rw [wrap64_id] <;> omega
                  have w1c : xo - no2 = d := hd.symm
                  have w2 : wrap64 (xl - nl) = e := by rw [wrap64_id] <;> omega
                  have w2c : xl - nl = e := he.symm
                  have d0 : 0 ≤ d ∧ d ≤ 70000 := by omega
                  have e0 : -1100000 ≤ e ∧ e ≤ 1100000 := by omega
                  have y0 : 0 ≤ m ∧ m ≤ 70000 := by omega
                  have y1 : -1100000 ≤ m2 ∧ m2 ≤ 1100000 := by omega
                  have d2 : d % 4 = 0 := by omega
                  have d3 : d.tmod 4 = 0 := by rw [Int.tmod_eq_emod_of_nonneg d0.1]; exact d2
                  have d5 : d ≤ 44 := by omega
                  have q1 : d.tdiv 4 = q := by rw [Int.tdiv_eq_ediv_of_nonneg d0.1]; omega
                  have q1c : d / 4 = q := by omega
                  have q2 : 0 ≤ (q : Int) ∧ (q : Int) ≤ 11 := by omega
                  have e1 : e < -4 := by omega
                  have e2 : e + 4 = m2 := hm2.symm
                  have e3 : wrap64 (e + 4) = m2 := by rw [e2]; exact wrap64_id (by omega) (by omega)
                  obtain rfl : e9 = -4 := by omega
                  obtain ⟨r, hr2⟩ : ∃ r : Int, r = 16 * q := ⟨_, rfl⟩
                  obtain ⟨s, hs⟩ : ∃ s : Int, s = 64 + r := ⟨_, rfl⟩
                  obtain ⟨u, hu⟩ : ∃ u : Int, u = s + (-4) := ⟨_, rfl⟩
                  have r1c : 16 * q = r := hr2.symm
                  have s1c : 64 + r = s := hs.symm
                  have u1c : s + (-4) = u := hu.symm
                  have z1c : u + 4 = z := by omega
                  have b1 : 0 ≤ r ∧ r ≤ 176 := by omega
                  have b2 : 0 ≤ s ∧ s ≤ 240 := by omega
                  have b3 : 0 ≤ u ∧ u ≤ 251 := by omega
                  have i1 : wrap64 q = q := wrap64_id (by omega) (by omega)
                  have i6 : wrap64 (16 * q) = r := by rw [r1c]; exact wrap64_id (by omega) (by omega)
                  have i7 : wrap64 (64 + r) = s := by rw [s1c]; exact wrap64_id (by omega) (by omega)
                  have i8 : wrap64 (s + (-4)) = u := by rw [u1c]; exact wrap64_id (by omega) (by omega)
                  have i9 : wrap64 (u + 4) = z := by rw [z1c]; exact wrap64_id (by omega) (by omega)
                  have z0 : 0 ≤ z := by omega
                  have z1 : z < 256 := by omega
                  have z2 : z % 256 = z := by omega
                  have qm := numL_len 8 m.toNat (by omega)
                  have qz := numL_len 8 (zig m2) (by unfold zig; split <;> omega)
                  clear hd he hm hm2 hq he9 hz hr2 hs hu
                  go_wp2_with (first
                    | (at_builtin; refine wpList_append_fresh rfl _ _ 34 rfl w.heap.size 5 i0 (.int .u8 0) 1 1 Tryz.underlying34 hi hz0 hz1 hz2 rfl (by decide) _ _ _ rfl (hP2.out.own.1.alloc _) _ 1 1 _ rfl rfl (one_cell (hnew _)) (one_one rfl) (by unfold maxLen; simp [byL]; omega) (by simp [byL]; omega) (Nat.le_trans hP2.out.bel.size (by simp)) ?_; intro v' w2 hown1 hgr hfr; have hP3 := hP2.out.app hown1 hgr hfr; clear hown1 hgr hfr; obtain ⟨va2, L2, vc2, rfl, hL2⟩ := hP3.own.form2; clear hL2; clear a0 a1 a2 a3 n0 n1 n2 n3 hnew; obtain ⟨a0, a1, a2, a3⟩ := hP3.now.cells; obtain ⟨n0, n1, n2, n3⟩ := hP3.nx.cells; (try clear f0 f1 f2 f3); have f0 := hP3.now.frozen 0; have f1 := hP3.now.frozen 1; have f2 := hP3.now.frozen 2; have f3 := hP3.now.frozen 3; dsimp only at a0 a1 a2 a3 n0 n1 n2 n3; clear hP2; have hP2 := Lib.hid hP3; clear hP3; have hnew := fun u => new_cell w2 #[u] 5 0 u rfl)
                    | (go_at_call 87; refine (rnum_i hP2.out.own hP2.out.bel.size (by simp [byL]; omega) (by omega) (by omega)).mono ?_; rintro e w2 hh; obtain ⟨ra, L2, rc, ob2, rfl, hL2, ho2, hs2⟩ := rwR2_of hh; clear hh hL2; have hP3 := hP2.out.step ho2 hs2; clear ho2 hs2; clear a0 a1 a2 a3 n0 n1 n2 n3 hnew; obtain ⟨a0, a1, a2, a3⟩ := hP3.now.cells; obtain ⟨n0, n1, n2, n3⟩ := hP3.nx.cells; (try clear f0 f1 f2 f3); have f0 := hP3.now.frozen 0; have f1 := hP3.now.frozen 1; have f2 := hP3.now.frozen 2; have f3 := hP3.now.frozen 3; dsimp only at a0 a1 a2 a3 n0 n1 n2 n3; clear hP2; have hP2 := Lib.hid hP3; clear hP3; have hnew := fun u => new_cell w2 #[u] 5 0 u rfl)
                    | (go_at_call 90; refine (rsig_c hP2.out.own hP2.out.bel.size (by simp [byL]; omega) (by omega) (by omega)).mono ?_; rintro e w2 hh; obtain ⟨ra, L2, rc, ob2, rfl, hL2, ho2, hs2⟩ := rwR2_of hh; clear hh hL2; have hP3 := hP2.out.step ho2 hs2; clear ho2 hs2; clear a0 a1 a2 a3 n0 n1 n2 n3 hnew; obtain ⟨a0, a1, a2, a3⟩ := hP3.now.cells; obtain ⟨n0, n1, n2, n3⟩ := hP3.nx.cells; (try clear f0 f1 f2 f3); have f0 := hP3.now.frozen 0; have f1 := hP3.now.frozen 1; have f2 := hP3.now.frozen 2; have f3 := hP3.now.frozen 3; dsimp only at a0 a1 a2 a3 n0 n1 n2 n3; clear hP2; have hP2 := Lib.hid hP3; clear hP3; have hnew := fun u => new_cell w2 #[u] 5 0 u rfl))
                  all_goals
                    obtain ⟨k1, k2, k3⟩ := hP2.out.fin
                    have k4 := hP2.out.o1
                    dsimp only at k1 k2 k3
                    rw [show Q1 ++ [Value.int .u8 2] ++ byL (numL (zig m2)) ++ [Value.int .u8 z] = P2 by rw [← hQ.out, hfin.out]; simp [byL], hP2f.out] at k1
                    go_roundg (gk - 1)
                    case measure => omega
                    case rel => exact ⟨k + 1, _, by omega, by omega, by go_num, k1, by rw [hnx.out]; exact k2, k4, k3⟩
            · by_cases cO3 : xo - no2 ≤ 44
              · by_cases cL : -4 ≤ xl - nl ∧ xl - nl ≤ 11
                · skip
                  obtain ⟨d, hd⟩ : ∃ d : Int, d = xo - no2 := ⟨_, rfl⟩
                  obtain ⟨e, he⟩ : ∃ e : Int, e = xl - nl := ⟨_, rfl⟩
                  rw [← hd] at cO cO3 hd0
                  rw [← he] at cL
                  obtain ⟨m, hm⟩ : ∃ m : Int, m = d % 4 := ⟨_, rfl⟩
                  obtain ⟨m2, hm2⟩ : ∃ m2 : Int, m2 = 0 := ⟨_, rfl⟩
                  obtain ⟨q, hq⟩ : ∃ q : Int, q = (d - m) / 4 := ⟨_, rfl⟩
                  obtain ⟨e9, he9⟩ : ∃ e9 : Int, e9 = e - m2 := ⟨_, rfl⟩
                  obtain ⟨z, hz⟩ : ∃ z : Int, z = 64 + 16 * q + e9 + 4 := ⟨_, rfl⟩
                  have hfin : offP (xo - no2) ++ (lineP (xl - nl) ++ [lastP (xo - no2) (xl - nl)]) = (1 :: numL m.toNat : List Int) ++ (([] : List Int) ++ [z]) := by
                    unfold offP lineP lastP
                    rw [← hd, ← he]
                    have o1 : offB d = m := by unfold offB; split <;> omega
                    have o2 : lineB e = m2 := by unfold lineB; split <;> (try split) <;> omega
                    rw [o1, o2, if_neg (by omega), if_pos (by omega), show 64 + (d - m) / 4 * 16 + (e - m2) + 4 = z by omega]
                  have hfin := Lib.hid hfin
                  have w1 : wrap64 (xo - no2) = d := by rw [wrap64_id] <;> omega
                  have w1c : xo - no2 = d := hd.symm
                  have w2 : wrap64 (xl - nl) = e := by rw [wrap64_id] <;> omega
                  have w2c : xl - nl = e := he.symm
                  have d0 : 0 ≤ d ∧ d ≤ 70000 := by omega
                  have e0 : -1100000 ≤ e ∧ e ≤ 1100000 := by omega
                  have y0 : 0 ≤ m ∧ m ≤ 70000 := by omega
                  have y1 : -1100000 ≤ m2 ∧ m2 ≤ 1100000 := by omega
                  have d2 : d % 4 = m := hm.symm
                  have d3 : d.tmod 4 = m := by rw [Int.tmod_eq_emod_of_nonneg d0.1]; exact d2
                  have d4 : (m != 0) = true := bne_iff_ne.2 (by omega)
                  have d5 : d ≤ 44 := by omega
                  have d6 : wrap64 m = m := wrap64_id (by omega) (by omega)
                  obtain ⟨d7, hd7⟩ : ∃ d7 : Int, d7 = d - m := ⟨_, rfl⟩
                  have d8 : 0 ≤ d7 ∧ d7 ≤ 44 := by omega
                  have d9 : d - m = d7 := hd7.symm
                  have d9c : wrap64 (d - m) = d7 := by rw [d9]; exact wrap64_id (by omega) (by omega)
                  have q1 : d7.tdiv 4 = q := by rw [Int.tdiv_eq_ediv_of_nonneg d8.1, hd7]; exact hq.symm
                  have q1c : d7 / 4 = q := by rw [hd7]; exact hq.symm
                  have q2 : 0 ≤ (q : Int) ∧ (q : Int) ≤ 11 := by omega
                  obtain rfl : e = e9 := by omega
                  have e1 : -4 ≤ e ∧ e ≤ 11 := by omega
                  obtain ⟨r, hr2⟩ : ∃ r : Int, r = 16 * q := ⟨_, rfl⟩
                  obtain ⟨s, hs⟩ : ∃ s : Int, s = 64 + r := ⟨_, rfl⟩
                  obtain ⟨u, hu⟩ : ∃ u : Int, u = s + e := ⟨_, rfl⟩
                  have r1c : 16 * q = r := hr2.symm
                  have s1c : 64 + r = s := hs.symm
                  have u1c : s + e = u := hu.symm
                  have z1c : u + 4 = z := by omega
                  have b1 : 0 ≤ r ∧ r ≤ 176 := by omega
                  have b2 : 0 ≤ s ∧ s ≤ 240 := by omega
                  have b3 : 0 ≤ u ∧ u ≤ 251 := by omega
                  have i1 : wrap64 q = q := wrap64_id (by omega) (by omega)
                  have i6 : wrap64 (16 * q) = r := by rw [r1c]; exact wrap64_id (by omega) (by omega)
                  have i7 : wrap64 (64 + r) = s := by rw [s1c]; exact wrap64_id (by omega) (by omega)
                  have i8 : wrap64 (s + e) = u := by rw [u1c]; exact wrap64_id (by omega) (by omega)
                  have i9 : wrap64 (u + 4) = z := by rw [z1c]; exact wrap64_id (by omega) (by omega)
                  have z0 : 0 ≤ z := by omega
                  have z1 : z < 256 := by omega
                  have z2 : z % 256 = z := by omega
                  have qm := numL_len 8 m.toNat (by omega)
                  have qz := numL_len 8 (zig m2) (by unfold zig; split <;> omega)
                  clear hd he hm hm2 hq he9 hz hr2 hs hu
                  clear hd7
                  go_wp2_with (first
                    | (at_builtin; refine wpList_append_fresh rfl _ _ 34 rfl w.heap.size 5 i0 (.int .u8 0) 1 1 Tryz.underlying34 hi hz0 hz1 hz2 rfl (by decide) _ _ _ rfl (hP2.out.own.1.alloc _) _ 1 1 _ rfl rfl (one_cell (hnew _)) (one_one rfl) (by unfold maxLen; simp [byL]; omega) (by simp [byL]; omega) (Nat.le_trans hP2.out.bel.size (by simp)) ?_; intro v' w2 hown1 hgr hfr; have hP3 := hP2.out.app hown1 hgr hfr; clear hown1 hgr hfr; obtain ⟨va2, L2, vc2, rfl, hL2⟩ := hP3.own.form2; clear hL2; clear a0 a1 a2 a3 n0 n1 n2 n3 hnew; obtain ⟨a0, a1, a2, a3⟩ := hP3.now.cells; obtain ⟨n0, n1, n2, n3⟩ := hP3.nx.cells; (try clear f0 f1 f2 f3); have f0 := hP3.now.frozen 0; have f1 := hP3.now.frozen 1; have f2 := hP3.now.frozen 2; have f3 := hP3.now.frozen 3; dsimp only at a0 a1 a2 a3 n0 n1 n2 n3; clear hP2; have hP2 := Lib.hid hP3; clear hP3; have hnew := fun u => new_cell w2 #[u] 5 0 u rfl)
                    | (go_at_call 87; refine (rnum_i hP2.out.own hP2.out.bel.size (by simp [byL]; omega) (by omega) (by omega)).mono ?_; rintro e w2 hh; obtain ⟨ra, L2, rc, ob2, rfl, hL2, ho2, hs2⟩ := rwR2_of hh; clear hh hL2; have hP3 := hP2.out.step ho2 hs2; clear ho2 hs2; clear a0 a1 a2 a3 n0 n1 n2 n3 hnew; obtain ⟨a0, a1, a2, a3⟩ := hP3.now.cells; obtain ⟨n0, n1, n2, n3⟩ := hP3.nx.cells; (try clear f0 f1 f2 f3); have f0 := hP3.now.frozen 0; have f1 := hP3.now.frozen 1; have f2 := hP3.now.frozen 2; have f3 := hP3.now.frozen 3; dsimp only at a0 a1 a2 a3 n0 n1 n2 n3; clear hP2; have hP2 := Lib.hid hP3; clear hP3; have hnew := fun u => new_cell w2 #[u] 5 0 u rfl)
                    | (go_at_call 90; refine (rsig_c hP2.out.own hP2.out.bel.size (by simp [byL]; omega) (by omega) (by omega)).mono ?_; rintro e w2 hh; obtain ⟨ra, L2, rc, ob2, rfl, hL2, ho2, hs2⟩ := rwR2_of hh; clear hh hL2; have hP3 := hP2.out.step ho2 hs2; clear ho2 hs2; clear a0 a1 a2 a3 n0 n1 n2 n3 hnew; obtain ⟨a0, a1, a2, a3⟩ := hP3.now.cells; obtain ⟨n0, n1, n2, n3⟩ := hP3.nx.cells; (try clear f0 f1 f2 f3); have f0 := hP3.now.frozen 0; have f1 := hP3.now.frozen 1; have f2 := hP3.now.frozen 2; have f3 := hP3.now.frozen 3; dsimp only at a0 a1 a2 a3 n0 n1 n2 n3; clear hP2; have hP2 := Lib.hid hP3; clear hP3; have hnew := fun u => new_cell w2 #[u] 5 0 u rfl))
                  all_goals
                    obtain ⟨k1, k2, k3⟩ := hP2.out.fin
                    have k4 := hP2.out.o1
                    dsimp only at k1 k2 k3
                    rw [show Q1 ++ [Value.int .u8 1] ++ byL (numL m.toNat) ++ [Value.int .u8 z] = P2 by rw [← hQ.out, hfin.out]; simp [byL], hP2f.out] at k1
                    go_roundg (gk - 1)
                    case measure => omega
                    case rel => exact ⟨k + 1, _, by omega, by omega, by go_num, k1, by rw [hnx.out]; exact k2, k4, k3⟩
                · by_cases cL3 : 11 < xl - nl
                  · skip
                    obtain ⟨d, hd⟩ : ∃ d : Int, d = xo - no2 := ⟨_, rfl⟩
                    obtain ⟨e, he⟩ : ∃ e : Int, e = xl - nl := ⟨_, rfl⟩
                    rw [← hd] at cO cO3 hd0
                    rw [← he] at cL cL3
                    obtain ⟨m, hm⟩ : ∃ m : Int, m = d % 4 := ⟨_, rfl⟩
                    obtain ⟨m2, hm2⟩ : ∃ m2 : Int, m2 = e - 11 := ⟨_, rfl⟩
                    obtain ⟨q, hq⟩ : ∃ q : Int, q = (d - m) / 4 := ⟨_, rfl⟩
                    obtain ⟨e9, he9⟩ : ∃ e9 : Int, e9 = e - m2 := ⟨_, rfl⟩
                    obtain ⟨z, hz⟩ : ∃ z : Int, z = 64 + 16 * q + e9 + 4 := ⟨_, rfl⟩
                    have hfin : offP (xo - no2) ++ (lineP (xl - nl) ++ [lastP (xo - no2) (xl - nl)]) = (1 :: numL m.toNat : List Int) ++ ((2 :: numL (zig m2) : List Int) ++ [z]) := by
                      unfold offP lineP lastP
                      rw [← hd, ← he]
                      have o1 : offB d = m := by unfold offB; split <;> omega
                      have o2 : lineB e = m2 := by unfold lineB; split <;> (try split) <;> omega
                      rw [o1, o2, if_neg (by omega), if_neg (by omega), show 64 + (d - m) / 4 * 16 + (e - m2) + 4 = z by omega]
                    have hfin := Lib.hid hfin
                    have w1 : wrap64 (xo - no2) = d := by rw [wrap64_id] <;> omega
                    have w1c : xo - no2 = d := hd.symm
                    have w2 : wrap64 (xl - nl) = e := by rw [wrap64_id] <;> omega
                    have w2c : xl - nl = e := he.symm
                    have d0 : 0 ≤ d ∧ d ≤ 70000 := by omega
                    have e0 : -1100000 ≤ e ∧ e ≤ 1100000 := by omega
                    have y0 : 0 ≤ m ∧ m ≤ 70000 := by omega
                    have y1 : -1100000 ≤ m2 ∧ m2 ≤ 1100000 := by omega
                    have d2 : d % 4 = m := hm.symm
                    have d3 : d.tmod 4 = m := by rw [Int.tmod_eq_emod_of_nonneg d0.1]; exact d2
                    have d4 : (m != 0) = true := bne_iff_ne.2 (by omega)
                    have d5 : d ≤ 44 := by omega
                    have d6 : wrap64 m = m := wrap64_id (by omega) (by omega)
                    obtain ⟨d7, hd7⟩ : ∃ d7 : Int, d7 = d - m := ⟨_, rfl⟩
                    have d8 : 0 ≤ d7 ∧ d7 ≤ 44 := by omega
                    have d9 : d - m = d7 := hd7.symm
                    have d9c : wrap64 (d - m) = d7 := by rw [d9]; exact wrap64_id (by omega) (by omega)
                    have q1 : d7.tdiv 4 = q := by rw [Int.tdiv_eq_ediv_of_nonneg d8.1, hd7]; exact hq.symm
                    have q1c : d7 / 4 = q := by rw [hd7]; exact hq.symm
                    have q2 : 0 ≤ (q : Int) ∧ (q : Int) ≤ 11 := by omega
                    have e1 : 11 < e := by omega
                    have e2 : e - 11 = m2 := hm2.symm
                    have e3 : wrap64 (e - 11) = m2 := by rw [e2]; exact wrap64_id (by omega) (by omega)
                    obtain rfl : e9 = 11 := by omega
                    obtain ⟨r, hr2⟩ : ∃ r : Int, r = 16 * q := ⟨_, rfl⟩
                    obtain ⟨s, hs⟩ : ∃ s : Int, s = 64 + r := ⟨_, rfl⟩
                    obtain ⟨u, hu⟩ : ∃ u : Int, u = s + 11 := ⟨_, rfl⟩
                    have r1c : 16 * q = r := hr2.symm
                    have s1c : 64 + r = s := hs.symm
                    have u1c : s + 11 = u := hu.symm
                    have z1c : u + 4 = z := by omega
                    have b1 : 0 ≤ r ∧ r ≤ 176 := by omega
                    have b2 : 0 ≤ s ∧ s ≤ 240 := by omega
                    have b3 : 0 ≤ u ∧ u ≤ 251 := by omega
                    have i1 : wrap64 q = q := wrap64_id (by omega) (by omega)
                    have i6 : wrap64 (16 * q) = r := by rw [r1c]; exact wrap64_id (by omega) (by omega)
                    have i7 : wrap64 (64 + r) = s := by rw [s1c]; exact wrap64_id (by omega) (by omega)
                    have i8 : wrap64 (s + 11) = u := by rw [u1c]; exact wrap64_id (by omega) (by omega)
                    have i9 : wrap64 (u + 4) = z := by rw [z1c]; exact wrap64_id (by omega) (by omega)
                    have z0 : 0 ≤ z := by omega
                    have z1 : z < 256 := by omega
                    have z2 : z % 256 = z := by omega
                    have qm := numL_len 8 m.toNat (by omega)
                    have qz := numL_len 8 (zig m2) (by unfold zig; split <;> omega)
                    clear hd he hm hm2 hq he9 hz hr2 hs hu
                    clear hd7
                    go_wp2_with (first
                      | (at_builtin; refine wpList_append_fresh rfl _ _ 34 rfl w.heap.size 5 i0 (.int .u8 0) 1 1 Tryz.underlying34 hi hz0 hz1 hz2 rfl (by decide) _ _ _ rfl (hP2.out.own.1.alloc _) _ 1 1 _ rfl rfl (one_cell (hnew _)) (one_one rfl) (by unfold maxLen; simp [byL]; omega) (by simp [byL]; omega) (Nat.le_trans hP2.out.bel.size (by simp)) ?_; intro v' w2 hown1 hgr hfr; have hP3 := hP2.out.app hown1 hgr hfr; clear hown1 hgr hfr; obtain ⟨va2, L2, vc2, rfl, hL2⟩ := hP3.own.form2; clear hL2; clear a0 a1 a2 a3 n0 n1 n2 n3 hnew; obtain ⟨a0, a1, a2, a3⟩ := hP3.now.cells; obtain ⟨n0, n1, n2, n3⟩ := hP3.nx.cells; (try clear f0 f1 f2 f3); have f0 := hP3.now.frozen 0; have f1 := hP3.now.frozen 1; have f2 := hP3.now.frozen 2; have f3 := hP3.now.frozen 3; dsimp only at a0 a1 a2 a3 n0 n1 n2 n3; clear hP2; have hP2 := Lib.hid hP3; clear hP3; have hnew := fun u => new_cell w2 #[u] 5 0 u rfl)
                      | (go_at_call 87; refine (rnum_i hP2.out.own hP2.out.bel.size (by simp [byL]; omega) (by omega) (by omega)).mono ?_; rintro e w2 hh; obtain ⟨ra, L2, rc, ob2, rfl, hL2, ho2, hs2⟩ := rwR2_of hh; clear hh hL2; have hP3 := hP2.out.step ho2 hs2; clear ho2 hs2; clear a0 a1 a2 a3 n0 n1 n2 n3 hnew; obtain ⟨a0, a1, a2, a3⟩ := hP3.now.cells; obtain ⟨n0, n1, n2, n3⟩ := hP3.nx.cells; (try clear f0 f1 f2 f3); have f0 := hP3.now.frozen 0; have f1 := hP3.now.frozen 1; have f2 := hP3.now.frozen 2; have f3 := hP3.now.frozen 3; dsimp only at a0 a1 a2 a3 n0 n1 n2 n3; clear hP2; have hP2 := Lib.hid hP3; clear hP3; have hnew := fun u => new_cell w2 #[u] 5 0 u rfl)
                      | (go_at_call 90; refine (rsig_c hP2.out.own hP2.out.bel.size (by simp [byL]; omega) (by omega) (by omega)).mono ?_; rintro e w2 hh; obtain ⟨ra, L2, rc, ob2, rfl, hL2, ho2, hs2⟩ := rwR2_of hh; clear hh hL2; have hP3 := hP2.out.step ho2 hs2; clear ho2 hs2; clear a0 a1 a2 a3 n0 n1 n2 n3 hnew; obtain ⟨a0, a1, a2, a3⟩ := hP3.now.cells; obtain ⟨n0, n1, n2, n3⟩ := hP3.nx.cells; (try clear f0 f1 f2 f3); have f0 := hP3.now.frozen 0; have f1 := hP3.now.frozen 1; have f2 := hP3.now.frozen 2; have f3 := hP3.now.frozen 3; dsimp only at a0 a1 a2 a3 n0 n1 n2 n3; clear hP2; have hP2 := Lib.hid hP3; clear hP3; have hnew := fun u => new_cell w2 #[u] 5 0 u rfl))
                    all_goals
                      obtain ⟨k1, k2, k3⟩ := hP2.out.fin
                      have k4 := hP2.out.o1
                      dsimp only at k1 k2 k3
                      rw [show Q1 ++ [Value.int .u8 1] ++ byL (numL m.toNat) ++ [Value.int .u8 2] ++ byL (numL (zig m2)) ++ [Value.int .u8 z] = P2 by rw [← hQ.out, hfin.out]; simp [byL], hP2f.out] at k1
                      go_roundg (gk - 1)
                      case measure => omega
                      case rel => exact ⟨k + 1, _, by omega, by omega, by go_num, k1, by rw [hnx.out]; exact k2, k4, k3⟩
                  · skip
                    obtain ⟨d, hd⟩ : ∃ d : Int, d = xo - no2 := ⟨_, rfl⟩
                    obtain ⟨e, he⟩ : ∃ e : Int, e = xl - nl := ⟨_, rfl⟩
                    rw [← hd] at cO cO3 hd0
                    rw [← he] at cL cL3
                    obtain ⟨m, hm⟩ : ∃ m : Int, m = d % 4 := ⟨_, rfl⟩
                    obtain ⟨m2, hm2⟩ : ∃ m2 : Int, m2 = e + 4 := ⟨_, rfl⟩
                    obtain ⟨q, hq⟩ : ∃ q : Int, q = (d - m) / 4 := ⟨_, rfl⟩
                    obtain ⟨e9, he9⟩ : ∃ e9 : Int, e9 = e - m2 := ⟨_, rfl⟩
                    obtain ⟨z, hz⟩ : ∃ z : Int, z = 64 + 16 * q + e9 + 4 := ⟨_, rfl⟩
                    have hfin : offP (xo - no2) ++ (lineP (xl - nl) ++ [lastP (xo - no2) (xl - nl)]) = (1 :: numL m.toNat : List Int) ++ ((2 :: numL (zig m2) : List Int) ++ [z]) := by
                      unfold offP lineP lastP
                      rw [← hd, ← he]
                      have o1 : offB d = m := by unfold offB; split <;> omega
                      have o2 : lineB e = m2 := by unfold lineB; split <;> (try split) <;> omega
                      rw [o1, o2, if_neg (by omega), if_neg (by omega), show 64 + (d - m) / 4 * 16 + (e - m2) + 4 = z by omega]
                    have hfin := Lib.hid hfin
                    have w1 : wrap64 (xo - no2) = d := by rw [wrap64_id] <;> omega
                    have w1c : xo - no2 = d := hd.symm
                    have w2 : wrap64 (xl - nl) = e := by rw [wrap64_id] <;> omega
                    have w2c : xl - nl = e := he.symm
                    have d0 : 0 ≤ d ∧ d ≤ 70000 := by omega
                    have e0 : -1100000 ≤ e ∧ e ≤ 1100000 := by omega
                    have y0 : 0 ≤ m ∧ m ≤ 70000 := by omega
                    have y1 : -1100000 ≤ m2 ∧ m2 ≤ 1100000 := by omega
                    have d2 : d % 4 = m := hm.symm
                    have d3 : d.tmod 4 = m := by rw [Int.tmod_eq_emod_of_nonneg d0.1]; exact d2
                    have d4 : (m != 0) = true := bne_iff_ne.2 (by omega)
                    have d5 : d ≤ 44 := by omega
                    have d6 : wrap64 m = m := wrap64_id (by omega) (by omega)
                    obtain ⟨d7, hd7⟩ : ∃ d7 : Int, d7 = d - m := ⟨_, rfl⟩
                    have d8 : 0 ≤ d7 ∧ d7 ≤ 44 := by omega
                    have d9 : d - m = d7 := hd7.symm
                    have d9c : wrap64 (d - m) = d7 := by rw [d9]; exact wrap64_id (by omega) (by omega)
                    have q1 : d7.tdiv 4 = q := by rw [Int.tdiv_eq_ediv_of_nonneg d8.1, hd7]; exact hq.symm
                    have q1c : d7 / 4 = q := by rw [hd7]; exact hq.symm
                    have q2 : 0 ≤ (q : Int) ∧ (q : Int) ≤ 11 := by omega
                    have e1 : e < -4 := by omega
                    have e2 : e + 4 = m2 := hm2.symm
                    have e3 : wrap64 (e + 4) = m2 := by rw [e2]; exact wrap64_id (by omega) (by omega)
                    obtain rfl : e9 = -4 := by omega
                    obtain ⟨r, hr2⟩ : ∃ r : Int, r = 16 * q := ⟨_, rfl⟩
                    obtain ⟨s, hs⟩ : ∃ s : Int, s = 64 + r := ⟨_, rfl⟩
                    obtain ⟨u, hu⟩ : ∃ u : Int, u = s + (-4) := ⟨_, rfl⟩
                    have r1c : 16 * q = r := hr2.symm
                    have s1c : 64 + r = s := hs.symm
                    have u1c : s + (-4) = u := hu.symm
                    have z1c : u + 4 = z := by omega
                    have b1 : 0 ≤ r ∧ r ≤ 176 := by omega
                    have b2 : 0 ≤ s ∧ s ≤ 240 := by omega
                    have b3 : 0 ≤ u ∧ u ≤ 251 := by omega
                    have i1 : wrap64 q = q := wrap64_id (by omega) (by omega)
                    have i6 : wrap64 (16 * q) = r := by rw [r1c]; exact wrap64_id (by omega) (by omega)
                    have i7 : wrap64 (64 + r) = s := by rw [s1c]; exact wrap64_id (by omega) (by omega)
                    have i8 : wrap64 (s + (-4)) = u := by rw [u1c]; exact wrap64_id (by omega) (by omega)
                    have i9 : wrap64 (u + 4) = z := by rw [z1c]; exact wrap64_id (by omega) (by omega)
                    have z0 : 0 ≤ z := by omega
                    have z1 : z < 256 := by omega
                    have z2 : z % 256 = z := by omega
                    have qm := numL_len 8 m.toNat (by omega)
                    have qz := numL_len 8 (zig m2) (by unfold zig; split <;> omega)
                    clear hd he hm hm2 hq he9 hz hr2 hs hu
                    clear hd7
                    go_wp2_with (first
                      | (at_builtin; refine wpList_append_fresh rfl _ _ 34 rfl w.heap.size 5 i0 (.int .u8 0) 1 1 Tryz.underlying34 hi hz0 hz1 hz2 rfl (by decide) _ _ _ rfl (hP2.out.own.1.alloc _) _ 1 1 _ rfl rfl (one_cell (hnew _)) (one_one rfl) (by unfold maxLen; simp [byL]; omega) (by simp [byL]; omega) (Nat.le_trans hP2.out.bel.size (by simp)) ?_; intro v' w2 hown1 hgr hfr; have hP3 := hP2.out.app hown1 hgr hfr; clear hown1 hgr hfr; obtain ⟨va2, L2, vc2, rfl, hL2⟩ := hP3.own.form2; clear hL2; clear a0 a1 a2 a3 n0 n1 n2 n3 hnew; obtain ⟨a0, a1, a2, a3⟩ := hP3.now.cells; obtain ⟨n0, n1, n2, n3⟩ := hP3.nx.cells; (try clear f0 f1 f2 f3); have f0 := hP3.now.frozen 0; have f1 := hP3.now.frozen 1; have f2 := hP3.now.frozen 2; have f3 := hP3.now.frozen 3; dsimp only at a0 a1 a2 a3 n0 n1 n2 n3; clear hP2; have hP2 := Lib.hid hP3; clear hP3; have hnew := fun u => new_cell w2 #[u] 5 0 u rfl)
                      | (go_at_call 87; refine (rnum_i hP2.out.own hP2.out.bel.size (by simp [byL]; omega) (by omega) (by omega)).mono ?_; rintro e w2 hh; obtain ⟨ra, L2, rc, ob2, rfl, hL2, ho2, hs2⟩ := rwR2_of hh; clear hh hL2; have hP3 := hP2.out.step ho2 hs2; clear ho2 hs2; clear a0 a1 a2 a3 n0 n1 n2 n3 hnew; obtain ⟨a0, a1, a2, a3⟩ := hP3.now.cells; obtain ⟨n0, n1, n2, n3⟩ := hP3.nx.cells; (try clear f0 f1 f2 f3); have f0 := hP3.now.frozen 0; have f1 := hP3.now.frozen 1; have f2 := hP3.now.frozen 2; have f3 := hP3.now.frozen 3; dsimp only at a0 a1 a2 a3 n0 n1 n2 n3; clear hP2; have hP2 := Lib.hid hP3; clear hP3; have hnew := fun u => new_cell w2 #[u] 5 0 u rfl)
                      | (go_at_call 90; refine (rsig_c hP2.out.own hP2.out.bel.size (by simp [byL]; omega) (by omega) (by omega)).mono ?_; rintro e w2 hh; obtain ⟨ra, L2, rc, ob2, rfl, hL2, ho2, hs2⟩ := rwR2_of hh; clear hh hL2; have hP3 := hP2.out.step ho2 hs2; clear ho2 hs2; clear a0 a1 a2 a3 n0 n1 n2 n3 hnew; obtain ⟨a0, a1, a2, a3⟩ := hP3.now.cells; obtain ⟨n0, n1, n2, n3⟩ := hP3.nx.cells; (try clear f0 f1 f2 f3); have f0 := hP3.now.frozen 0; have f1 := hP3.now.frozen 1; have f2 := hP3.now.frozen 2; have f3 := hP3.now.frozen 3; dsimp only at a0 a1 a2 a3 n0 n1 n2 n3; clear hP2; have hP2 := Lib.hid hP3; clear hP3; have hnew := fun u => new_cell w2 #[u] 5 0 u rfl))
                    all_goals
                      obtain ⟨k1, k2, k3⟩ := hP2.out.fin
                      have k4 := hP2.out.o1
                      dsimp only at k1 k2 k3
                      rw [show Q1 ++ [Value.int .u8 1] ++ byL (numL m.toNat) ++ [Value.int .u8 2] ++ byL (numL (zig m2)) ++ [Value.int .u8 z] = P2 by rw [← hQ.out, hfin.out]; simp [byL], hP2f.out] at k1
                      go_roundg (gk - 1)
                      case measure => omega
                      case rel => exact ⟨k + 1, _, by omega, by omega, by go_num, k1, by rw [hnx.out]; exact k2, k4, k3⟩
              · by_cases cL : -4 ≤ xl - nl ∧ xl - nl ≤ 11
                · skip
                  obtain ⟨d, hd⟩ : ∃ d : Int, d = xo - no2 := ⟨_, rfl⟩
                  obtain ⟨e, he⟩ : ∃ e : Int, e = xl - nl := ⟨_, rfl⟩
                  rw [← hd] at cO cO3 hd0
                  rw [← he] at cL
                  obtain ⟨m, hm⟩ : ∃ m : Int, m = d - 44 := ⟨_, rfl⟩
                  obtain ⟨m2, hm2⟩ : ∃ m2 : Int, m2 = 0 := ⟨_, rfl⟩
                  obtain ⟨q, hq⟩ : ∃ q : Int, q = (d - m) / 4 := ⟨_, rfl⟩
                  obtain ⟨e9, he9⟩ : ∃ e9 : Int, e9 = e - m2 := ⟨_, rfl⟩
                  obtain ⟨z, hz⟩ : ∃ z : Int, z = 64 + 16 * q + e9 + 4 := ⟨_, rfl⟩
                  have hfin : offP (xo - no2) ++ (lineP (xl - nl) ++ [lastP (xo - no2) (xl - nl)]) = (1 :: numL m.toNat : List Int) ++ (([] : List Int) ++ [z]) := by
                    unfold offP lineP lastP
                    rw [← hd, ← he]
                    have o1 : offB d = m := by unfold offB; split <;> omega
                    have o2 : lineB e = m2 := by unfold lineB; split <;> (try split) <;> omega
                    rw [o1, o2, if_neg (by omega), if_pos (by omega), show 64 + (d - m) / 4 * 16 + (e - m2) + 4 = z by omega]
                  have hfin := Lib.hid hfin
                  have w1 : wrap64 (xo - no2) = d := by rw [wrap64_id] <;> omega
                  have w1c : xo - no2 = d := hd.symm
                  have w2 : wrap64 (xl - nl) = e := by rw [wrap64_id] <;> omega
                  have w2c : xl - nl = e := he.symm
                  have d0 : 0 ≤ d ∧ d ≤ 70000 := by omega
                  have e0 : -1100000 ≤ e ∧ e ≤ 1100000 := by omega
                  have y0 : 0 ≤ m ∧ m ≤ 70000 := by omega
                  have y1 : -1100000 ≤ m2 ∧ m2 ≤ 1100000 := by omega
                  have d3 : d.tmod 4 = d % 4 := Int.tmod_eq_emod_of_nonneg d0.1
                  have d5 : 44 < d := by omega
                  have d6 : d - 44 = m := hm.symm
                  have d6c : wrap64 (d - 44) = m := by rw [d6]; exact wrap64_id (by omega) (by omega)
                  have d9 : d - m = 44 := by omega
                  have d9c : wrap64 (d - m) = 44 := by rw [d9]; exact wrap64_id (by omega) (by omega)
                  obtain rfl : q = 11 := by omega
                  have d4 : wrap64 (d % 4) = d % 4 := wrap64_id (by omega) (by omega)
                  have q2 : 0 ≤ (11 : Int) ∧ (11 : Int) ≤ 11 := by omega
                  obtain rfl : e = e9 := by omega
                  have e1 : -4 ≤ e ∧ e ≤ 11 := by omega
                  obtain ⟨r, hr2⟩ : ∃ r : Int, r = 16 * 11 := ⟨_, rfl⟩
                  obtain ⟨s, hs⟩ : ∃ s : Int, s = 64 + r := ⟨_, rfl⟩
                  obtain ⟨u, hu⟩ : ∃ u : Int, u = s + e := ⟨_, rfl⟩
                  have u1c : 240 + e = u := by omega
                  have z1c : u + 4 = z := by omega
                  have b3 : 0 ≤ u ∧ u ≤ 251 := by omega
                  have i8 : wrap64 (240 + e) = u := by rw [u1c]; exact wrap64_id (by omega) (by omega)
                  have i9 : wrap64 (u + 4) = z := by rw [z1c]; exact wrap64_id (by omega) (by omega)
                  have z0 : 0 ≤ z := by omega
                  have z1 : z < 256 := by omega
                  have z2 : z % 256 = z := by omega
                  have qm := numL_len 8 m.toNat (by omega)
                  have qz := numL_len 8 (zig m2) (by unfold zig; split <;> omega)
                  clear hd he hm hm2 hq he9 hz hr2 hs hu
                  go_wp2_with (first
                    | (at_builtin; refine wpList_append_fresh rfl _ _ 34 rfl w.heap.size 5 i0 (.int .u8 0) 1 1 Tryz.underlying34 hi hz0 hz1 hz2 rfl (by decide) _ _ _ rfl (hP2.out.own.1.alloc _) _ 1 1 _ rfl rfl (one_cell (hnew _)) (one_one rfl) (by unfold maxLen; simp [byL]; omega) (by simp [byL]; omega) (Nat.le_trans hP2.out.bel.size (by simp)) ?_; intro v' w2 hown1 hgr hfr; have hP3 := hP2.out.app hown1 hgr hfr; clear hown1 hgr hfr; obtain ⟨va2, L2, vc2, rfl, hL2⟩ := hP3.own.form2; clear hL2; clear a0 a1 a2 a3 n0 n1 n2 n3 hnew; obtain ⟨a0, a1, a2, a3⟩ := hP3.now.cells; obtain ⟨n0, n1, n2, n3⟩ := hP3.nx.cells; (try clear f0 f1 f2 f3); have f0 := hP3.now.frozen 0; have f1 := hP3.now.frozen 1; have f2 := hP3.now.frozen 2; have f3 := hP3.now.frozen 3; dsimp only at a0 a1 a2 a3 n0 n1 n2 n3; clear hP2; have hP2 := Lib.hid hP3; clear hP3; have hnew := fun u => new_cell w2 #[u] 5 0 u rfl)
                    | (go_at_call 87; refine (rnum_i hP2.out.own hP2.out.bel.size (by simp [byL]; omega) (by omega) (by omega)).mono ?_; rintro e w2 hh; obtain ⟨ra, L2, rc, ob2, rfl, hL2, ho2, hs2⟩ := rwR2_of hh; clear hh hL2; have hP3 := hP2.out.step ho2 hs2; clear ho2 hs2; clear a0 a1 a2 a3 n0 n1 n2 n3 hnew; obtain ⟨a0, a1, a2, a3⟩ := hP3.now.cells; obtain ⟨n0, n1, n2, n3⟩ := hP3.nx.cells; (try clear f0 f1 f2 f3); have f0 := hP3.now.frozen 0; have f1 := hP3.now.frozen 1; have f2 := hP3.now.frozen 2; have f3 := hP3.now.frozen 3; dsimp only at a0 a1 a2 a3 n0 n1 n2 n3; clear hP2; have hP2 := Lib.hid hP3; clear hP3; have hnew := fun u => new_cell w2 #[u] 5 0 u rfl)
                    | (go_at_call 90; refine (rsig_c hP2.out.own hP2.out.bel.size (by simp [byL]; omega) (by omega) (by omega)).mono ?_; rintro e w2 hh; obtain ⟨ra, L2, rc, ob2, rfl, hL2, ho2, hs2⟩ := rwR2_of hh; clear hh hL2; have hP3 := hP2.out.step ho2 hs2; clear ho2 hs2; clear a0 a1 a2 a3 n0 n1 n2 n3 hnew; obtain ⟨a0, a1, a2, a3⟩ := hP3.now.cells; obtain ⟨n0, n1, n2, n3⟩ := hP3.nx.cells; (try clear f0 f1 f2 f3); have f0 := hP3.now.frozen 0; have f1 := hP3.now.frozen 1; have f2 := hP3.now.frozen 2; have f3 := hP3.now.frozen 3; dsimp only at a0 a1 a2 a3 n0 n1 n2 n3; clear hP2; have hP2 := Lib.hid hP3; clear hP3; have hnew := fun u => new_cell w2 #[u] 5 0 u rfl))
                  all_goals
                    obtain ⟨k1, k2, k3⟩ := hP2.out.fin
                    have k4 := hP2.out.o1
                    dsimp only at k1 k2 k3
                    rw [show Q1 ++ [Value.int .u8 1] ++ byL (numL m.toNat) ++ [Value.int .u8 z] = P2 by rw [← hQ.out, hfin.out]; simp [byL], hP2f.out] at k1
                    go_roundg (gk - 1)
                    case measure => omega
                    case rel => exact ⟨k + 1, _, by omega, by omega, by go_num, k1, by rw [hnx.out]; exact k2, k4, k3⟩
                · by_cases cL3 : 11 < xl - nl
                  · skip
                    obtain ⟨d, hd⟩ : ∃ d : Int, d = xo - no2 := ⟨_, rfl⟩
                    obtain ⟨e, he⟩ : ∃ e : Int, e = xl - nl := ⟨_, rfl⟩
                    rw [← hd] at cO cO3 hd0
                    rw [← he] at cL cL3
                    obtain ⟨m, hm⟩ : ∃ m : Int, m = d - 44 := ⟨_, rfl⟩
                    obtain ⟨m2, hm2⟩ : ∃ m2 : Int, m2 = e - 11 := ⟨_, rfl⟩
                    obtain ⟨q, hq⟩ : ∃ q : Int, q = (d - m) / 4 := ⟨_, rfl⟩
                    obtain ⟨e9, he9⟩ : ∃ e9 : Int, e9 = e - m2 := ⟨_, rfl⟩
                    obtain ⟨z, hz⟩ : ∃ z : Int, z = 64 + 16 * q + e9 + 4 := ⟨_, rfl⟩
                    have hfin : offP (xo - no2) ++ (lineP (xl - nl) ++ [lastP (xo - no2) (xl - nl)]) = (1 :: numL m.toNat : List Int) ++ ((2 :: numL (zig m2) : List Int) ++ [z]) := by
                      unfold offP lineP lastP
                      rw [← hd, ← he]
                      have o1 : offB d = m := by unfold offB; split <;> omega
                      have o2 : lineB e = m2 := by unfold lineB; split <;> (try split) <;> omega
                      rw [o1, o2, if_neg (by omega), if_neg (by omega), show 64 + (d - m) / 4 * 16 + (e - m2) + 4 = z by omega]
                    have hfin := Lib.hid hfin
                    have w1 : wrap64 (xo - no2) = d := by rw [wrap64_id] <;> omega
                    have w1c : xo - no2 = d := hd.symm
                    have w2 : wrap64 (xl - nl) = e := by rw [wrap64_id] <;> omega
                    have w2c : xl - nl = e := he.symm
                    have d0 : 0 ≤ d ∧ d ≤ 70000 := by omega
                    have e0 : -1100000 ≤ e ∧ e ≤ 1100000 := by omega
                    have y0 : 0 ≤ m ∧ m ≤ 70000 := by omega
                    have y1 : -1100000 ≤ m2 ∧ m2 ≤ 1100000 := by omega
                    have d3 : d.tmod 4 = d % 4 := Int.tmod_eq_emod_of_nonneg d0.1
                    have d5 : 44 < d := by omega
                    have d6 : d - 44 = m := hm.symm
                    have d6c : wrap64 (d - 44) = m := by rw [d6]; exact wrap64_id (by omega) (by omega)
                    have d9 : d - m = 44 := by omega
                    have d9c : wrap64 (d - m) = 44 := by rw [d9]; exact wrap64_id (by omega) (by omega)
                    obtain rfl : q = 11 := by omega
                    have d4 : wrap64 (d % 4) = d % 4 := wrap64_id (by omega) (by omega)
                    have q2 : 0 ≤ (11 : Int) ∧ (11 : Int) ≤ 11 := by omega
                    have e1 : 11 < e := by omega
                    have e2 : e - 11 = m2 := hm2.symm
                    have e3 : wrap64 (e - 11) = m2 := by rw [e2]; exact wrap64_id (by omega) (by omega)
                    obtain rfl : e9 = 11 := by omega
                    obtain ⟨r, hr2⟩ : ∃ r : Int, r = 16 * 11 := ⟨_, rfl⟩
                    obtain ⟨s, hs⟩ : ∃ s : Int, s = 64 + r := ⟨_, rfl⟩
                    obtain ⟨u, hu⟩ : ∃ u : Int, u = s + 11 := ⟨_, rfl⟩
                    have u1c : 240 + 11 = u := by omega
                    have z1c : u + 4 = z := by omega
                    have b3 : 0 ≤ u ∧ u ≤ 251 := by omega
                    have i8 : wrap64 (240 + 11) = u := by rw [u1c]; exact wrap64_id (by omega) (by omega)
                    have i9 : wrap64 (u + 4) = z := by rw [z1c]; exact wrap64_id (by omega) (by omega)
                    have z0 : 0 ≤ z := by omega
                    have z1 : z < 256 := by omega
                    have z2 : z % 256 = z := by omega
                    have qm := numL_len 8 m.toNat (by omega)
                    have qz := numL_len 8 (zig m2) (by unfold zig; split <;> omega)
                    clear hd he hm hm2 hq he9 hz hr2 hs hu
                    go_wp2_with (first
                      | (at_builtin; refine wpList_append_fresh rfl _ _ 34 rfl w.heap.size 5 i0 (.int .u8 0) 1 1 Tryz.underlying34 hi hz0 hz1 hz2 rfl (by decide) _ _ _ rfl (hP2.out.own.1.alloc _) _ 1 1 _ rfl rfl (one_cell (hnew _)) (one_one rfl) (by unfold maxLen; simp [byL]; omega) (by simp [byL]; omega) (Nat.le_trans hP2.out.bel.size (by simp)) ?_; intro v' w2 hown1 hgr hfr; have hP3 := hP2.out.app hown1 hgr hfr; clear hown1 hgr hfr; obtain ⟨va2, L2, vc2, rfl, hL2⟩ := hP3.own.form2; clear hL2; clear a0 a1 a2 a3 n0 n1 n2 n3 hnew; obtain ⟨a0, a1, a2, a3⟩ := hP3.now.cells; obtain ⟨n0, n1, n2, n3⟩ := hP3.nx.cells; (try clear f0 f1 f2 f3); have f0 := hP3.now.frozen 0; have f1 := hP3.now.frozen 1; have f2 := hP3.now.frozen 2; have f3 := hP3.now.frozen 3; dsimp only at a0 a1 a2 a3 n0 n1 n2 n3; clear hP2; have hP2 := Lib.hid hP3; clear hP3; have hnew := fun u => new_cell w2 #[u] 5 0 u rfl)
                      | (go_at_call 87; refine (rnum_i hP2.out.own hP2.out.bel.size (by simp [byL]; omega) (by omega) (by omega)).mono ?_; rintro e w2 hh; obtain ⟨ra, L2, rc, ob2, rfl, hL2, ho2, hs2⟩ := rwR2_of hh; clear hh hL2; have hP3 := hP2.out.step ho2 hs2; clear ho2 hs2; clear a0 a1 a2 a3 n0 n1 n2 n3 hnew; obtain ⟨a0, a1, a2, a3⟩ := hP3.now.cells; obtain ⟨n0, n1, n2, n3⟩ := hP3.nx.cells; (try clear f0 f1 f2 f3); have f0 := hP3.now.frozen 0; have f1 := hP3.now.frozen 1; have f2 := hP3.now.frozen 2; have f3 := hP3.now.frozen 3; dsimp only at a0 a1 a2 a3 n0 n1 n2 n3; clear hP2; have hP2 := Lib.hid hP3; clear hP3; have hnew := fun u => new_cell w2 #[u] 5 0 u rfl)
                      | (go_at_call 90; refine (rsig_c hP2.out.own hP2.out.bel.size (by simp [byL]; omega) (by omega) (by omega)).mono ?_; rintro e w2 hh; obtain ⟨ra, L2, rc, ob2, rfl, hL2, ho2, hs2⟩ := rwR2_of hh; clear hh hL2; have hP3 := hP2.out.step ho2 hs2; clear ho2 hs2; clear a0 a1 a2 a3 n0 n1 n2 n3 hnew; obtain ⟨a0, a1, a2, a3⟩ := hP3.now.cells; obtain ⟨n0, n1, n2, n3⟩ := hP3.nx.cells; (try clear f0 f1 f2 f3); have f0 := hP3.now.frozen 0; have f1 := hP3.now.frozen 1; have f2 := hP3.now.frozen 2; have f3 := hP3.now.frozen 3; dsimp only at a0 a1 a2 a3 n0 n1 n2 n3; clear hP2; have hP2 := Lib.hid hP3; clear hP3; have hnew := fun u => new_cell w2 #[u] 5 0 u rfl))
                    all_goals
                      obtain ⟨k1, k2, k3⟩ := hP2.out.fin
                      have k4 := hP2.out.o1
                      dsimp only at k1 k2 k3
                      rw [show Q1 ++ [Value.int .u8 1] ++ byL (numL m.toNat) ++ [Value.int .u8 2] ++ byL (numL (zig m2)) ++ [Value.int .u8 z] = P2 by rw [← hQ.out, hfin.out]; simp [byL], hP2f.out] at k1
                      go_roundg (gk - 1)
                      case measure => omega
                      case rel => exact ⟨k + 1, _, by omega, by omega, by go_num, k1, by rw [hnx.out]; exact k2, k4, k3⟩
                  · skip
                    obtain ⟨d, hd⟩ : ∃ d : Int, d = xo - no2 := ⟨_, rfl⟩
                    obtain ⟨e, he⟩ : ∃ e : Int, e = xl - nl := ⟨_, rfl⟩
                    rw [← hd] at cO cO3 hd0
                    rw [← he] at cL cL3
                    obtain ⟨m, hm⟩ : ∃ m : Int, m = d - 44 := ⟨_, rfl⟩
                    obtain ⟨m2, hm2⟩ : ∃ m2 : Int, m2 = e + 4 := ⟨_, rfl⟩
                    obtain ⟨q, hq⟩ : ∃ q : Int, q = (d - m) / 4 := ⟨_, rfl⟩
                    obtain ⟨e9, he9⟩ : ∃ e9 : Int, e9 = e - m2 := ⟨_, rfl⟩
                    obtain ⟨z, hz⟩ : ∃ z : Int, z = 64 + 16 * q + e9 + 4 := ⟨_, rfl⟩
                    have hfin : offP (xo - no2) ++ (lineP (xl - nl) ++ [lastP (xo - no2) (xl - nl)]) = (1 :: numL m.toNat : List Int) ++ ((2 :: numL (zig m2) : List Int) ++ [z]) := by
                      unfold offP lineP lastP
                      rw [← hd, ← he]
                      have o1 : offB d = m := by unfold offB; split <;> omega
                      have o2 : lineB e = m2 := by unfold lineB; split <;> (try split) <;> omega
                      rw [o1, o2, if_neg (by omega), if_neg (by omega), show 64 + (d - m) / 4 * 16 + (e - m2) + 4 = z by omega]
                    have hfin := Lib.hid hfin
                    have w1 : wrap64 (xo - no2) = d := by rw [wrap64_id] <;> omega
                    have w1c : xo - no2 = d := hd.symm
                    have w2 : wrap64 (xl - nl) = e := by rw [wrap64_id] <;> omega
                    have w2c : xl - nl = e := he.symm
                    have d0 : 0 ≤ d ∧ d ≤ 70000 := by omega
                    have e0 : -1100000 ≤ e ∧ e ≤ 1100000 := by omega
                    have y0 : 0 ≤ m ∧ m ≤ 70000 := by omega
                    have y1 : -1100000 ≤ m2 ∧ m2 ≤ 1100000 := by omega
                    have d3 : d.tmod 4 = d % 4 := Int.tmod_eq_emod_of_nonneg d0.1
                    have d5 : 44 < d := by omega
                    have d6 : d - 44 = m := hm.symm
                    have d6c : wrap64 (d - 44) = m := by rw [d6]; exact wrap64_id (by omega) (by omega)
                    have d9 : d - m = 44 := by omega
                    have d9c : wrap64 (d - m) = 44 := by rw [d9]; exact wrap64_id (by omega) (by omega)
                    obtain rfl : q = 11 := by omega
                    have d4 : wrap64 (d % 4) = d % 4 := wrap64_id (by omega) (by omega)
                    have q2 : 0 ≤ (11 : Int) ∧ (11 : Int) ≤ 11 := by omega
                    have e1 : e < -4 := by omega
                    have e2 : e + 4 = m2 := hm2.symm
                    have e3 : wrap64 (e + 4) = m2 := by rw [e2]; exact wrap64_id (by omega) (by omega)
                    obtain rfl : e9 = -4 := by omega
                    obtain ⟨r, hr2⟩ : ∃ r : Int, r = 16 * 11 := ⟨_, rfl⟩
                    obtain ⟨s, hs⟩ : ∃ s : Int, s = 64 + r := ⟨_, rfl⟩
                    obtain ⟨u, hu⟩ : ∃ u : Int, u = s + (-4) := ⟨_, rfl⟩
                    have u1c : 240 + (-4) = u := by omega
                    have z1c : u + 4 = z := by omega
                    have b3 : 0 ≤ u ∧ u ≤ 251 := by omega
                    have i8 : wrap64 (240 + (-4)) = u := by rw [u1c]; exact wrap64_id (by omega) (by omega)
                    have i9 : wrap64 (u + 4) = z := by rw [z1c]; exact wrap64_id (by omega) (by omega)
                    have z0 : 0 ≤ z := by omega
                    have z1 : z < 256 := by omega
                    have z2 : z % 256 = z := by omega
                    have qm := numL_len 8 m.toNat (by omega)
                    have qz := numL_len 8 (zig m2) (by unfold zig; split <;> omega)
                    clear hd he hm hm2 hq he9 hz hr2 hs hu
                    go_wp2_with (first
                      | (at_builtin; refine wpList_append_fresh rfl _ _ 34 rfl w.heap.size 5 i0 (.int .u8 0) 1 1 Tryz.underlying34 hi hz0 hz1 hz2 rfl (by decide) _ _ _ rfl (hP2.out.own.1.alloc _) _ 1 1 _ rfl rfl (one_cell (hnew _)) (one_one rfl) (by unfold maxLen; simp [byL]; omega) (by simp [byL]; omega) (Nat.le_trans hP2.out.bel.size (by simp)) ?_; intro v' w2 hown1 hgr hfr; have hP3 := hP2.out.app hown1 hgr hfr; clear hown1 hgr hfr; obtain ⟨va2, L2, vc2, rfl, hL2⟩ := hP3.own.form2; clear hL2; clear a0 a1 a2 a3 n0 n1 n2 n3 hnew; obtain ⟨a0, a1, a2, a3⟩ := hP3.now.cells; obtain ⟨n0, n1, n2, n3⟩ := hP3.nx.cells; (try clear f0 f1 f2 f3); have f0 := hP3.now.frozen 0; have f1 := hP3.now.frozen 1; have f2 := hP3.now.frozen 2; have f3 := hP3.now.frozen 3; dsimp only at a0 a1 a2 a3 n0 n1 n2 n3; clear hP2; have hP2 := Lib.hid hP3; clear hP3; have hnew := fun u => new_cell w2 #[u] 5 0 u rfl)
                      | (go_at_call 87; refine (rnum_i hP2.out.own hP2.out.bel.size (by simp [byL]; omega) (by omega) (by omega)).mono ?_; rintro e w2 hh; obtain ⟨ra, L2, rc, ob2, rfl, hL2, ho2, hs2⟩ := rwR2_of hh; clear hh hL2; have hP3 := hP2.out.step ho2 hs2; clear ho2 hs2; clear a0 a1 a2 a3 n0 n1 n2 n3 hnew; obtain ⟨a0, a1, a2, a3⟩ := hP3.now.cells; obtain ⟨n0, n1, n2, n3⟩ := hP3.nx.cells; (try clear f0 f1 f2 f3); have f0 := hP3.now.frozen 0; have f1 := hP3.now.frozen 1; have f2 := hP3.now.frozen 2; have f3 := hP3.now.frozen 3; dsimp only at a0 a1 a2 a3 n0 n1 n2 n3; clear hP2; have hP2 := Lib.hid hP3; clear hP3; have hnew := fun u => new_cell w2 #[u] 5 0 u rfl)
                      | (go_at_call 90; refine (rsig_c hP2.out.own hP2.out.bel.size (by simp [byL]; omega) (by omega) (by omega)).mono ?_; rintro e w2 hh; obtain ⟨ra, L2, rc, ob2, rfl, hL2, ho2, hs2⟩ := rwR2_of hh; clear hh hL2; have hP3 := hP2.out.step ho2 hs2; clear ho2 hs2; clear a0 a1 a2 a3 n0 n1 n2 n3 hnew; obtain ⟨a0, a1, a2, a3⟩ := hP3.now.cells; obtain ⟨n0, n1, n2, n3⟩ := hP3.nx.cells; (try clear f0 f1 f2 f3); have f0 := hP3.now.frozen 0; have f1 := hP3.now.frozen 1; have f2 := hP3.now.frozen 2; have f3 := hP3.now.frozen 3; dsimp only at a0 a1 a2 a3 n0 n1 n2 n3; clear hP2; have hP2 := Lib.hid hP3; clear hP3; have hnew := fun u => new_cell w2 #[u] 5 0 u rfl))
                    all_goals
                      obtain ⟨k1, k2, k3⟩ := hP2.out.fin
                      have k4 := hP2.out.o1
                      dsimp only at k1 k2 k3
                      rw [show Q1 ++ [Value.int .u8 1] ++ byL (numL m.toNat) ++ [Value.int .u8 2] ++ byL (numL (zig m2)) ++ [Value.int .u8 z] = P2 by rw [← hQ.out, hfin.out]; simp [byL], hP2f.out] at k1
                      go_roundg (gk - 1)
                      case measure => omega
                      case rel => exact ⟨k + 1, _, by omega, by omega, by go_num, k1, by rw [hnx.out]; exact k2, k4, k3⟩
      · have : k = l.length := by omega
        subst this
        rw [List.take_length] at hOw
        rw [show byL (packL default l) = byL (packL default l) from rfl] at hOw
        obtain ⟨va, vc, rfl⟩ := hOw.form
        have hv := hOw.1
        rw [show (byL (packL default l)).length = (packL default l).length by simp [byL]] at hv ⊢
        clear hOw
        have hv2 := Lib.hid hv
        clear hv
        go_wp2
        go_ret2
        exact ⟨hbl, .inr ⟨ht2.out, _, rfl, hv2.out⟩⟩
  · rw [dec_no ht] at hT
    have ht2 := Lib.hid ht
    clear ht
    go_enter Tryz.func29, Tryz.ntmps29
    go_wp2_with fail
    refine hT.mono ?_
    rintro e w1 ⟨rfl, hb1⟩
    go_wp2
    go_ret2
    exact ⟨hb1, .inl ⟨ht2.out, rfl⟩⟩
end Go.Ev
