import Derived.Test.YtepopmplcjhfbaaGreatObHum
set_option linter.unusedSectionVars false
set_option linter.unusedVariables false
set_option linter.unusedSimpArgs false
set_option linter.unnecessarySimpa false
/-
  Stage 3: the specification's Unpack.
-/
namespace Go.Ev
open Go.RowKit Go.Proofs Go.Rw
theorem rng_R {x : LineT} (h : RngOk x) : x.R := by
  unfold RngOk at h
  unfold LineT.R inI64
  omega
/-- At the loop's head. -/
def LoopU (all : List Nat) (n : Nat) (v : LineT) (tab : List LineT) (p' bad : Int) (gn : Nat) : Prop :=
  (bad = -1 ∧ ∃ p : Nat, p' = (p : Int) ∧ p ≤ n ∧ gn + p = n + 1 ∧ gF v tab (all.drop p) = unpackF all ∧ RngOk v ∧ tab.length ≤ 4001 ∧ ∀ x ∈ tab, RngOk x) ∨
  (0 ≤ bad ∧ unpackF all = none)
def NonN (v : LineT) : Prop := 0 ≤ v.sec ∧ 0 ≤ v.off ∧ 0 ≤ v.file
/-- Behind the switch. -/
def SwU (all : List Nat) (n : Nat) (v : LineT) (tab : List LineT) (p : Nat) (em : Bool) (p2 bad2 : Int) (v2 : LineT) : Prop :=
  (bad2 = -1 ∧ ∃ q : Nat, p2 = (q : Int) ∧ p < q ∧ q ≤ n ∧ NonN v2 ∧ stepF v tab (all.drop p) = (if em = true then emitF v2 tab (all.drop q) else chkF v2 tab (all.drop q))) ∨
  (0 ≤ bad2 ∧ stepF v tab (all.drop p) = none)
/-- A number that is read: one answer. -/
def OneU (R : Nat) (ba : Option Addr) (n c : Nat) (lo hi : Int) (D : Int → Int → Int → Prop) (w : World) (e : Ending) (w' : World) : Prop :=
  ∃ y p' bad' : Int, e = .returned (.int .i64 y) ∧ lo ≤ y ∧ y ≤ hi ∧ Wst w w' R none none ∧ RdB w' R ba n c p' bad' ∧ D y p' bad'
def NumD (p : Nat) (r : Option (Nat × Nat)) (y p' bad' : Int) : Prop := (r = none ∧ y = 0 ∧ 0 ≤ bad') ∨ (∃ x s : Nat, r = some (x, s) ∧ y = (x : Int) ∧ p' = ((p + s : Nat) : Int) ∧ bad' = -1)
def SigD (p : Nat) (r : Option (Nat × Nat)) (y p' bad' : Int) : Prop := (r = none ∧ y = 0 ∧ 0 ≤ bad') ∨ (∃ x s : Nat, r = some (x, s) ∧ y = unzig x ∧ p' = ((p + s : Nat) : Int) ∧ bad' = -1)
theorem num_one {R : Nat} {ba : Option Addr} {n c p : Nat} {r : Option (Nat × Nat)} {w : World} {e : Ending} {w' : World} (h : NumU R ba n c p r w e w') (hx : ∀ x s, r = some (x, s) → x ≤ 4294967295) : OneU R ba n c 0 4294967295 (NumD p r) w e w' := by
  obtain ⟨hW, (⟨hr, rfl, p3, bad3, hb3, hB⟩ | ⟨n3, s3, hr, rfl, hB⟩)⟩ := h
  · exact ⟨0, p3, bad3, rfl, by omega, by omega, hW, hB, .inl ⟨hr, rfl, hb3⟩⟩
  · have := hx _ _ hr
    exact ⟨_, _, _, rfl, by omega, by omega, hW, hB, .inr ⟨n3, s3, hr, rfl, rfl, rfl⟩⟩
theorem sig_one {R : Nat} {ba : Option Addr} {n c p : Nat} {r : Option (Nat × Nat)} {w : World} {e : Ending} {w' : World} (h : SigU R ba n c p r w e w') (hx : ∀ x s, r = some (x, s) → -2147483648 ≤ unzig x ∧ unzig x ≤ 2147483648) : OneU R ba n c (-2147483648) 2147483648 (SigD p r) w e w' := by
  obtain ⟨hW, (⟨hr, rfl, p3, bad3, hb3, hB⟩ | ⟨n3, s3, hr, rfl, hB⟩)⟩ := h
  · exact ⟨0, p3, bad3, rfl, by omega, by omega, hW, hB, .inl ⟨hr, rfl, hb3⟩⟩
  · have := hx _ _ hr
    exact ⟨_, _, _, rfl, this.1, this.2, hW, hB, .inr ⟨n3, s3, hr, rfl, rfl, rfl⟩⟩
theorem own_form0 {W : World} {base e size n : Nat} {v : Value} {xs : List Value} (h : W.ownsRow base e size v n xs) : ∃ a c, v = .slice a n c := by
  rcases h.2 with ⟨rfl, h0⟩ | ⟨g, cap, cur, rfl, _⟩
  · exact ⟨none, 0, by rw [h0]⟩
  · exact ⟨_, cap, rfl⟩
theorem UpS.drew {w cur : World} {base R V b o n c : Nat} {p bad : Int} {v : LineT} {lv : Value} {tab : List LineT} (h : UpS w cur base R V b o n c p bad v lv tab) : UpS w cur.drew base R V b o n c p bad v lv tab := h.num ⟨rfl, rfl, rfl, Nat.le_refl _, fun _ _ _ _ => rfl, .inl rfl⟩ h.rd
theorem z_pos {x : Nat} (h : 0 < x) : ((x : Int) == 0) = false := beq_eq_false_iff_ne.2 (by omega)
theorem unzig_in {x : Nat} (h : x ≤ 4294967295) : -2147483648 ≤ unzig x ∧ unzig x ≤ 2147483648 := by
  unfold unzig
  split <;> omega
theorem num_three {p : Nat} {r : Option (Nat × Nat)} {y p' bad' : Int} (h : NumD p r y p' bad') : (y = 0 ∧ r = none ∧ 0 ≤ bad') ∨ (∃ s : Nat, y = 0 ∧ r = some (0, s) ∧ p' = ((p + s : Nat) : Int) ∧ bad' = -1) ∨ (∃ x s : Nat, ((x : Int) == 0) = false ∧ 0 < x ∧ r = some (x, s) ∧ y = (x : Int) ∧ p' = ((p + s : Nat) : Int) ∧ bad' = -1) := by
  rcases h with ⟨h1, h2, h3⟩ | ⟨x, s, h1, h2, h3, h4⟩
  · exact .inl ⟨h2, h1, h3⟩
  · by_cases hx : x = 0
    · subst hx; exact .inr (.inl ⟨s, h2, h1, h3, h4⟩)
    · exact .inr (.inr ⟨x, s, z_pos (by omega), by omega, h1, h2, h3, h4⟩)
theorem tdiv_in {X : Int} (h0 : -64 ≤ X) (h1 : X ≤ 191) : -4 ≤ X.tdiv 16 ∧ X.tdiv 16 ≤ 11 := by
  by_cases h : 0 ≤ X
  · rw [Int.tdiv_eq_ediv_of_nonneg h]; omega
  · obtain ⟨Y, rfl⟩ : ∃ Y, X = -Y := ⟨-X, by omega⟩
    rw [Int.neg_tdiv, Int.tdiv_eq_ediv_of_nonneg (by omega)]; omega
theorem tmod_in {X : Int} (h0 : -64 ≤ X) (h1 : X ≤ 191) : -15 ≤ X.tmod 16 ∧ X.tmod 16 ≤ 15 := by
  by_cases h : 0 ≤ X
  · rw [Int.tmod_eq_emod_of_nonneg h]; omega
  · obtain ⟨Y, rfl⟩ : ∃ Y, X = -Y := ⟨-X, by omega⟩
    rw [Int.neg_tmod, Int.tmod_eq_emod_of_nonneg (by omega)]; omega
theorem sw_out {all : List Nat} {n p x : Nat} {v : LineT} {tab : List LineT} {em : Bool} {p2 bad2 : Int} {s2 o2 f2 l2 : Int} {rest : List Nat} (hd : all.drop p = x :: rest) (hS : SwU all n v tab p em p2 bad2 ⟨s2, o2, f2, l2⟩)
    (hb : 0 ≤ bad2 ∨ (15 < s2 ∨ 65535 < o2 ∨ 19 < f2 ∨ l2 < 0 ∨ 1048576 < l2 ∨ 4000 < tab.length)) : gF v tab (all.drop p) = none := by
  rcases hS with ⟨h1, q, -, -, -, hN, hst⟩ | ⟨h1, hst⟩
  · by_cases hl : 4000 < tab.length
    · exact gF_long hl
    · have hr : ¬ RngOk ⟨s2, o2, f2, l2⟩ := by
        unfold RngOk
        dsimp only
        omega
      rw [hd] at hst ⊢
      cases em
      · exact gF_out (.inl hst) hr
      · exact gF_out (.inr hst) hr
  · rw [hd] at hst ⊢
    exact gF_fail hst
theorem sw_chk {all : List Nat} {p q x : Nat} {v v2 : LineT} {tab : List LineT} {rest : List Nat} (hd : all.drop p = x :: rest) (hst : stepF v tab (all.drop p) = (if false = true then emitF v2 tab (all.drop q) else chkF v2 tab (all.drop q))) (hr : RngOk v2) : gF v2 tab (all.drop q) = gF v tab (all.drop p) := by
  rw [hd] at hst ⊢
  exact (gF_chk hst hr).symm
theorem sw_emit {all : List Nat} {p q x : Nat} {v v2 : LineT} {tab : List LineT} {rest : List Nat} (hd : all.drop p = x :: rest) (hst : stepF v tab (all.drop p) = (if true = true then emitF v2 tab (all.drop q) else chkF v2 tab (all.drop q))) (hr : RngOk v2) : gF v2 (tab ++ [v2]) (all.drop q) = gF v tab (all.drop p) := by
  rw [hd] at hst ⊢
  exact (gF_emit hst hr).symm
theorem rng_app {tab : List LineT} {v : LineT} (h : ∀ x ∈ tab, RngOk x) (hv : RngOk v) : ∀ x ∈ tab ++ [v], RngOk x := fun x hx => by
  rcases List.mem_append.1 hx with hx | hx
  · exact h x hx
  · rw [List.mem_singleton.1 hx]; exact hv
theorem new4 (W : World) (a b c d : Value) : ∀ j u, ([a, b, c, d] : List Value)[j]? = some u → (W.alloc (.cells #[a, b, c, d] 48)).cell? ((⟨W.heap.size, 0, none⟩ : Addr).add j) = some u := fun j u hj => by
  rw [cell_add, Nat.zero_add]
  exact new_cell W #[a, b, c, d] 48 j u (by simpa using hj)
theorem one4 (a b c d : Int) : ∀ u ∈ ([.int .i64 a, .int .i64 b, .int .i64 c, .int .i64 d] : List Value), u.oneCell' = true := fun u hu => by
  simp only [List.mem_cons, List.not_mem_nil, or_false] at hu
  rcases hu with rfl | rfl | rfl | rfl <;> rfl
set_option maxRecDepth 100000 in
set_option maxHeartbeats 40000000 in
theorem runpack_c {w : World} {b o n c : Nat} {all : List Nat} (hA : AllAt w b o n all) (hb : b < w.heap.size) (hnc : n ≤ c) (hn : n ≤ 140737488351232) :
    Calls Tryz.prog 31 #[.slice (some ⟨b, o, none⟩) n c] w (UpR all w) := by
  obtain ⟨iL, hiL, hzL0, hzL1, hzL2⟩ := info_parts infoL
  have hU0 : UpS w ((w.alloc (.cells #[.slice (some ⟨b, o, none⟩) n c, .int .i64 0, .int .i64 (-1)] 129)).alloc (.cells #[.int .i64 0, .int .i64 0, .int .i64 0, .int .i64 0] 48)) w.heap.size w.heap.size (w.heap.size + 1) b o n c 0 (-1) default (.slice none 0 0) [] := by
    refine ⟨?_, ?_, World.ownsRow_nil _ _ _ _, by simp [Value.ownBlock], by simp [Value.ownBlock], ((Below.refl _ w).alloc (Nat.le_refl _) _).alloc (by simp) _, ⟨Nat.le_refl _, Nat.le_succ _, by omega⟩⟩
    · exact (heap_alloc_old _ _ (by simp)).trans (heap_alloc_new w _)
    · have := heap_alloc_new (w.alloc (.cells #[.slice (some ⟨b, o, none⟩) n c, .int .i64 0, .int .i64 (-1)] 129)) (.cells #[.int .i64 0, .int .i64 0, .int .i64 0, .int .i64 0] 48)
      rw [World.size_alloc] at this
      exact this
  have hU0 := Lib.hid hU0
  have hlen := hA.1
  go_enter Tryz.func31, Tryz.ntmps31
  go_wp2_with fail
  go_loopg [5] (n + 1) (fun gn lv wr => ∃ (p' bad : Int) (v : LineT) (tab : List LineT), UpS w wr w.heap.size w.heap.size (w.heap.size + 1) b o n c p' bad v lv tab ∧ LoopU all n v tab p' bad gn)
  case atStart => exact ⟨0, -1, default, [], hU0.out, .inl ⟨rfl, 0, rfl, by omega, by omega, by rw [List.drop_zero]; exact gF_start all, rng_default, by simp, by simp⟩⟩
  case round =>
    obtain ⟨p', bad, v, tab, hU, hL⟩ := hrel
    obtain ⟨r0, r1, r2⟩ := hU.rd.cells
    have hUh := Lib.hid hU
    rcases hL with ⟨rfl, p, rfl, hp, hg, hgF, hv, ht4, htr⟩ | ⟨hbad, hnone⟩
    · by_cases hlt : p < n
      · obtain ⟨x, hx⟩ : ∃ x, all[p]? = some x := ⟨all[p], by simp [hlen, hlt]⟩
        have hx256 : x < 256 := hA.2.1 x (List.mem_of_getElem? hx)
        have h0 : wr.cell? ⟨b, o + p, none⟩ = some (.int .u8 (x : Int)) := by
          have := (hU.byte hA hb).2.2 p hlt
          rwa [show all.getD p 0 = x by simp [List.getD, hx]] at this
        obtain ⟨ta, tc, rfl⟩ := own_form0 hU.own
        have f1 := hU.rd.frozen 1
        have hAh := Lib.hid hA
        have hgh := Lib.hid hg
        have hdrop := Lib.hid (drop_op hx)
        obtain ⟨q1, hq1⟩ : ∃ q1 : Nat, q1 = p + 1 := ⟨_, rfl⟩
        have m9 : (p : Int) + 1 = (q1 : Int) := by omega
        have hq1n : q1 ≤ n := by omega
        have hq1h := Lib.hid hq1
        have hUa := Lib.hid (hU.setAt (q1 : Int))
        obtain ⟨em, hem⟩ : ∃ em : Bool, em = decide (x = 5 ∨ 64 ≤ x) := ⟨_, rfl⟩
        have hemh := Lib.hid hem
        have hgFh := Lib.hid hgF
        have hltd : decide ((p : Int) < (n : Int)) = true := decide_eq_true (by omega)
        clear hU hg hgF hq1 hx hA
        go_upto_region 7 with fail
        go_cut [8] from 13 to 152 (fun ev wx => ev = .bool em ∧ wx = wr.setCell ⟨w.heap.size, 1, none⟩ (.int .i64 (q1 : Int)))
        case first =>
          by_cases x5 : x = 5
          · have y5 : ((x : Int) == 5) = true := beq_iff_eq.2 (by omega)
            obtain rfl : em = true := by rw [hem]; exact decide_eq_true (.inl x5)
            clear hem x5
            go_wp2_with fail
            go_meet
            exact ⟨rfl, rfl⟩
          · have y5 : ((x : Int) == 5) = false := beq_eq_false_iff_ne.2 (by omega)
            by_cases x64 : 64 ≤ x
            · have y6 : decide ((64 : Int) ≤ (x : Int)) = true := decide_eq_true (by omega)
              have y7 : decide (64 ≤ x) = true := decide_eq_true x64
              obtain rfl : em = true := by rw [hem]; exact decide_eq_true (.inr x64)
              clear hem
              go_wp2_with fail
              go_meet
              exact ⟨rfl, rfl⟩
            · have y6 : decide ((64 : Int) ≤ (x : Int)) = false := decide_eq_false (by omega)
              have y7 : decide (64 ≤ x) = false := decide_eq_false x64
              obtain rfl : em = false := by rw [hem]; exact decide_eq_false (by omega)
              clear hem
              go_wp2_with fail
              go_meet
              exact ⟨rfl, rfl⟩
        case rest =>
          obtain ⟨rfl, rfl⟩ := hcut
          clear hem r0 r1 r2 f1 h0 m9
          obtain ⟨W1, hW1⟩ : ∃ W1, W1 = wr.setCell ⟨w.heap.size, 1, none⟩ (.int .i64 (q1 : Int)) := ⟨_, rfl⟩
          rw [← hW1] at hUa ⊢
          clear hW1 hUh
          go_upto_block 2 with fail
          go_cut [] from 13 to 152 (fun wx => ∃ (p2 bad2 : Int) (v2 : LineT), UpS w wx w.heap.size w.heap.size (w.heap.size + 1) b o n c p2 bad2 v2 (.slice ta tab.length tc) tab ∧ SwU all n v tab p em p2 bad2 v2)
          case first =>
            obtain ⟨vs, vo, vf, vl⟩ := v
            have hvr := hv
            unfold RngOk at hvr
            dsimp only at hvr
            have hnum := rdnum_c hUa.out.rd (hUa.out.byte hAh.out hb) (Nat.ne_of_lt hb) hq1n hnc hn
            have hsig := rdsig_c hUa.out.rd (hUa.out.byte hAh.out hb) (Nat.ne_of_lt hb) hq1n hnc hn
            have hle : ∀ x s, leadF (all.drop q1) = some (x, s) → 0 < s ∧ q1 + s ≤ n ∧ x ≤ 4294967295 := fun x s h => by have := leadF_le h; rw [List.length_drop, hlen] at this; omega
            have hle1 : ∀ x s, leadF (all.drop q1) = some (x, s) → x ≤ 4294967295 := fun x s h => (hle x s h).2.2
            have hle2 : ∀ x s, leadF (all.drop q1) = some (x, s) → -2147483648 ≤ unzig x ∧ unzig x ≤ 2147483648 := fun x s h => unzig_in (hle1 x s h)
            have hpq : p < q1 := by have := hq1h.out; omega
            have hUd := Lib.hid hUa.out.drew
            have hnumd := rdnum_c hUd.out.rd (hUd.out.byte hAh.out hb) (Nat.ne_of_lt hb) hq1n hnc hn
            have hsigd := rdsig_c hUd.out.rd (hUd.out.byte hAh.out hb) (Nat.ne_of_lt hb) hq1n hnc hn
            obtain ⟨c0, c1, c2, c3⟩ := hUa.out.vb.cells
            dsimp only at c0 c1 c2 c3
            have r1 := hUa.out.rd.cells.2.1
            by_cases x1 : x = 1
            · as_aux_lemma =>
                have y1 : ((x : Int) == 1) = true := beq_iff_eq.2 (by omega)
                have hst := Lib.hid (show stepF ⟨vs, vo, vf, vl⟩ tab (all.drop p) = (numF (all.drop q1)).bind fun q => chkF ⟨vs, vo + q.1, vf, vl⟩ tab q.2 by rw [hdrop.out, stepF, if_pos (by omega), hq1h.out])
                obtain rfl : em = false := by rw [hemh.out]; exact decide_eq_false (by omega)
                clear x1
                clear hsig hsigd hnum
                go_wp2_with fail
                go_region_with (go_at_call 96; refine hnumd.mono ?_; rintro e w3 hh; obtain ⟨y3, p3, bad3, rfl, hy0, hy1, hW, hB, hD⟩ := num_one hh hle1; clear hh; have hU3 := hUd.out.num hW hB; obtain ⟨d0, d1, d2, d3⟩ := hU3.vb.cells; dsimp only at d0 d1 d2 d3; have g0 := hU3.vb.frozen 0; have g1 := hU3.vb.frozen 1; have g2 := hU3.vb.frozen 2; have g3 := hU3.vb.frozen 3; have r13 := hU3.rd.cells.2.1; have hU4 := Lib.hid hU3; have hD2 := Lib.hid hD; clear hW hB hU3 hD)
                all_goals (try go_wp2_with fail)
                all_goals go_meet
                all_goals (
                  rw [show IntKind.i64.wrap (vo + y3) = vo + y3 from by rw [IntKind.wrap_i64]; omega]
                  rcases hD2.out with ⟨hr, hy, hb3⟩ | ⟨n3, s3, hr, hy, rfl, rfl⟩
                  · exact ⟨_, _, _, hU4.out.setOff _, .inr ⟨hb3, by rw [hst.out, numF_none hr]; rfl⟩⟩
                  · have hle3 := hle _ _ hr
                    exact ⟨_, _, _, hU4.out.setOff _, .inl ⟨rfl, q1 + s3, rfl, by omega, by omega, ⟨by dsimp only; omega, by dsimp only; omega, by dsimp only; omega⟩, by rw [hst.out, numF_at hr, hy]; rfl⟩⟩)
            have y1 : ((x : Int) == 1) = false := beq_eq_false_iff_ne.2 (by omega)
            by_cases x2 : x = 2
            · as_aux_lemma =>
                have y2 : ((x : Int) == 2) = true := beq_iff_eq.2 (by omega)
                have hst := Lib.hid (show stepF ⟨vs, vo, vf, vl⟩ tab (all.drop p) = (numF (all.drop q1)).bind fun q => chkF ⟨vs, vo, vf, vl + unzig q.1⟩ tab q.2 by rw [hdrop.out, stepF, if_neg (by omega), if_pos (by omega), hq1h.out])
                obtain rfl : em = false := by rw [hemh.out]; exact decide_eq_false (by omega)
                clear x2
                clear hnum hnumd hsig
                go_wp2_with fail
                go_region_with (go_at_call 106; refine hsigd.mono ?_; rintro e w3 hh; obtain ⟨y3, p3, bad3, rfl, hy0, hy1, hW, hB, hD⟩ := sig_one hh hle2; clear hh; have hU3 := hUd.out.num hW hB; obtain ⟨d0, d1, d2, d3⟩ := hU3.vb.cells; dsimp only at d0 d1 d2 d3; have g0 := hU3.vb.frozen 0; have g1 := hU3.vb.frozen 1; have g2 := hU3.vb.frozen 2; have g3 := hU3.vb.frozen 3; have r13 := hU3.rd.cells.2.1; have hU4 := Lib.hid hU3; have hD2 := Lib.hid hD; clear hW hB hU3 hD)
                all_goals (try go_wp2_with fail)
                all_goals go_meet
                all_goals (
                  rw [show IntKind.i64.wrap (vl + y3) = vl + y3 from by rw [IntKind.wrap_i64]; omega]
                  rcases hD2.out with ⟨hr, hy, hb3⟩ | ⟨n3, s3, hr, hy, rfl, rfl⟩
                  · exact ⟨_, _, _, hU4.out.setLine _, .inr ⟨hb3, by rw [hst.out, numF_none hr]; rfl⟩⟩
                  · have hle3 := hle _ _ hr
                    exact ⟨_, _, _, hU4.out.setLine _, .inl ⟨rfl, q1 + s3, rfl, by omega, by omega, ⟨by dsimp only; omega, by dsimp only; omega, by dsimp only; omega⟩, by rw [hst.out, numF_at hr, hy]; rfl⟩⟩)
            have y2 : ((x : Int) == 2) = false := beq_eq_false_iff_ne.2 (by omega)
            by_cases x3 : x = 3
            · as_aux_lemma =>
                have y3 : ((x : Int) == 3) = true := beq_iff_eq.2 (by omega)
                have hst := Lib.hid (show stepF ⟨vs, vo, vf, vl⟩ tab (all.drop p) = (numF (all.drop q1)).bind fun q => chkF ⟨vs, vo, q.1, vl⟩ tab q.2 by rw [hdrop.out, stepF, if_neg (by omega), if_neg (by omega), if_pos (by omega), hq1h.out])
                obtain rfl : em = false := by rw [hemh.out]; exact decide_eq_false (by omega)
                clear x3
                clear hsig hsigd hnumd
                go_wp2_with (go_at_call 96; refine hnum.mono ?_; rintro e w3 hh; obtain ⟨y3, p3, bad3, rfl, hy0, hy1, hW, hB, hD⟩ := num_one hh hle1; clear hh; have hU3 := hUa.out.num hW hB; obtain ⟨d0, d1, d2, d3⟩ := hU3.vb.cells; dsimp only at d0 d1 d2 d3; have g0 := hU3.vb.frozen 0; have g1 := hU3.vb.frozen 1; have g2 := hU3.vb.frozen 2; have g3 := hU3.vb.frozen 3; have r13 := hU3.rd.cells.2.1; have hU4 := Lib.hid hU3; have hD2 := Lib.hid hD; clear hW hB hU3 hD)
                all_goals go_meet
                all_goals (
                  skip
                  rcases hD2.out with ⟨hr, hy, hb3⟩ | ⟨n3, s3, hr, hy, rfl, rfl⟩
                  · exact ⟨_, _, _, hU4.out.setFile _, .inr ⟨hb3, by rw [hst.out, numF_none hr]; rfl⟩⟩
                  · have hle3 := hle _ _ hr
                    exact ⟨_, _, _, hU4.out.setFile _, .inl ⟨rfl, q1 + s3, rfl, by omega, by omega, ⟨by dsimp only; omega, by dsimp only; omega, by dsimp only; omega⟩, by rw [hst.out, numF_at hr, hy]; rfl⟩⟩)
            have y3 : ((x : Int) == 3) = false := beq_eq_false_iff_ne.2 (by omega)
            by_cases x4 : x = 4
            · as_aux_lemma =>
                have y4 : ((x : Int) == 4) = true := beq_iff_eq.2 (by omega)
                have hst := Lib.hid (show stepF ⟨vs, vo, vf, vl⟩ tab (all.drop p) = (numF (all.drop q1)).bind fun q => if q.1 = 0 then none else chkF ⟨vs + q.1, 0, vf, vl⟩ tab q.2 by rw [hdrop.out, stepF, if_neg (by omega), if_neg (by omega), if_neg (by omega), if_pos (by omega), hq1h.out])
                obtain rfl : em = false := by rw [hemh.out]; exact decide_eq_false (by omega)
                clear x4
                clear hsig hnumd hsigd
                go_wp2_with (go_at_call 96; refine hnum.mono ?_; rintro e w3 hh; obtain ⟨y3, p3, bad3, rfl, hy0, hy1, hW, hB, hD⟩ := num_one hh hle1; clear hh; have hU3 := hUa.out.num hW hB; obtain ⟨d0, d1, d2, d3⟩ := hU3.vb.cells; dsimp only at d0 d1 d2 d3; have g0 := hU3.vb.frozen 0; have g1 := hU3.vb.frozen 1; have g2 := hU3.vb.frozen 2; have g3 := hU3.vb.frozen 3; have r13 := hU3.rd.cells.2.1; have hU4 := Lib.hid hU3; have hD2 := Lib.hid hD; clear hW hB hU3 hD; rcases num_three hD2.out with ⟨rfl, hr, hb3⟩ | ⟨s3, rfl, hr, rfl, rfl⟩ | ⟨n3, s3, z3, hn0, hr, rfl, rfl, rfl⟩)
                · go_wp2_with (go_at_call 95; refine (rfail_old hU4.out.rd hb3).mono ?_; rintro e w4 ⟨rfl, rfl⟩)
                  go_meet
                  exact ⟨_, _, _, (hU4.out.setSec _).setOff _, .inr ⟨hb3, by rw [hst.out, numF_none hr]; rfl⟩⟩
                · go_wp2_with (go_at_call 95; refine (rfail_new hU4.out.rd).mono ?_; rintro e w4 ⟨rfl, hw4⟩; have hU5 := Lib.hid (show UpS w w4 w.heap.size w.heap.size (w.heap.size + 1) b o n c _ _ ⟨vs, vo, vf, vl⟩ (.slice ta tab.length tc) tab by rw [hw4]; exact hU4.out.setBad _); clear hw4 d0 d1 d2 d3 g0 g1 g2 g3; obtain ⟨d0, d1, d2, d3⟩ := hU5.out.vb.cells; dsimp only at d0 d1 d2 d3; have g0 := hU5.out.vb.frozen 0; have g1 := hU5.out.vb.frozen 1)
                  go_meet
                  exact ⟨_, _, _, (hU5.out.setSec _).setOff _, .inr ⟨Int.natCast_nonneg _, by rw [hst.out, numF_at hr]; rfl⟩⟩
                · have hle3 := hle _ _ hr
                  go_wp2_with fail
                  go_meet
                  exact ⟨_, _, _, (hU4.out.setSec _).setOff _, .inl ⟨rfl, q1 + s3, rfl, by omega, by omega, ⟨by dsimp only; omega, by dsimp only; omega, by dsimp only; omega⟩, by rw [hst.out, numF_at hr]; exact if_neg (by omega)⟩⟩
            have y4 : ((x : Int) == 4) = false := beq_eq_false_iff_ne.2 (by omega)
            by_cases x5 : x = 5
            · as_aux_lemma =>
                have y5 : ((x : Int) == 5) = true := beq_iff_eq.2 (by omega)
                have hst := Lib.hid (show stepF ⟨vs, vo, vf, vl⟩ tab (all.drop p) = emitF ⟨vs, vo, vf, vl⟩ tab (all.drop q1) by rw [hdrop.out, stepF, if_neg (by omega), if_neg (by omega), if_neg (by omega), if_neg (by omega), if_neg (by omega), if_pos (by omega), hq1h.out])
                obtain rfl : em = true := by rw [hemh.out]; exact decide_eq_true (by omega)
                clear hsig hnum hnumd hsigd x5
                go_wp2_with fail
                go_meet
                exact ⟨_, _, _, hUa.out, .inl ⟨rfl, q1, rfl, hpq, hq1n, ⟨by dsimp only; omega, by dsimp only; omega, by dsimp only; omega⟩, by rw [hst.out]; rfl⟩⟩
            have y5 : ((x : Int) == 5) = false := beq_eq_false_iff_ne.2 (by omega)
            have g1 := hUa.out.vb.frozen 1
            have g3 := hUa.out.vb.frozen 3
            obtain ⟨X, hX⟩ : ∃ X : Int, X = (x : Int) - 64 := ⟨_, rfl⟩
            have X0 : -64 ≤ X ∧ X ≤ 191 := by omega
            have X1 : (x : Int) - 64 = X := hX.symm
            obtain ⟨T, hT⟩ : ∃ T : Int, T = X.tdiv 16 := ⟨_, rfl⟩
            have T0 := tdiv_in X0.1 X0.2
            rw [← hT] at T0
            have T1 : X.tdiv 16 = T := hT.symm
            obtain ⟨U, hU9⟩ : ∃ U : Int, U = T * 4 := ⟨_, rfl⟩
            have U0 : -16 ≤ U ∧ U ≤ 44 := by omega
            have U1 : T * 4 = U := hU9.symm
            obtain ⟨M, hM⟩ : ∃ M : Int, M = X.tmod 16 := ⟨_, rfl⟩
            have M0 := tmod_in X0.1 X0.2
            rw [← hM] at M0
            have M1 : X.tmod 16 = M := hM.symm
            obtain ⟨N, hN⟩ : ∃ N : Int, N = M - 4 := ⟨_, rfl⟩
            have N0 : -20 ≤ N ∧ N ≤ 12 := by omega
            have N1 : M - 4 = N := hN.symm
            by_cases x64 : 64 ≤ x
            · as_aux_lemma =>
                have y6 : decide ((x : Int) < 64) = false := decide_eq_false (by omega)
                have y7 : decide (x < 64) = false := decide_eq_false (by omega)
                have eU : U = (((x - 64) / 16 * 4 : Nat) : Int) := by rw [hU9, hT, Int.tdiv_eq_ediv_of_nonneg (by omega)]; omega
                have eN : N = (((x - 64) % 16 : Nat) - 4) := by rw [hN, hM, Int.tmod_eq_emod_of_nonneg (by omega)]; omega
                have hst := Lib.hid (show stepF ⟨vs, vo, vf, vl⟩ tab (all.drop p) = emitF ⟨vs, vo + U, vf, vl + N⟩ tab (all.drop q1) by rw [hdrop.out, stepF, if_neg (by omega), if_neg (by omega), if_neg (by omega), if_neg (by omega), if_pos (by omega), hq1h.out, eU, eN])
                have hoff : 0 ≤ vo + U := by omega
                obtain rfl : em = true := by rw [hemh.out]; exact decide_eq_true (by omega)
                clear hsig hnum hX hT hU9 hM hN eU eN
                go_wp2_with fail
                go_meet
                exact ⟨_, _, _, (hUa.out.setOff _).setLine _, .inl ⟨rfl, q1, rfl, hpq, hq1n, ⟨by dsimp only; omega, by dsimp only; omega, by dsimp only; omega⟩, by rw [hst.out]; rfl⟩⟩
            · as_aux_lemma =>
                have y6 : decide ((x : Int) < 64) = true := decide_eq_true (by omega)
                have y7 : decide (x < 64) = true := decide_eq_true (by omega)
                have hst := Lib.hid (show stepF ⟨vs, vo, vf, vl⟩ tab (all.drop p) = none by rw [hdrop.out, stepF, if_neg (by omega), if_neg (by omega), if_neg (by omega), if_neg (by omega), if_neg (by omega), if_neg (by omega)])
                obtain rfl : em = false := by rw [hemh.out]; exact decide_eq_false (by omega)
                clear hsig hnum hX hT hU9 hM hN
                have hUb := Lib.hid (hUa.out.setBad (q1 : Int))
                obtain ⟨d0, d1, d2, d3⟩ := hUb.out.vb.cells
                dsimp only at d0 d1 d2 d3
                have e1 := hUb.out.vb.frozen 1
                have e3 := hUb.out.vb.frozen 3
                go_wp2_with (go_at_call 95; refine (rfail_new hUa.out.rd).mono ?_; rintro e w3 ⟨rfl, rfl⟩)
                go_meet
                exact ⟨_, _, _, (hUb.out.setOff _).setLine _, .inr ⟨Int.natCast_nonneg _, hst.out⟩⟩
          case rest =>
            obtain ⟨p2, bad2, ⟨s2, o2, f2, l2⟩, hU2, hS⟩ := hcut
            obtain ⟨W2, hW2⟩ : ∃ W2, W2 = wc := ⟨_, rfl⟩
            subst hW2
            obtain ⟨c0, c1, c2, c3⟩ := hU2.vb.cells
            dsimp only at c0 c1 c2 c3
            obtain ⟨r0, r1, r2⟩ := hU2.rd.cells
            have hU2h := Lib.hid hU2
            have hSh := Lib.hid hS
            obtain ⟨bd, hbd⟩ : ∃ bd : Bool, bd = decide (15 < s2 ∨ 65535 < o2 ∨ 19 < f2 ∨ l2 < 0 ∨ 1048576 < l2 ∨ 4000 < tab.length) := ⟨_, rfl⟩
            have hbdh := Lib.hid hbd
            clear hU2 hS
            go_upto_region 26 with fail
            go_cut [141] from 13 to 152 (fun cv wx => cv = .bool bd ∧ wx = W2)
            case first =>
              by_cases b0 : 15 < s2
              · as_aux_lemma =>
                  have e0 : decide ((15 : Int) < s2) = true := decide_eq_true (by omega)
                  obtain rfl : bd = true := by rw [hbd]; exact decide_eq_true (by omega)
                  clear hbd
                  go_wp2_with fail
                  go_meet
                  exact ⟨rfl, rfl⟩
              have e0 : decide ((15 : Int) < s2) = false := decide_eq_false (by omega)
              by_cases b1 : 65535 < o2
              · as_aux_lemma =>
                  have e1 : decide ((65535 : Int) < o2) = true := decide_eq_true (by omega)
                  obtain rfl : bd = true := by rw [hbd]; exact decide_eq_true (by omega)
                  clear hbd
                  go_wp2_with fail
                  go_meet
                  exact ⟨rfl, rfl⟩
              have e1 : decide ((65535 : Int) < o2) = false := decide_eq_false (by omega)
              by_cases b2 : 19 < f2
              · as_aux_lemma =>
                  have e2 : decide ((19 : Int) < f2) = true := decide_eq_true (by omega)
                  obtain rfl : bd = true := by rw [hbd]; exact decide_eq_true (by omega)
                  clear hbd
                  go_wp2_with fail
                  go_meet
                  exact ⟨rfl, rfl⟩
              have e2 : decide ((19 : Int) < f2) = false := decide_eq_false (by omega)
              by_cases b3 : l2 < 0
              · as_aux_lemma =>
                  have e3 : decide (l2 < 0) = true := decide_eq_true (by omega)
                  obtain rfl : bd = true := by rw [hbd]; exact decide_eq_true (by omega)
                  clear hbd
                  go_wp2_with fail
                  go_meet
                  exact ⟨rfl, rfl⟩
              have e3 : decide (l2 < 0) = false := decide_eq_false (by omega)
              by_cases b4 : 1048576 < l2
              · as_aux_lemma =>
                  have e4 : decide ((1048576 : Int) < l2) = true := decide_eq_true (by omega)
                  obtain rfl : bd = true := by rw [hbd]; exact decide_eq_true (by omega)
                  clear hbd
                  go_wp2_with fail
                  go_meet
                  exact ⟨rfl, rfl⟩
              have e4 : decide ((1048576 : Int) < l2) = false := decide_eq_false (by omega)
              by_cases b5 : 4000 < tab.length
              · as_aux_lemma =>
                  have e5 : decide ((4000 : Int) < (tab.length : Int)) = true := decide_eq_true (by omega)
                  have e9 : decide (4000 < tab.length) = true := decide_eq_true b5
                  obtain rfl : bd = true := by rw [hbd]; exact decide_eq_true (by omega)
                  clear hbd
                  go_wp2_with fail
                  go_meet
                  exact ⟨rfl, rfl⟩
              have e5 : decide ((4000 : Int) < (tab.length : Int)) = false := decide_eq_false (by omega)
              have e9 : decide (4000 < tab.length) = false := decide_eq_false b5
              obtain rfl : bd = false := by rw [hbd]; exact decide_eq_false (by omega)
              clear hbd
              go_wp2_with fail
              go_meet
              exact ⟨rfl, rfl⟩
            case rest =>
              obtain ⟨rfl, rfl⟩ := hcut
              clear hbd
              have hmx : tab.length + 1 ≤ maxLen := by unfold maxLen; omega
              have hmy : (tab.length + 1) * 32 ≤ 140737488355328 := by omega
              have hS := hSh.out
              cases bd
              · have hnb : ¬ (15 < s2 ∨ 65535 < o2 ∨ 19 < f2 ∨ l2 < 0 ∨ 1048576 < l2 ∨ 4000 < tab.length) := of_decide_eq_false hbdh.out.symm
                by_cases hgood : 0 ≤ bad2
                · have hnone := Lib.hid (hgFh.out.symm.trans (sw_out hdrop.out hSh.out (.inl hgood)))
                  replace hS := hS.resolve_left (fun h => by have := h.1; omega)
                  clear hnb hgood
                  cases em
                  · as_aux_lemma =>
                      obtain ⟨hb2, hst⟩ := hS
                      have hstH := Lib.hid hst
                      clear hst
                      have hU3 := hU2h
                      go_wp2_with fail
                      go_roundg 0
                      case measure => have := hgh.out; omega
                      case rel => exact ⟨_, _, _, _, hU3.out, .inr ⟨hb2, hnone.out⟩⟩
                  · as_aux_lemma =>
                      obtain ⟨hb2, hst⟩ := hS
                      have hstH := Lib.hid hst
                      clear hst
                      have hU3 := hU2h
                      go_wp2_with (at_builtin; refine wpList_append_fresh rfl _ _ 26 rfl w.heap.size 48 iL _ 4 32 Tryz.underlying26 hiL hzL0 hzL1 hzL2 rfl (by decide) _ tab.length (flat tab) rfl (hU3.out.own.alloc _) _ 1 1 [.int .i64 s2, .int .i64 o2, .int .i64 f2, .int .i64 l2] rfl rfl (new4 _ _ _ _ _) (one4 _ _ _ _) hmx hmy (Nat.le_trans hU3.out.hs (by simp)) ?_; intro v' w5 hown' hgr hfr; have hU4 := Lib.hid (hU3.out.app hown' hgr hfr); obtain ⟨a', c', rfl⟩ := own_form hown'; clear hown' hgr hfr)
                      go_roundg 0
                      case measure => have := hgh.out; omega
                      case rel => exact ⟨_, _, _, _, hU4.out, .inr ⟨hb2, hnone.out⟩⟩
                · replace hS := hS.resolve_right (fun h => hgood h.1)
                  have hok := Lib.hid (show RngOk ⟨s2, o2, f2, l2⟩ by obtain ⟨_, q, _, _, _, hN, _⟩ := hS; unfold NonN at hN; unfold RngOk; dsimp only at hN ⊢; omega)
                  have hl4 : tab.length ≤ 4000 := by omega
                  clear hnb hgood
                  cases em
                  · as_aux_lemma =>
                      obtain ⟨rfl, q, rfl, hpq, hqn, hN, hst⟩ := hS
                      have hstH := Lib.hid hst
                      have hNH := Lib.hid hN
                      clear hst hN
                      have hU3 := hU2h
                      go_wp2_with fail
                      go_roundg (n + 1 - q)
                      case measure => have := hgh.out; omega
                      case rel => exact ⟨_, _, _, _, hU3.out, .inl ⟨rfl, q, rfl, hqn, by omega, (sw_chk hdrop.out hstH.out hok.out).trans hgFh.out, hok.out, ht4, htr⟩⟩
                  · as_aux_lemma =>
                      obtain ⟨rfl, q, rfl, hpq, hqn, hN, hst⟩ := hS
                      have hstH := Lib.hid hst
                      have hNH := Lib.hid hN
                      clear hst hN
                      have hU3 := hU2h
                      go_wp2_with (at_builtin; refine wpList_append_fresh rfl _ _ 26 rfl w.heap.size 48 iL _ 4 32 Tryz.underlying26 hiL hzL0 hzL1 hzL2 rfl (by decide) _ tab.length (flat tab) rfl (hU3.out.own.alloc _) _ 1 1 [.int .i64 s2, .int .i64 o2, .int .i64 f2, .int .i64 l2] rfl rfl (new4 _ _ _ _ _) (one4 _ _ _ _) hmx hmy (Nat.le_trans hU3.out.hs (by simp)) ?_; intro v' w5 hown' hgr hfr; have hU4 := Lib.hid (hU3.out.app hown' hgr hfr); obtain ⟨a', c', rfl⟩ := own_form hown'; clear hown' hgr hfr)
                      go_roundg (n + 1 - q)
                      case measure => have := hgh.out; omega
                      case rel => exact ⟨_, _, _, _, hU4.out, .inl ⟨rfl, q, rfl, hqn, by omega, (sw_emit hdrop.out hstH.out hok.out).trans hgFh.out, hok.out, by simp; omega, rng_app htr hok.out⟩⟩
              · have hnb : (15 < s2 ∨ 65535 < o2 ∨ 19 < f2 ∨ l2 < 0 ∨ 1048576 < l2 ∨ 4000 < tab.length) := of_decide_eq_true hbdh.out.symm
                by_cases hgood : 0 ≤ bad2
                · have hnone := Lib.hid (hgFh.out.symm.trans (sw_out hdrop.out hSh.out (.inl hgood)))
                  replace hS := hS.resolve_left (fun h => by have := h.1; omega)
                  clear hnb hgood
                  cases em
                  · as_aux_lemma =>
                      obtain ⟨hb2, hst⟩ := hS
                      have hstH := Lib.hid hst
                      clear hst
                      go_wp2_with (go_at_call 95; refine (rfail_old hU2h.out.rd hb2).mono ?_; rintro e w4 ⟨rfl, hw4⟩; have hU3 := Lib.hid (show UpS w w4 w.heap.size w.heap.size (w.heap.size + 1) b o n c p2 bad2 ⟨s2, o2, f2, l2⟩ (.slice ta tab.length tc) tab by rw [hw4]; exact hU2h.out); clear hw4 c0 c1 c2 c3; obtain ⟨c0, c1, c2, c3⟩ := hU3.out.vb.cells; dsimp only at c0 c1 c2 c3)
                      go_roundg 0
                      case measure => have := hgh.out; omega
                      case rel => exact ⟨_, _, _, _, hU3.out, .inr ⟨hb2, hnone.out⟩⟩
                  · as_aux_lemma =>
                      obtain ⟨hb2, hst⟩ := hS
                      have hstH := Lib.hid hst
                      clear hst
                      go_wp2_with (first | (go_at_call 95; refine (rfail_old hU2h.out.rd hb2).mono ?_; rintro e w4 ⟨rfl, hw4⟩; have hU3 := Lib.hid (show UpS w w4 w.heap.size w.heap.size (w.heap.size + 1) b o n c p2 bad2 ⟨s2, o2, f2, l2⟩ (.slice ta tab.length tc) tab by rw [hw4]; exact hU2h.out); clear hw4 c0 c1 c2 c3; obtain ⟨c0, c1, c2, c3⟩ := hU3.out.vb.cells; dsimp only at c0 c1 c2 c3) | (at_builtin; refine wpList_append_fresh rfl _ _ 26 rfl w.heap.size 48 iL _ 4 32 Tryz.underlying26 hiL hzL0 hzL1 hzL2 rfl (by decide) _ tab.length (flat tab) rfl (hU3.out.own.alloc _) _ 1 1 [.int .i64 s2, .int .i64 o2, .int .i64 f2, .int .i64 l2] rfl rfl (new4 _ _ _ _ _) (one4 _ _ _ _) hmx hmy (Nat.le_trans hU3.out.hs (by simp)) ?_; intro v' w5 hown' hgr hfr; have hU4 := Lib.hid (hU3.out.app hown' hgr hfr); obtain ⟨a', c', rfl⟩ := own_form hown'; clear hown' hgr hfr))
                      go_roundg 0
                      case measure => have := hgh.out; omega
                      case rel => exact ⟨_, _, _, _, hU4.out, .inr ⟨hb2, hnone.out⟩⟩
                · have hnone := Lib.hid (hgFh.out.symm.trans (sw_out hdrop.out hSh.out (.inr hnb)))
                  replace hS := hS.resolve_right (fun h => hgood h.1)
                  clear hnb hgood
                  cases em
                  · as_aux_lemma =>
                      obtain ⟨rfl, q, rfl, hpq, hqn, hN, hst⟩ := hS
                      have hstH := Lib.hid hst
                      have hNH := Lib.hid hN
                      clear hst hN
                      go_wp2_with (go_at_call 95; refine (rfail_new hU2h.out.rd).mono ?_; rintro e w4 ⟨rfl, hw4⟩; have hU3 := Lib.hid (show UpS w w4 w.heap.size w.heap.size (w.heap.size + 1) b o n c q q ⟨s2, o2, f2, l2⟩ (.slice ta tab.length tc) tab by rw [hw4]; exact hU2h.out.setBad _); clear hw4 c0 c1 c2 c3; obtain ⟨c0, c1, c2, c3⟩ := hU3.out.vb.cells; dsimp only at c0 c1 c2 c3)
                      go_roundg 0
                      case measure => have := hgh.out; omega
                      case rel => exact ⟨_, _, _, _, hU3.out, .inr ⟨Int.natCast_nonneg _, hnone.out⟩⟩
                  · as_aux_lemma =>
                      obtain ⟨rfl, q, rfl, hpq, hqn, hN, hst⟩ := hS
                      have hstH := Lib.hid hst
                      have hNH := Lib.hid hN
                      clear hst hN
                      go_wp2_with (first | (go_at_call 95; refine (rfail_new hU2h.out.rd).mono ?_; rintro e w4 ⟨rfl, hw4⟩; have hU3 := Lib.hid (show UpS w w4 w.heap.size w.heap.size (w.heap.size + 1) b o n c q q ⟨s2, o2, f2, l2⟩ (.slice ta tab.length tc) tab by rw [hw4]; exact hU2h.out.setBad _); clear hw4 c0 c1 c2 c3; obtain ⟨c0, c1, c2, c3⟩ := hU3.out.vb.cells; dsimp only at c0 c1 c2 c3) | (at_builtin; refine wpList_append_fresh rfl _ _ 26 rfl w.heap.size 48 iL _ 4 32 Tryz.underlying26 hiL hzL0 hzL1 hzL2 rfl (by decide) _ tab.length (flat tab) rfl (hU3.out.own.alloc _) _ 1 1 [.int .i64 s2, .int .i64 o2, .int .i64 f2, .int .i64 l2] rfl rfl (new4 _ _ _ _ _) (one4 _ _ _ _) hmx hmy (Nat.le_trans hU3.out.hs (by simp)) ?_; intro v' w5 hown' hgr hfr; have hU4 := Lib.hid (hU3.out.app hown' hgr hfr); obtain ⟨a', c', rfl⟩ := own_form hown'; clear hown' hgr hfr))
                      go_roundg 0
                      case measure => have := hgh.out; omega
                      case rel => exact ⟨_, _, _, _, hU4.out, .inr ⟨Int.natCast_nonneg _, hnone.out⟩⟩
      · obtain rfl : p = n := by omega
        rw [List.drop_eq_nil_of_le (by omega), gF_nil] at hgF
        have hT := table_x (rows_of_own hU.own) (fun x hx => rng_R (htr x hx)) (by omega)
        have hrows := Lib.hid (rows_of_own hU.own)
        have hs := Lib.hid hU.hs
        by_cases ht : TabOk tab
        · rw [dec_yes ht] at hT hgF
          have hgF2 := Lib.hid hgF
          clear hU hg hgF hv htr ht hA
          go_wp2_with (go_at_call 44; refine hT.mono ?_; rintro e w3 ⟨rfl, hb3⟩)
          go_ret2
          exact ⟨bel_then hUh.out.bel (Nat.le_refl _) hb3, .inr ⟨tab, _, hgF2.out.symm, rfl, hrows.out.below hb3⟩⟩
        · rw [dec_no ht] at hT hgF
          have hgF2 := Lib.hid hgF
          clear hU hg hgF hv htr ht hA
          go_wp2_with (go_at_call 44; refine hT.mono ?_; rintro e w3 ⟨rfl, hb3⟩)
          go_ret2
          exact ⟨bel_then hUh.out.bel (Nat.le_refl _) hb3, .inl ⟨hgF2.out.symm, rfl⟩⟩
    · have hbn : decide (bad < 0) = false := decide_eq_false (by omega)
      have hbp : decide (0 ≤ bad) = true := decide_eq_true hbad
      have hnone2 := Lib.hid hnone
      clear hU hnone hA
      go_wp2
      go_ret2
      exact ⟨hUh.out.bel, .inl ⟨hnone2.out, rfl⟩⟩
end Go.Ev
