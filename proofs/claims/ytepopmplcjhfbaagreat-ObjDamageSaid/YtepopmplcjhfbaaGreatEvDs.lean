import Derived.Test.YtepopmplcjhfbaaGreatEvDr
set_option linter.unusedSectionVars false
set_option linter.unusedVariables false
set_option linter.unusedSimpArgs false
set_option linter.unnecessarySimpa false
namespace Go.Ev
open Go.RowKit
variable [Unk]
section
variable {P : Program} {G : Nat → Nat → Option AV} {orc : Nat → Option Orc}
theorem wanted_none {o : Oper} (h : o.guard = none) (y : Nat → Option Bool) : Region.wanted o y = true := by
  simp [Region.wanted, h]
theorem kp_keep {ops : Array Oper} {i : Nat} {o : Oper} (ho : ops[i]? = some o) : keepAt ops i = keepOp o := by
  unfold keepAt; rw [opAt_eq, ho]
theorem heap_alloc (w : World) (ob : Obj) : (w.alloc ob).heap[w.heap.size]? = some ob := by
  show (w.heap.push ob)[w.heap.size]? = _; simp
theorem below_alloc (w : World) (ob : Obj) : Below w.heap.size w (w.alloc ob) := (Below.refl _ _).alloc (Nat.le_refl _) _
theorem size_alloc (w : World) (ob : Obj) : (w.alloc ob).heap.size = w.heap.size + 1 := by
  show (w.heap.push ob).size = _; simp
theorem pairQ_true (hO : OrcSound P G orc) (hNG : NoNG P) {lo n : Nat} {ops : Array Oper} {B : List Nat} (hB : GoodB ops B) (hlen : ∀ (j : Nat) oj, ops[j]? = some oj → ∃ b, B[j]? = some b) {Kp : List PanicEntry → Act → World → Prop}
    {R : List Nat} {i i' : Nat} {o o' : Oper} {env : Env} {H : Heap} {nx : Nat} {kk : Nat → Env → Heap → Nat → Bool} (h : pairQ P G orc lo n ops B R i o i' o' env H nx kk = true)
    (hi : i ∈ R) (ho : ops[i]? = some o) (hg : o.guard = none) (hdeps : ∀ e, e ∈ o.after → Region.binds .any e = true → e.on < ops.size ∧ e.on ∉ R) (htest : newSl o.op = true)
    (hi' : i' ∈ R.erase i) (ho' : ops[i']? = some o') (hg' : o'.guard = none) (hdeps' : ∀ e, e ∈ o'.after → Region.binds .any e = true → e.on < ops.size ∧ e.on ∉ R) (htest' : newSl o'.op = true) :
    ∃ q env3 H2, kk q env3 H2 (nx + 1 + 1) = true ∧ (lo ≤ nx → HeapLo lo H H2) ∧
      ∀ {out : DOut}, (∀ ρ N w a listed, Rem ops (((R.erase i).erase q).erase i') listed → Closed ops listed → Inv G ρ H2 (nx + 1 + 1) lo N w → EnvR ρ env3 n a.tmps →
        anyC P ops (keepAt ops) (DK G lo n ρ N w a.defers out) Kp (((R.erase i).erase q).erase i').length listed a w) →
      ∀ ρ N w a listed, Rem ops R listed → Closed ops listed → Inv G ρ H nx lo N w → EnvR ρ env n a.tmps → anyC P ops (keepAt ops) (DK G lo n ρ N w a.defers out) Kp R.length listed a w := by
  unfold pairQ at h
  split at h
  · cases h
  · rename_i q oq hcq
    obtain ⟨hqi, hoq, hgq, hdepsq, htq⟩ := cand_true hcq
    have hqo : quietOp oq = true ∧ othQ ops B q oq (R.erase i) = true := by
      split at htq
      · rename_i hq; exact ⟨hq, htq⟩
      · cases htq
    obtain ⟨hqt, hothq⟩ := hqo
    have hothq := othQ_true hothq
    obtain ⟨hne, h⟩ := guardB_true h
    obtain ⟨hnq, h⟩ := guardB_true h
    obtain ⟨hap, h⟩ := guardB_true h
    obtain ⟨hapq, h⟩ := guardB_true h
    obtain ⟨hoth, h⟩ := guardB_true h
    obtain ⟨hoth', h⟩ := guardB_true h
    have hne := beq_false (nb_true hne)
    have hnq := beq_false (nb_true hnq)
    have hoth := othI_true hoth
    have hoth' := othS_true hoth'
    obtain ⟨n1, ob1, h, r1⟩ := bsK_true h
    obtain ⟨n2, ob2, h, r2⟩ := bsK_true h
    obtain ⟨H1, hH1, h⟩ := T.setK_true _ _ _ _ _ h
    rw [fN_eq] at h
    obtain ⟨H2, hH2, h⟩ := T.setK_true _ _ _ _ _ h
    rw [fN_eq] at h
    obtain ⟨env1, h, he1⟩ := putK_true h
    obtain ⟨out, Hx, nxx, h, hlo, hnx, hok⟩ := aopF_snd hO hNG oq.op env1 H1 (nx + 1) lo _ h
    split at h
    · rename_i v
      obtain ⟨hex, h⟩ := guardB_true h
      obtain ⟨env2, h, he2⟩ := putK_true h
      obtain ⟨env3, h, he3⟩ := putK_true h
      refine ⟨q, env3, H2, h, fun hl j hj => (by rw [hH2, if_neg (by omega), hH1, if_neg (by omega)]), fun {out} k4 ρ N w a listed hu hc hI hE => ?_⟩
      have hiR : i' ∈ R := List.mem_of_mem_erase hi'
      have hqR : q ∈ R := List.mem_of_mem_erase hqi
      have hready := hu.ready hi ho hdeps
      have hready' := hu.ready hiR ho' hdeps'
      obtain ⟨p1, p2, p3⟩ := apartB_true hap
      obtain ⟨s1, s2, s3⟩ := apartB_true hapq
      obtain ⟨c1, e1, run1, or1⟩ := r1 ρ n a o rfl hE
      obtain ⟨c2, e2, run2, or2⟩ := r2 ρ n a o' rfl hE
      have hnd := hu.2.2.1
      have hqn : q ≠ i := ((List.Nodup.mem_erase_iff hnd).1 hqi).1
      have hin : i' ≠ i := ((List.Nodup.mem_erase_iff hnd).1 hi').1
      have hnd1 := (hu.next hi).2.2.1
      have hi'q : i' ∈ (R.erase i).erase q := (List.Nodup.mem_erase_iff hnd1).2 ⟨fun e => hnq e.symm, hi'⟩
      have hl : R.length = (((R.erase i).erase q).erase i').length + 1 + 1 + 1 := by
        have := List.length_erase_of_mem hi
        have := List.length_erase_of_mem hqi
        have := List.length_erase_of_mem hi'q
        have := List.length_pos_of_mem hi
        have := List.length_pos_of_mem hqi
        have := List.length_pos_of_mem hi'q
        omega
      rw [hl]
      have wait : ∀ {R' : List Nat} {listed : Array Bool} {i j b : Nat}, Rem ops R' listed → Closed ops listed → i ∈ R' → j ∈ Region.ready .any ops listed → B[j]? = some b → Nat.testBit b i = true → False := by
        intro R' listed i j b hu hc hi hj hb ht
        have := ready_waits hB hc hj hb ht
        rw [hu.2.2.2 i (hu.2.1 i hi)] at this
        simp [hi] at this
      have sel : ∀ (o : Oper), newSl o.op = true → (∀ cs b, o.op ≠ .select cs b) := fun o h cs b e => by rw [e] at h; cases h
      have selq := keepOp_select (quiet_keep hqt)
      have hkf := keepOp_keepF (quiet_keep hqt)
      have old : ∀ j o p, H.get j = some o → ρ j = some p → p.1 < w.heap.size := fun j o p hj hp => by
        obtain ⟨b', sz', ob', z1, _, z3, _⟩ := hI.obj j o hj
        rw [hp] at z1; cases z1
        exact getElem?_lt z3
      -- behind the first
      have one : ∀ (w2 : World) (b1 : Nat), Below w.heap.size w w2 → w.heap.size ≤ b1 → w2.heap[b1]? = some (.cells c1 e1) →
          ρ.le (ρ.put nx b1 c1.size) ∧ Inv G (ρ.put nx b1 c1.size) H1 (nx + 1) lo N w2 ∧ EnvR (ρ.put nx b1 c1.size) env1 n (a.put o.dst (.slice (some ⟨b1, 0, none⟩) n1 n1)).tmps := by
        intro w2 b1 hb hb1 g1
        obtain ⟨l1, I1⟩ := (hI.more hb).adopt (b := b1) (sz := c1.size) hH1 (Nat.le_trans hI.size hb1) g1 (fun j o p hj hp => by have := old j o p hj hp; omega) or1
        exact ⟨l1, I1, he1 _ a _ (hE.mono l1) (.sliceK _ _ _ _ _ _ (Rho.put_same _ _ _ _) (Nat.le_refl _))⟩
      -- the quiet one behind the first
      have quiet : ∀ (w2 : World) (b1 : Nat), Below w.heap.size w w2 → w.heap.size ≤ b1 → w2.heap[b1]? = some (.cells c1 e1) → ∃ u, VR (ρ.put nx b1 c1.size) v u ∧
          ∀ w', Below w2.heap.size w2 w' → does P true w' (fun u' _ => u' = u) (fun _ _ => False) ((execOp (a.put o.dst (.slice (some ⟨b1, 0, none⟩) n1 n1)).eval oq).run P w') := by
        intro w2 b1 hb hb1 g1
        obtain ⟨l1, I1, E1⟩ := one w2 b1 hb hb1 g1
        obtain ⟨u, hu'⟩ : ∃ u, VR (ρ.put nx b1 c1.size) v u := by
          obtain ⟨ρ', w'', q1, q2, q3, q4, u, q5, q6⟩ := hok _ N w2 n _ oq rfl I1 E1
          exact ⟨u, exA_back I1 q1 hex q6⟩
        refine ⟨u, hu', fun w' hb' => ?_⟩
        obtain ⟨ρ', w'', q1, q2, q3, q4, u2, q5, q6⟩ := hok _ N w' n _ oq rfl (I1.more hb') E1
        rw [q5]
        exact ⟨exA_uniq 4 v u2 u hex (exA_back (I1.more hb') q1 hex q6) hu', fun _ => q4 hkf⟩
      -- behind all three
      have fin : ∀ (w2 : World) (b1 b2 : Nat) (u : Value), Below w.heap.size w w2 → w.heap.size ≤ b1 → w.heap.size ≤ b2 → b1 ≠ b2 → w2.heap[b1]? = some (.cells c1 e1) → w2.heap[b2]? = some (.cells c2 e2) → VR (ρ.put nx b1 c1.size) v u →
          anyC P ops (keepAt ops) (DK G lo n ρ N w a.defers out) Kp (((R.erase i).erase q).erase i').length (((listed.setIfInBounds i true).setIfInBounds q true).setIfInBounds i' true)
            (((a.put o.dst (.slice (some ⟨b1, 0, none⟩) n1 n1)).put oq.dst u).put o'.dst (.slice (some ⟨b2, 0, none⟩) n2 n2)) w2 := by
        intro w2 b1 b2 u hb hb1 hb2 hbn g1 g2 hvu
        obtain ⟨l1, I1, E1⟩ := one w2 b1 hb hb1 g1
        obtain ⟨l2, I2⟩ := I1.adopt (b := b2) (sz := c2.size) hH2 (Nat.le_trans hI.size hb2) g2 (fun j o p hj hp => by
          rw [hH1] at hj
          by_cases hjn : j = nx
          · subst hjn
            rw [Rho.put_same] at hp; cases hp; exact hbn
          · rw [if_neg hjn] at hj
            obtain ⟨b', sz', ob', z1, _, z3, _⟩ := hI.obj j o hj
            have := l1 _ _ z1
            rw [hp] at this; cases this
            have := getElem?_lt z3
            show b' ≠ b2
            omega) (or2.mono l1)
        have l12 := Rho.le_trans l1 l2
        have v2 : VR ((ρ.put nx b1 c1.size).put (nx + 1) b2 c2.size) (.slice (nx + 1) 0 n2 (.kn n2)) (.slice (some ⟨b2, 0, none⟩) n2 n2) := .sliceK _ _ _ _ _ _ (Rho.put_same _ _ _ _) (Nat.le_refl _)
        have hrq := ((hu.next hi).ready hqi hoq hdepsq)
        have hany := k4 _ N w2 _ (((listed.setIfInBounds i true).setIfInBounds q true).setIfInBounds i' true) (((hu.next hi).next hqi).next hi'q) (((hc.set hready).set hrq).set (ready_mono (ready_mono hready' hin) (Ne.symm hnq))) I2
          (he3 _ _ _ (he2 _ _ _ (E1.mono l2) (hvu.mono l2)) v2)
        rw [Act.put_defers, Act.put_defers, Act.put_defers] at hany
        exact anyC_mono (fun _ _ => DK_lift l12 (hb.mono hI.size)) (fun _ _ _ h => h) _ _ _ _ hany
      -- what stays waits for the quiet one, or keeps
      have others : ∀ (listed2 : Array Bool), (∀ j, listed2.getD j true = false → j < ops.size → j ∈ R.erase i) → ∀ (j : Nat) oj b, ops[j]? = some oj → B[j]? = some b → j ≠ q → listed2.getD j true = false → Nat.testBit b q = false → keepAt ops j = true ∧ (∀ cs b, oj.op ≠ .select cs b) ∧ apartB ops oq oj = true := by
        intro listed2 hun j oj b hoj hb hjq hj hnb
        obtain ⟨b', hb', hf⟩ := hothq j (hun j hj (getElem?_lt hoj)) hjq
        rw [hb] at hb'; cases hb'
        obtain ⟨oj', hoj', g1, g2⟩ := hf hnb
        rw [hoj] at hoj'; cases hoj'
        exact ⟨by rw [kp_keep hoj]; exact g1, keepOp_select g1, g2⟩
      intro w0 h0
      refine ⟨fun hr => (by rw [hr] at hready; cases hready), fun j hj => ?_⟩
      have hsz0 := h0.size
      have hjj : j = i ∨ j = i' := by
        rcases Nat.decEq j i with hn1 | he1
        · rcases Nat.decEq j i' with hn2 | he2
          · obtain ⟨b, hb, ht⟩ := hoth j (hu.of_ready hj) hn1 hn2
            exact (wait hu hc hi hj hb ht).elim
          · exact .inr he2
        · exact .inl he1
      rcases hjj with rfl | rfl
      · -- the first one first: then the quiet one, then the second one
        refine ⟨o, ho, fun _ => ?_, fun hw => by rw [wanted_none hg] at hw; cases hw⟩
        rw [run1 w0]
        refine ⟨?_, fun _ => below_alloc _ _⟩
        have hbA : Below w.heap.size w (w0.alloc (.cells c1 e1)) := Below.cls h0 (below_alloc _ _)
        obtain ⟨u, hvu, hq2⟩ := quiet _ w0.heap.size hbA hsz0 (heap_alloc _ _)
        have hu1 := hu.next hi
        have hc1 := hc.set hready
        have hrq := hu1.ready hqi hoq hdepsq
        refine anyC_first hB hlen hoq selq _ (listed.setIfInBounds j true) _ _ (others _ fun m hm hms => ?_) hc1 hrq (fun w' hb => ⟨fun _ => hq2 w' hb, fun hw => by rw [wanted_none hgq] at hw; cases hw⟩) ?_
        · rw [hu1.2.2.2 m hms] at hm
          simpa using hm
        · intro w1 h1
          have hu2 := hu1.next hqi
          have hc2 := hc1.set hrq
          have hr2 : i' ∈ Region.ready .any ops ((listed.setIfInBounds j true).setIfInBounds q true) := ready_mono (ready_mono hready' hin) (Ne.symm hnq)
          refine ⟨fun hr => (by rw [hr] at hr2; cases hr2), fun j2 hj2 => ?_⟩
          have hj2' : j2 = i' := by
            rcases Nat.decEq j2 i' with hn2 | he2
            · obtain ⟨b, hb, ht⟩ := hoth' j2 (hu2.of_ready hj2) hn2
              exact (wait hu2 hc2 hi'q hj2 hb ht).elim
            · exact he2
          subst hj2'
          refine ⟨o', ho', fun _ => ?_, fun hw => by rw [wanted_none hg'] at hw; cases hw⟩
          rw [execOp_put o' (sel o' htest') (a.put o.dst _) oq.dst _ s1, execOp_put o' (sel o' htest') a o.dst _ p1, run2 w1]
          have hs1 := h1.size
          rw [size_alloc] at hs1
          refine ⟨fin _ w0.heap.size w1.heap.size u (Below.cls (Below.cls hbA h1) (below_alloc _ _)) hsz0 (by omega) (by omega) ?_ (heap_alloc _ _) hvu, fun _ => below_alloc _ _⟩
          rw [(below_alloc w1 (.cells c2 e2)).block _ (by omega), h1.block _ (by rw [size_alloc]; omega)]
          exact heap_alloc _ _
      · -- the second one first: then the first one, then the quiet one
        refine ⟨o', ho', fun _ => ?_, fun hw => by rw [wanted_none hg'] at hw; cases hw⟩
        rw [run2 w0]
        refine ⟨fun w1 h1 => ?_, fun _ => below_alloc _ _⟩
        have hr2 := ready_mono hready hne
        refine ⟨fun hr => (by rw [hr] at hr2; cases hr2), fun j2 hj2 => ?_⟩
        have hu1 := hu.next hiR
        have hc1 := hc.set hready'
        have hiE : i ∈ R.erase j := (List.Nodup.mem_erase_iff hnd).2 ⟨hne, hi⟩
        have hj2R := hu1.of_ready hj2
        have hj2' : j2 = i := by
          rcases Nat.decEq j2 i with hn2 | he2
          · have hj2i : j2 ≠ j := (List.Nodup.mem_erase_iff hnd).1 hj2R |>.1
            obtain ⟨b, hb, ht⟩ := hoth j2 (List.mem_of_mem_erase hj2R) hn2 hj2i
            exact (wait hu1 hc1 hiE hj2 hb ht).elim
          · exact he2
        subst hj2'
        refine ⟨o, ho, fun _ => ?_, fun hw => by rw [wanted_none hg] at hw; cases hw⟩
        rw [execOp_put o (sel o htest) a o'.dst _ p3, run1 w1]
        refine ⟨?_, fun _ => below_alloc _ _⟩
        have hs1 := h1.size
        rw [size_alloc] at hs1
        have hbB : Below w.heap.size w (w1.alloc (.cells c1 e1)) := Below.cls (Below.cls (Below.cls h0 (below_alloc _ _)) h1) (below_alloc _ _)
        obtain ⟨u, hvu, hq2⟩ := quiet _ w1.heap.size hbB (by omega) (heap_alloc _ _)
        have hu2 := hu1.next hiE
        have hc2 := hc1.set hr2
        have hnd2 := hu1.2.2.1
        have hqE : q ∈ (R.erase j).erase j2 := (List.Nodup.mem_erase_iff hnd2).2 ⟨hqn, (List.Nodup.mem_erase_iff hnd).2 ⟨hnq, hqR⟩⟩
        have hrq := hu2.ready hqE hoq fun e hm hb => ⟨(hdepsq e hm hb).1, fun hx => (hdepsq e hm hb).2 ((List.Nodup.mem_erase_iff hnd).2 ⟨((List.Nodup.mem_erase_iff hnd2).1 hx).1, List.mem_of_mem_erase (List.mem_of_mem_erase hx)⟩)⟩
        refine anyC_first (v := u) hB hlen hoq selq _ _ _ _ (others _ fun m hm hms => ?_) hc2 hrq (fun w' hb => ⟨fun _ => ?_, fun hw => by rw [wanted_none hgq] at hw; cases hw⟩) ?_
        · rw [hu2.2.2.2 m hms] at hm
          have hm : m ∈ (R.erase j).erase j2 := by simpa using hm
          exact (List.Nodup.mem_erase_iff hnd).2 ⟨((List.Nodup.mem_erase_iff hnd2).1 hm).1, List.mem_of_mem_erase (List.mem_of_mem_erase hm)⟩
        · rw [← Go.Act.put_comm a _ _ p2, execOp_put oq selq _ o'.dst _ s3]
          exact hq2 w' hb
        · have hf := fin ((w1.alloc (.cells c1 e1))) w1.heap.size w0.heap.size u hbB (by omega) hsz0 (by omega) (heap_alloc _ _) (by
            rw [(below_alloc w1 (.cells c1 e1)).block _ (by omega), h1.block _ (by rw [size_alloc]; omega)]
            exact heap_alloc _ _) hvu
          rw [Go.Act.put_comm _ _ _ s2, Go.Act.put_comm a _ _ p2] at hf
          rw [Array.setIfInBounds_comm _ _ hnq, Array.setIfInBounds_comm _ _ hne] at hf
          exact hf
    · cases h
theorem anyC_pure {ops : Array Oper} {B : List Nat} (hB : GoodB ops B) (hlen : ∀ (j : Nat) oj, ops[j]? = some oj → ∃ b, B[j]? = some b) {kp : Nat → Bool} {K : Act → World → Prop} {Kp : List PanicEntry → Act → World → Prop} (hK0 : ∀ c a w, ¬ Kp c a w) {i : Nat} {oi : Oper} {v : Value}
    (hi : ops[i]? = some oi) (hg : oi.guard = none) (hsel : ∀ cs b, oi.op ≠ .select cs b) : ∀ (fuel : Nat) (listed : Array Bool) (a : Act) (w : World),
    (∀ (j : Nat) oj b, ops[j]? = some oj → B[j]? = some b → j ≠ i → listed.getD j true = false → Nat.testBit b i = false → (∀ cs b, oj.op ≠ .select cs b) ∧ apartB ops oi oj = true) →
    Closed ops listed → i ∈ Region.ready .any ops listed → (∀ w' : World, (execOp a.eval oi).run P w' = .ok (.value v) w') → anyC P ops kp K Kp fuel (listed.setIfInBounds i true) (a.put oi.dst v) w → anyC P ops kp K Kp (fuel + 1) listed a w := by
  intro fuel
  have atI : ∀ (fuel : Nat) (listed : Array Bool) (a : Act) (w w0 : World), Below w.heap.size w w0 → (∀ w' : World, (execOp a.eval oi).run P w' = .ok (.value v) w') → anyC P ops kp K Kp fuel (listed.setIfInBounds i true) (a.put oi.dst v) w →
      opC P ops kp i (anyC P ops kp K Kp fuel (listed.setIfInBounds i true)) Kp a w0 := by
    intro fuel listed a w w0 h0 hq H
    refine ⟨oi, hi, fun hw => ?_, fun hw => by rw [wanted_none hg] at hw; cases hw⟩
    rw [hq w0]
    exact ⟨H.cls h0, fun _ => Below.refl _ _⟩
  induction fuel with
  | zero =>
    intro listed a w _ _ hr hq H w0 h0
    refine ⟨fun h => (by rw [h] at hr; cases hr), fun j hj => ?_⟩
    by_cases hji : j = i
    · subst hji; exact atI 0 listed a w w0 h0 hq H
    · have := ready_mono hj hji
      rw [H.1] at this
      cases this
  | succ fuel ih =>
    intro listed a w hfree hc hr hq H w0 h0
    refine ⟨fun h => (by rw [h] at hr; cases hr), fun j hj => ?_⟩
    by_cases hji : j = i
    · subst hji; exact atI (fuel + 1) listed a w w0 h0 hq H
    · obtain ⟨oj, hoj, hd, hn⟩ := (H w0 h0).2 j (ready_mono hj hji)
      obtain ⟨hjun, _⟩ := mem_ready.1 hj
      obtain ⟨b, hb⟩ := hlen j oj hoj
      have hnb : Nat.testBit b i = false := by
        cases ht : Nat.testBit b i with
        | false => rfl
        | true =>
          have h1 := ready_waits hB hc hj hb ht
          have h0 := (mem_ready.1 hr).1
          rcases Nat.lt_or_ge i listed.size with h' | h'
          · simp [h'] at h0 h1; rw [h0] at h1; cases h1
          · simp [Array.getElem?_eq_none h'] at h1
      obtain ⟨hsj, hap⟩ := hfree j oj b hoj hb hji hjun hnb
      obtain ⟨p1, p2, p3⟩ := apartB_true hap
      have hfree' : ∀ (j' : Nat) oj b, ops[j']? = some oj → B[j']? = some b → j' ≠ i → (listed.setIfInBounds j true).getD j' true = false → Nat.testBit b i = false → (∀ cs b, oj.op ≠ .select cs b) ∧ apartB ops oi oj = true :=
        fun j' oj' b' h1 h2 h3 h4 h5 => hfree j' oj' b' h1 h2 h3 (by
          by_cases hjk : j = j'
          · subst hjk; exact hjun
          · rw [getD_set_ne true hjk] at h4; exact h4) h5
      have next : ∀ (u : Value) (w' : World), anyC P ops kp K Kp fuel ((listed.setIfInBounds i true).setIfInBounds j true) ((a.put oi.dst v).put oj.dst u) w' →
          anyC P ops kp K Kp (fuel + 1) (listed.setIfInBounds j true) (a.put oj.dst u) w' := by
        intro u w' hk
        refine ih (listed.setIfInBounds j true) (a.put oj.dst u) w' hfree' (hc.set hj) (ready_mono hr (Ne.symm hji)) (fun w'' => ?_) ?_
        · rw [execOp_put oi hsel a oj.dst u p3]
          exact hq w''
        · rw [Array.setIfInBounds_comm _ _ hji, ← Go.Act.put_comm a v u p2]
          exact hk
      refine ⟨oj, hoj, fun hw => ?_, fun hw => ?_⟩
      · have hd' := hd (by rw [wanted_put oj a oi.dst v p1]; exact hw)
        rw [execOp_put oj hsj a oi.dst v p1] at hd'
        exact does_mono hd' (fun u w' _ hk => next u w' hk) (fun _ c w' hk => (hK0 _ _ _ hk).elim)
      · exact next undef w0 (hn (by rw [wanted_put oj a oi.dst v p1]; exact hw))
theorem drawP_true (hO : OrcSound P G orc) (hNG : NoNG P) {lo n : Nat} {ops : Array Oper} {B : List Nat} (hB : GoodB ops B) (hlen : ∀ (j : Nat) oj, ops[j]? = some oj → ∃ b, B[j]? = some b) {k : Env → Heap → Nat → Bool} {Kp : List PanicEntry → Act → World → Prop} (hK0 : ∀ c a w, ¬ Kp c a w) :
    ∀ (fuel : Nat) (R : List Nat) (env : Env) (H : Heap) (nx : Nat), drawP P G orc lo n ops B fuel R env H nx k = true →
    ∃ env' H' nx', k env' H' nx' = true ∧ nx ≤ nx' ∧ (lo ≤ nx → HeapLo lo H H') ∧ ∀ ρ N w a listed, Rem ops R listed → Closed ops listed → Inv G ρ H nx lo N w → EnvR ρ env n a.tmps →
      anyC P ops (keepAt ops) (DK G lo n ρ N w a.defers (.norm env' H' nx')) Kp R.length listed a w
  | 0, _, _, _, _, h => by cases h
  | fuel + 1, R, env, H, nx, h => by
    unfold drawP at h
    split at h
    · refine ⟨env, H, nx, h, Nat.le_refl _, fun _ => HeapLo.refl _ _, fun ρ N w a listed hu hc hI hE => ?_⟩
      refine ⟨?_, fun w0 h0 => ⟨ρ, Rho.le_refl ρ, hI.more h0, h0.mono hI.size, hE, rfl⟩⟩
      cases hr : Region.ready .any ops listed with
      | nil => rfl
      | cons x l =>
        have hx : x ∈ Region.ready .any ops listed := by rw [hr]; simp
        have := hu.of_ready hx
        cases this
    · rename_i x xs
      generalize hR : x :: xs = R at h
      clear hR
      -- one that stays unlisted is not waited for
      have wait : ∀ {listed : Array Bool} {i j b : Nat}, Rem ops R listed → Closed ops listed → i ∈ R → j ∈ Region.ready .any ops listed → B[j]? = some b → Nat.testBit b i = true → False := by
        intro listed i j b hu hc hi hj hb ht
        have := ready_waits hB hc hj hb ht
        rw [hu.2.2.2 i (hu.2.1 i hi)] at this
        simp [hi] at this
      split at h
      · -- a quiet one
        rename_i i o hcand
        obtain ⟨hi, ho, hg, hdeps, htest⟩ := cand_true hcand
        have hqo : quietOp o = true ∧ othQ ops B i o R = true := by
          split at htest
          · rename_i hq; exact ⟨hq, htest⟩
          · cases htest
        obtain ⟨hq, hoth⟩ := hqo
        have hoth := othQ_true hoth
        obtain ⟨out, H1, nx1, h, hlo, hnx, hok⟩ := aopF_snd hO hNG o.op env H nx lo _ h
        split at h
        · rename_i v
          obtain ⟨hex, h⟩ := guardB_true h
          obtain ⟨env1, h, he⟩ := putK_true h
          obtain ⟨env', H', nx', k1, k2, k3, k4⟩ := drawP_true hO hNG hB hlen hK0 fuel (R.erase i) env1 H nx h
          refine ⟨env', H', nx', k1, k2, k3, fun ρ N w a listed hu hc hI hE => ?_⟩
          have hkf := keepOp_keepF (quiet_keep hq)
          have hdo : ∀ w', Below w.heap.size w w' → does P true w' (fun u _ => VR ρ v u) (fun _ _ => False) ((execOp a.eval o).run P w') := fun w' hb => by
            obtain ⟨ρ', w'', q1, q2, q3, q4, u, q5, q6⟩ := hok ρ N w' n a o rfl (hI.more hb) hE
            rw [q5]
            exact ⟨exA_back (hI.more hb) q1 hex q6, fun _ => q4 hkf⟩
          obtain ⟨u, hu'⟩ : ∃ u, VR ρ v u := by
            obtain ⟨ρ', w'', q1, q2, q3, q4, u, q5, q6⟩ := hok ρ N w n a o rfl hI hE
            exact ⟨u, exA_back hI q1 hex q6⟩
          have hready := hu.ready hi ho hdeps
          have hany := k4 ρ N w (a.put o.dst u) (listed.setIfInBounds i true) (hu.next hi) (hc.set hready) hI (he ρ a u hE hu')
          rw [Act.put_defers] at hany
          have hl : R.length = (R.erase i).length + 1 := by
            have := List.length_erase_of_mem hi
            have := List.length_pos_of_mem hi
            omega
          rw [hl]
          refine anyC_first hB hlen ho (keepOp_select (quiet_keep hq)) _ listed a w (fun j oj b hoj hb hji hun hnb => ?_) hc hready (fun w' hb => ⟨fun _ => does_mono (hdo w' hb) (fun u' _ _ hv => exA_uniq 4 v u' u hex hv hu') (fun _ _ _ h => h), fun hw => by rw [wanted_none hg] at hw; cases hw⟩) hany
          have hjR : j ∈ R := by
            rw [hu.2.2.2 j (getElem?_lt hoj)] at hun
            simpa using hun
          obtain ⟨b', hb', hf⟩ := hoth j hjR hji
          rw [hb] at hb'; cases hb'
          obtain ⟨oj', hoj', g1, g2⟩ := hf hnb
          rw [hoj] at hoj'; cases hoj'
          exact ⟨by rw [kp_keep hoj]; exact g1, keepOp_select g1, g2⟩
        · cases h
      · split at h
        · -- one for which all others wait
          rename_i i o hcand
          obtain ⟨hi, ho, hg, hdeps, htest⟩ := cand_true hcand
          have hoth := othS_true htest
          obtain ⟨out, H1, nx1, h, hlo, hnx, hok⟩ := aopF_snd hO hNG o.op env H nx lo _ h
          split at h
          · rename_i v
            obtain ⟨env1, h, he⟩ := putK_true h
            obtain ⟨env', H', nx', k1, k2, k3, k4⟩ := drawP_true hO hNG hB hlen hK0 fuel (R.erase i) env1 H1 nx1 h
            refine ⟨env', H', nx', k1, Nat.le_trans hnx k2, fun hl => (hlo hl).trans (k3 (Nat.le_trans hl hnx)), fun ρ N w a listed hu hc hI hE => ?_⟩
            have hready := hu.ready hi ho hdeps
            have hl : R.length = (R.erase i).length + 1 := by
              have := List.length_erase_of_mem hi
              have := List.length_pos_of_mem hi
              omega
            rw [hl]
            intro w0 h0
            refine ⟨fun hr => (by rw [hr] at hready; cases hready), fun j hj => ?_⟩
            have hji : j = i := by
              rcases Nat.decEq j i with hne | he
              · obtain ⟨b, hb, ht⟩ := hoth j (hu.of_ready hj) hne
                exact (wait hu hc hi hj hb ht).elim
              · exact he
            subst hji
            refine ⟨o, ho, fun _ => ?_, fun hw => by rw [wanted_none hg] at hw; cases hw⟩
            obtain ⟨ρ', w', q1, q2, q3, q4, u, q5, q6⟩ := hok ρ N w0 n a o rfl (hI.more h0) hE
            rw [q5]
            refine ⟨?_, fun hkp => q4 (keepOp_keepF (by rw [kp_keep ho] at hkp; exact hkp))⟩
            have hany := k4 ρ' N w' (a.put o.dst u) (listed.setIfInBounds j true) (hu.next hi) (hc.set hready) q2 (he ρ' a u (hE.mono q1) q6)
            rw [Act.put_defers] at hany
            exact anyC_mono (fun _ _ => DK_lift q1 ((h0.mono hI.size).trans q3)) (fun _ _ _ h => h) _ _ _ _ hany
          · obtain ⟨env1, h, he⟩ := putK_true h
            obtain ⟨env', H', nx', k1, k2, k3, k4⟩ := drawP_true hO hNG hB hlen hK0 fuel (R.erase i) env1 H1 nx1 h
            refine ⟨env', H', nx', k1, Nat.le_trans hnx k2, fun hl => (hlo hl).trans (k3 (Nat.le_trans hl hnx)), fun ρ N w a listed hu hc hI hE => ?_⟩
            have hready := hu.ready hi ho hdeps
            have hl : R.length = (R.erase i).length + 1 := by
              have := List.length_erase_of_mem hi
              have := List.length_pos_of_mem hi
              omega
            rw [hl]
            intro w0 h0
            refine ⟨fun hr => (by rw [hr] at hready; cases hready), fun j hj => ?_⟩
            have hji : j = i := by
              rcases Nat.decEq j i with hne | he
              · obtain ⟨b, hb, ht⟩ := hoth j (hu.of_ready hj) hne
                exact (wait hu hc hi hj hb ht).elim
              · exact he
            subst hji
            refine ⟨o, ho, fun _ => ?_, fun hw => by rw [wanted_none hg] at hw; cases hw⟩
            obtain ⟨ρ', w', q1, q2, q3, q4, q5⟩ := hok ρ N w0 n a o rfl (hI.more h0) hE
            rw [show (execOp a.eval o).run P w0 = .ok .skip w' from q5]
            refine ⟨?_, fun hkp => q4 (keepOp_keepF (by rw [kp_keep ho] at hkp; exact hkp))⟩
            have hany := k4 ρ' N w' (a.put o.dst undef) (listed.setIfInBounds j true) (hu.next hi) (hc.set hready) q2 (he ρ' a undef (hE.mono q1) VR.undef)
            rw [Act.put_defers] at hany
            exact anyC_mono (fun _ _ => DK_lift q1 ((h0.mono hI.size).trans q3)) (fun _ _ _ h => h) _ _ _ _ hany
          · cases h
        · split at h
          · -- one that looks at no memory
            rename_i i o hcand
            obtain ⟨hi, ho, hg, hdeps, htest⟩ := cand_true hcand
            have hpo : pureOp o = true ∧ othA ops B i o R = true := by
              split at htest
              · rename_i hq; exact ⟨hq, htest⟩
              · cases htest
            obtain ⟨hp, hoth⟩ := hpo
            have hoth := othA_true hoth
            obtain ⟨v, h, hany0⟩ := pure_snd hp h
            obtain ⟨env1, h, he⟩ := putK_true h
            obtain ⟨env', H', nx', k1, k2, k3, k4⟩ := drawP_true hO hNG hB hlen hK0 fuel (R.erase i) env1 H nx h
            refine ⟨env', H', nx', k1, k2, k3, fun ρ N w a listed hu hc hI hE => ?_⟩
            obtain ⟨u, hu', hrun⟩ := hany0 ρ n a o rfl hE
            have hready := hu.ready hi ho hdeps
            have hany := k4 ρ N w (a.put o.dst u) (listed.setIfInBounds i true) (hu.next hi) (hc.set hready) hI (he ρ a u hE hu')
            rw [Act.put_defers] at hany
            have hl : R.length = (R.erase i).length + 1 := by
              have := List.length_erase_of_mem hi
              have := List.length_pos_of_mem hi
              omega
            rw [hl]
            refine anyC_pure hB hlen hK0 ho hg (pure_sel hp) _ listed a w (fun j oj b hoj hb hji hun hnb => ?_) hc hready hrun hany
            have hjR : j ∈ R := by
              rw [hu.2.2.2 j (getElem?_lt hoj)] at hun
              simpa using hun
            obtain ⟨b', hb', hf⟩ := hoth j hjR hji
            rw [hb] at hb'; cases hb'
            obtain ⟨oj', hoj', g1, g2⟩ := hf hnb
            rw [hoj] at hoj'; cases hoj'
            exact ⟨noSel_ne g1, g2⟩
          · split at h
            · cases h
            · rename_i i o hcand
              split at h
              · cases h
              · rename_i i' o' hcand'
                obtain ⟨hi, ho, hg, hdeps, htest⟩ := cand_true hcand
                obtain ⟨hi', ho', hg', hdeps', htest'⟩ := cand_true hcand'
                split at h
                · rename_i hoth
                  obtain ⟨hne, h⟩ := guardB_true h
                  obtain ⟨hap, h⟩ := guardB_true h
                  have hne := beq_false (nb_true hne)
                  have hoth := othP_true hoth
                  obtain ⟨n1, ob1, h, r1⟩ := bsK_true h
                  obtain ⟨n2, ob2, h, r2⟩ := bsK_true h
                  obtain ⟨H1, hH1, h⟩ := T.setK_true _ _ _ _ _ h
                  rw [fN_eq] at h
                  obtain ⟨H2, hH2, h⟩ := T.setK_true _ _ _ _ _ h
                  rw [fN_eq] at h
                  obtain ⟨env1, h, he1⟩ := putK_true h
                  obtain ⟨env2, h, he2⟩ := putK_true h
                  obtain ⟨env', H', nx', k1, k2, k3, k4⟩ := drawP_true hO hNG hB hlen hK0 fuel ((R.erase i).erase i') env2 H2 (nx + 1 + 1) h
                  refine ⟨env', H', nx', k1, by omega, fun hl => ?_, fun ρ N w a listed hu hc hI hE => ?_⟩
                  · refine HeapLo.trans (fun j hj => ?_) (k3 (by omega))
                    rw [hH2, if_neg (by omega), hH1, if_neg (by omega)]
                  · have hiR : i' ∈ R := List.mem_of_mem_erase hi'
                    have hready := hu.ready hi ho hdeps
                    have hready' := hu.ready hiR ho' hdeps'
                    obtain ⟨p1, p2, p3⟩ := apartB_true hap
                    obtain ⟨c1, e1, run1, or1⟩ := r1 ρ n a o rfl hE
                    obtain ⟨c2, e2, run2, or2⟩ := r2 ρ n a o' rfl hE
                    have hnd := hu.2.2.1
                    have hl : R.length = ((R.erase i).erase i').length + 1 + 1 := by
                      have := List.length_erase_of_mem hi
                      have := List.length_erase_of_mem hi'
                      have := List.length_pos_of_mem hi'
                      have := List.length_pos_of_mem hi
                      omega
                    rw [hl]
                    have sel : ∀ (o : Oper), newSl o.op = true → (∀ cs b, o.op ≠ .select cs b) := fun o h cs b e => by rw [e] at h; cases h
                    -- behind both
                    have fin : ∀ (w2 : World) (b1 b2 : Nat), Below w.heap.size w w2 → w.heap.size ≤ b1 → w.heap.size ≤ b2 → b1 ≠ b2 → w2.heap[b1]? = some (.cells c1 e1) → w2.heap[b2]? = some (.cells c2 e2) →
                        anyC P ops (keepAt ops) (DK G lo n ρ N w a.defers (.norm env' H' nx')) Kp ((R.erase i).erase i').length ((listed.setIfInBounds i true).setIfInBounds i' true)
                          ((a.put o.dst (.slice (some ⟨b1, 0, none⟩) n1 n1)).put o'.dst (.slice (some ⟨b2, 0, none⟩) n2 n2)) w2 := by
                      intro w2 b1 b2 hb hb1 hb2 hbn g1 g2
                      have hI2 := hI.more hb
                      have old : ∀ j o p, H.get j = some o → ρ j = some p → p.1 < w.heap.size := fun j o p hj hp => by
                        obtain ⟨b', sz', ob', z1, _, z3, _⟩ := hI.obj j o hj
                        rw [hp] at z1; cases z1
                        exact getElem?_lt z3
                      obtain ⟨l1, I1⟩ := hI2.adopt (b := b1) (sz := c1.size) hH1 (Nat.le_trans hI.size hb1) g1 (fun j o p hj hp => by have := old j o p hj hp; omega) or1
                      obtain ⟨l2, I2⟩ := I1.adopt (b := b2) (sz := c2.size) hH2 (Nat.le_trans hI.size hb2) g2 (fun j o p hj hp => by
                        rw [hH1] at hj
                        by_cases hjn : j = nx
                        · subst hjn
                          rw [Rho.put_same] at hp; cases hp; exact hbn
                        · rw [if_neg hjn] at hj
                          obtain ⟨b', sz', ob', z1, _, z3, _⟩ := hI.obj j o hj
                          have := l1 _ _ z1
                          rw [hp] at this; cases this
                          have := getElem?_lt z3
                          show b' ≠ b2
                          omega) (or2.mono l1)
                      have l12 := Rho.le_trans l1 l2
                      have v1 : VR ((ρ.put nx b1 c1.size).put (nx + 1) b2 c2.size) (.slice nx 0 n1 (.kn n1)) (.slice (some ⟨b1, 0, none⟩) n1 n1) := .sliceK _ _ _ _ _ _ (l2 _ _ (Rho.put_same _ _ _ _)) (Nat.le_refl _)
                      have v2 : VR ((ρ.put nx b1 c1.size).put (nx + 1) b2 c2.size) (.slice (nx + 1) 0 n2 (.kn n2)) (.slice (some ⟨b2, 0, none⟩) n2 n2) := .sliceK _ _ _ _ _ _ (Rho.put_same _ _ _ _) (Nat.le_refl _)
                      have hany := k4 _ N w2 ((a.put o.dst (.slice (some ⟨b1, 0, none⟩) n1 n1)).put o'.dst (.slice (some ⟨b2, 0, none⟩) n2 n2)) ((listed.setIfInBounds i true).setIfInBounds i' true) ((hu.next hi).next hi') ((hc.set hready).set (ready_mono hready' (Ne.symm hne))) I2
                        (he2 _ _ _ (he1 _ a _ (hE.mono l12) v1) v2)
                      rw [Act.put_defers, Act.put_defers] at hany
                      exact anyC_mono (fun _ _ => DK_lift l12 (hb.mono hI.size)) (fun _ _ _ h => h) _ _ _ _ hany
                    intro w0 h0
                    refine ⟨fun hr => (by rw [hr] at hready; cases hready), fun j hj => ?_⟩
                    have hsz0 := h0.size
                    have hjj : j = i ∨ j = i' := by
                      rcases Nat.decEq j i with hn1 | he1
                      · rcases Nat.decEq j i' with hn2 | he2
                        · obtain ⟨b, hb, ht, _⟩ := hoth j (hu.of_ready hj) hn1 hn2
                          exact (wait hu hc hi hj hb ht).elim
                        · exact .inr he2
                      · exact .inl he1
                    rcases hjj with rfl | rfl
                    · refine ⟨o, ho, fun _ => ?_, fun hw => by rw [wanted_none hg] at hw; cases hw⟩
                      rw [run1 w0]
                      refine ⟨fun w1 h1 => ?_, fun _ => below_alloc _ _⟩
                      have hr2 := ready_mono hready' (Ne.symm hne)
                      refine ⟨fun hr => (by rw [hr] at hr2; cases hr2), fun j2 hj2 => ?_⟩
                      have hu1 := hu.next hi
                      have hj2R := hu1.of_ready hj2
                      have hj2' : j2 = i' := by
                        rcases Nat.decEq j2 i' with hn2 | he2
                        · have hj2i : j2 ≠ j := (List.Nodup.mem_erase_iff hnd).1 hj2R |>.1
                          obtain ⟨b, hb, _, ht⟩ := hoth j2 (List.mem_of_mem_erase hj2R) hj2i hn2
                          have := ready_waits hB (hc.set hready) hj2 hb ht
                          rw [hu1.2.2.2 i' (hu1.2.1 i' hi')] at this
                          simp [hi'] at this
                        · exact he2
                      subst hj2'
                      refine ⟨o', ho', fun _ => ?_, fun hw => by rw [wanted_none hg'] at hw; cases hw⟩
                      rw [execOp_put o' (sel o' htest') a o.dst _ p1, run2 w1]
                      have hs1 := h1.size
                      rw [size_alloc] at hs1
                      refine ⟨fin _ w0.heap.size w1.heap.size (Below.cls (Below.cls (Below.cls h0 (below_alloc _ _)) h1) (below_alloc _ _)) hsz0 (by omega) (by omega) ?_ (heap_alloc _ _), fun _ => below_alloc _ _⟩
                      rw [(below_alloc w1 (.cells c2 e2)).block _ (by omega), h1.block _ (by rw [size_alloc]; omega)]
                      exact heap_alloc _ _
                    · refine ⟨o', ho', fun _ => ?_, fun hw => by rw [wanted_none hg'] at hw; cases hw⟩
                      rw [run2 w0]
                      refine ⟨fun w1 h1 => ?_, fun _ => below_alloc _ _⟩
                      have hr2 := ready_mono hready hne
                      refine ⟨fun hr => (by rw [hr] at hr2; cases hr2), fun j2 hj2 => ?_⟩
                      have hu1 := hu.next hiR
                      have hiE : i ∈ R.erase j := (List.Nodup.mem_erase_iff hnd).2 ⟨hne, hi⟩
                      have hj2R := hu1.of_ready hj2
                      have hj2' : j2 = i := by
                        rcases Nat.decEq j2 i with hn2 | he2
                        · have hj2i : j2 ≠ j := (List.Nodup.mem_erase_iff hnd).1 hj2R |>.1
                          obtain ⟨b, hb, ht, _⟩ := hoth j2 (List.mem_of_mem_erase hj2R) hn2 hj2i
                          have := ready_waits hB (hc.set hready') hj2 hb ht
                          rw [hu1.2.2.2 i (hu1.2.1 i hiE)] at this
                          simp [hiE] at this
                        · exact he2
                      subst hj2'
                      refine ⟨o, ho, fun _ => ?_, fun hw => by rw [wanted_none hg] at hw; cases hw⟩
                      rw [execOp_put o (sel o htest) a o'.dst _ p3, run1 w1]
                      have hs1 := h1.size
                      rw [size_alloc] at hs1
                      have hf := fin ((w1.alloc (.cells c1 e1))) w1.heap.size w0.heap.size (Below.cls (Below.cls (Below.cls h0 (below_alloc _ _)) h1) (below_alloc _ _)) (by omega) hsz0 (by omega) (heap_alloc _ _) (by
                        rw [(below_alloc w1 (.cells c1 e1)).block _ (by omega), h1.block _ (by rw [size_alloc]; omega)]
                        exact heap_alloc _ _)
                      rw [Array.setIfInBounds_comm _ _ hne, Go.Act.put_comm a _ _ p2] at hf
                      exact ⟨hf, fun _ => below_alloc _ _⟩
                · obtain ⟨q, env3, H2, h, hlo, kq⟩ := pairQ_true hO hNG hB hlen (Kp := Kp) h hi ho hg hdeps htest hi' ho' hg' hdeps' htest'
                  obtain ⟨env', H', nx', k1, k2, k3, k4⟩ := drawP_true hO hNG hB hlen hK0 fuel (((R.erase i).erase q).erase i') env3 H2 (nx + 1 + 1) h
                  exact ⟨env', H', nx', k1, by omega, fun hl => (hlo hl).trans (k3 (by omega)), kq k4⟩
end
end Go.Ev

