import Derived.Test.YtepopmplcjhfbaaGreatObG08
set_option linter.unusedSectionVars false
set_option linter.unusedVariables false
set_option linter.unusedSimpArgs false
set_option linter.unnecessarySimpa false
namespace Go.Ev
open Go.RowKit Go.Proofs Go.Rw
def LinesOk (o : ObjT) : Prop := TabOk o.lines ∧ ∀ x ∈ o.lines, LineIn o x
theorem enters168 : ∀ args w, (callFunc 168 args).run Tryz.prog w = .ok (.enter 168 args) w := enters_of Tryz.func168 (by kernel_rfl) rfl
set_option maxRecDepth 100000 in
set_option maxHeartbeats 4000000 in
theorem plines_c {w : World} {v : Value} {o : ObjT} (h : ObjAt w v o) (hR : o.R) (hs : ∀ y ∈ o.secs, SecOk y) : Calls Tryz.prog 69 #[v] w (BelR (dec (LinesOk o)) w) := by
  have hmf : ∀ (fn : Fn) (first cap : Array Value) (w : World), (Instr.makeFunc fn first cap).run Tryz.prog w = .ok (.func fn first cap) w := fun _ _ _ _ => rfl
  obtain ⟨s1, s2, s3, s4, s5, rfl, k1, k2, k3, k4, k5⟩ := h
  have hO : ObjAt w (.agg #[s1, s2, s3, s4, s5]) o := ⟨s1, s2, s3, s4, s5, rfl, k1, k2, k3, k4, k5⟩
  have z : ∀ A, Below w.heap.size w (w.alloc A) := fun A => (Below.refl w.heap.size w).alloc (Nat.le_refl _) A
  obtain ⟨W, hW⟩ : ∃ W, W = w.alloc (.cells #[s1, s2, s3, s4, s5] 28) := ⟨_, rfl⟩
  have hbW : Below w.heap.size w W := by rw [hW]; exact z _
  have hBx : W.heap[w.heap.size]? = some (.cells #[s1, s2, s3, s4, s5] 28 (0, 0)) := by rw [hW]; exact heap_alloc_new w _
  have hlt : w.heap.size < W.heap.size := by rw [hW, World.size_alloc]; omega
  have hl5 := hR.2.2.2.2.2.2.2.2.2
  have hT := isTable_c (k5.below hbW) hl5
  have hE := fun W1 (hW1 : Below W.heap.size W W1) => every_line (k5.below (hbW.trans (hW1.mono (Nat.le_of_lt hlt)))) hl5 4000 168 #[.pointer (some ⟨w.heap.size, 0, none⟩)] enters168 (fun x => dec (LineIn o x))
    (fun W' hW' x hx => by
      have hW2 : Below W.heap.size W W' := hW1.trans (hW'.mono hW1.size)
      exact cline_c (hO.below (hbW.trans (hW2.mono (Nat.le_of_lt hlt)))) ((hW2.block _ hlt).trans hBx) hR hs x (hR.2.2.2.2.1 x hx))
  have b4 : ∀ W', Below W.heap.size W W' → W'.cell? ⟨w.heap.size, 4, none⟩ = some s5 := fun W' hW' => by
    have := (hW'.block _ hlt).trans hBx
    simp [World.cell?, this]
  have b4W := b4 W (Below.refl _ _)
  obtain ⟨r, hr0⟩ : ∃ r, r = dec (LinesOk o) := ⟨_, rfl⟩
  rw [← hr0]
  have hrr := Lib.hid hr0
  clear hr0 hO k1 k2 k3 k4 k5 hs hBx hR
  by_cases ht : TabOk o.lines
  · rw [dec_yes ht] at hT
    have hres := Lib.hid (show r = (decide ((o.lines.length : Int) ≤ 4000) && o.lines.all fun x => dec (LineIn o x)) by
      rw [hrr.out]
      by_cases ha : ∀ x ∈ o.lines, LineIn o x
      · rw [show (decide ((o.lines.length : Int) ≤ 4000) && o.lines.all fun x => dec (LineIn o x)) = true by
          simp only [Bool.and_eq_true, decide_eq_true_eq, List.all_eq_true]
          exact ⟨by have := ht.1; omega, fun x hx => dec_yes (ha x hx)⟩]
        exact dec_yes ⟨ht, ha⟩
      · rw [show (decide ((o.lines.length : Int) ≤ 4000) && o.lines.all fun x => dec (LineIn o x)) = false by
          rw [← Bool.not_eq_true]
          simp only [Bool.and_eq_true, decide_eq_true_eq, List.all_eq_true]
          exact fun h => ha (fun x hx => dec_iff.1 (h.2 x hx))]
        exact dec_no fun h => ha h.2)
    generalize (decide ((o.lines.length : Int) ≤ 4000) && o.lines.all fun x => dec (LineIn o x)) = q at hres hE
    clear ht
    go_enter Tryz.func69, Tryz.ntmps69
    go_wp2_with fail
    rw [← hW]
    clear hW
    go_wp2_with (go_at_call 101; refine hT.mono ?_; rintro e w1 ⟨rfl, hb1⟩)
    have b4w := b4 _ hb1
    go_wp2_with (go_at_call 167; refine (hE _ hb1).mono ?_; rintro e w2 ⟨rfl, hb2⟩)
    go_ret
    exact ⟨by rw [hres.out]; rfl, bel_then (bel_then hbW (Nat.le_refl _) hb1) (Nat.le_refl _) hb2⟩
  · rw [dec_no ht] at hT
    have hres := Lib.hid (show r = false by rw [hrr.out]; exact dec_no fun h => ht h.1)
    clear ht hE
    go_enter Tryz.func69, Tryz.ntmps69
    go_wp2_with fail
    rw [← hW]
    clear hW
    go_wp2_with (go_at_call 101; refine hT.mono ?_; rintro e w1 ⟨rfl, hb1⟩)
    go_ret
    exact ⟨by rw [hres.out]; rfl, bel_then hbW (Nat.le_refl _) hb1⟩
end Go.Ev

namespace Go.Ev
open Go.RowKit Go.Proofs Go.Rw
def ObjOk (o : ObjT) : Prop := SecsOk o.secs ∧ SymsOk o ∧ RelsOk o ∧ FilesOk o.files ∧ LinesOk o
noncomputable def errV (r : Bool) : Int := if r = true then 0 else 30
def ErrR (r : Bool) (w : World) (e : Ending) (w' : World) : Prop := e = .returned (.int .i64 (errV r)) ∧ Below w.heap.size w w'
set_option maxRecDepth 100000 in
set_option maxHeartbeats 4000000 in
theorem pcheck_c {w : World} {v : Value} {o : ObjT} (h : ObjAt w v o) (hR : o.R) : Calls Tryz.prog 17 #[v] w (ErrR (dec (ObjOk o)) w) := by
  obtain ⟨s1, s2, s3, s4, s5, rfl, k1, k2, k3, k4, k5⟩ := h
  have hO : ObjAt w (.agg #[s1, s2, s3, s4, s5]) o := ⟨s1, s2, s3, s4, s5, rfl, k1, k2, k3, k4, k5⟩
  have z : ∀ A, Below w.heap.size w (w.alloc A) := fun A => (Below.refl w.heap.size w).alloc (Nat.le_refl _) A
  obtain ⟨W, hW⟩ : ∃ W, W = w.alloc (.cells #[s1, s2, s3, s4, s5] 28) := ⟨_, rfl⟩
  have hbW : Below w.heap.size w W := by rw [hW]; exact z _
  have hBx : W.heap[w.heap.size]? = some (.cells #[s1, s2, s3, s4, s5] 28 (0, 0)) := by rw [hW]; exact heap_alloc_new w _
  have hlt : w.heap.size < W.heap.size := by rw [hW, World.size_alloc]; omega
  have up : ∀ W', Below W.heap.size W W' → Below w.heap.size w W' := fun W' hW' => hbW.trans (hW'.mono (Nat.le_of_lt hlt))
  have h1 := fun W' (hW' : Below W.heap.size W W') => psecs_c (k1.below (up W' hW')) hR.1 hR.2.2.2.2.2.1
  have h2 := fun (hs : SecsOk o.secs) W' (hW' : Below W.heap.size W W') => psyms_c (hO.below (up W' hW')) hR hs.2.1
  have h3 := fun W' (hW' : Below W.heap.size W W') => prels_c (hO.below (up W' hW')) hR
  have h4 := fun W' (hW' : Below W.heap.size W W') => pfiles_c (k4.below (up W' hW')) hR.2.2.2.1 hR.2.2.2.2.2.2.2.2.1
  have h5 := fun (hs : SecsOk o.secs) W' (hW' : Below W.heap.size W W') => plines_c (hO.below (up W' hW')) hR hs.2.1
  have cells : ∀ W', Below W.heap.size W W' → W'.cell? ⟨w.heap.size, 0, none⟩ = some s1 ∧ W'.cell? ⟨w.heap.size, 1, none⟩ = some s2 ∧ W'.cell? ⟨w.heap.size, 2, none⟩ = some s3 ∧ W'.cell? ⟨w.heap.size, 3, none⟩ = some s4 ∧ W'.cell? ⟨w.heap.size, 4, none⟩ = some s5 := fun W' hW' => by
    have := (hW'.block _ hlt).trans hBx
    refine ⟨?_, ?_, ?_, ?_, ?_⟩ <;> simp [World.cell?, this]
  have hW0 := Below.refl W.heap.size W
  obtain ⟨e00, e01, e02, e03, e04⟩ := cells W hW0
  obtain ⟨r, hr0⟩ : ∃ r, r = dec (ObjOk o) := ⟨_, rfl⟩
  rw [← hr0]
  have hrr := Lib.hid hr0
  clear hr0 hO k1 k2 k3 k4 k5 hBx hR
  by_cases c1 : SecsOk o.secs
  · have h2 := h2 c1
    have h5 := h5 c1
    simp only [dec_yes c1] at h1
    by_cases c2 : SymsOk o
    · simp only [dec_yes c2] at h2
      by_cases c3 : RelsOk o
      · simp only [dec_yes c3] at h3
        by_cases c4 : FilesOk o.files
        · simp only [dec_yes c4] at h4
          have hres := Lib.hid (show r = dec (LinesOk o) by
            rw [hrr.out]
            unfold dec
            congr 1
            exact propext ⟨fun h => h.2.2.2.2, fun h => ⟨c1, c2, c3, c4, h⟩⟩)
          generalize dec (LinesOk o) = q at hres h5
          clear c1 c2 c3 c4
          cases q
          · skip
            go_enter Tryz.func17, Tryz.ntmps17
            go_wp2_with fail
            rw [← hW]
            clear hW
            go_wp2_with (first | (go_at_call 65; refine (h1 _ hW0).mono ?_; rintro e w1 ⟨rfl, hb1⟩; have hbb1 := bel_then hW0 (Nat.le_refl _) hb1; obtain ⟨e10, e11, e12, e13, e14⟩ := cells _ hbb1) | (go_at_call 66; refine (h2 _ hbb1).mono ?_; rintro e w2 ⟨rfl, hb2⟩; have hbb2 := bel_then hbb1 (Nat.le_refl _) hb2; obtain ⟨e20, e21, e22, e23, e24⟩ := cells _ hbb2) | (go_at_call 67; refine (h3 _ hbb2).mono ?_; rintro e w3 ⟨rfl, hb3⟩; have hbb3 := bel_then hbb2 (Nat.le_refl _) hb3; obtain ⟨e30, e31, e32, e33, e34⟩ := cells _ hbb3) | (go_at_call 68; refine (h4 _ hbb3).mono ?_; rintro e w4 ⟨rfl, hb4⟩; have hbb4 := bel_then hbb3 (Nat.le_refl _) hb4; obtain ⟨e40, e41, e42, e43, e44⟩ := cells _ hbb4) | (go_at_call 69; refine (h5 _ hbb4).mono ?_; rintro e w5 ⟨rfl, hb5⟩; have hbb5 := bel_then hbb4 (Nat.le_refl _) hb5))
            go_ret
            exact ⟨by rw [hres.out]; rfl, bel_then hbW (Nat.le_refl _) hbb5⟩
          · skip
            go_enter Tryz.func17, Tryz.ntmps17
            go_wp2_with fail
            rw [← hW]
            clear hW
            go_wp2_with (first | (go_at_call 65; refine (h1 _ hW0).mono ?_; rintro e w1 ⟨rfl, hb1⟩; have hbb1 := bel_then hW0 (Nat.le_refl _) hb1; obtain ⟨e10, e11, e12, e13, e14⟩ := cells _ hbb1) | (go_at_call 66; refine (h2 _ hbb1).mono ?_; rintro e w2 ⟨rfl, hb2⟩; have hbb2 := bel_then hbb1 (Nat.le_refl _) hb2; obtain ⟨e20, e21, e22, e23, e24⟩ := cells _ hbb2) | (go_at_call 67; refine (h3 _ hbb2).mono ?_; rintro e w3 ⟨rfl, hb3⟩; have hbb3 := bel_then hbb2 (Nat.le_refl _) hb3; obtain ⟨e30, e31, e32, e33, e34⟩ := cells _ hbb3) | (go_at_call 68; refine (h4 _ hbb3).mono ?_; rintro e w4 ⟨rfl, hb4⟩; have hbb4 := bel_then hbb3 (Nat.le_refl _) hb4; obtain ⟨e40, e41, e42, e43, e44⟩ := cells _ hbb4) | (go_at_call 69; refine (h5 _ hbb4).mono ?_; rintro e w5 ⟨rfl, hb5⟩; have hbb5 := bel_then hbb4 (Nat.le_refl _) hb5))
            go_ret
            exact ⟨by rw [hres.out]; rfl, bel_then hbW (Nat.le_refl _) hbb5⟩
        · simp only [dec_no c4] at h4
          have hres := Lib.hid (show r = false by rw [hrr.out]; exact dec_no fun h => c4 h.2.2.2.1)
          clear c1 c2 c3 c4 h5
          go_enter Tryz.func17, Tryz.ntmps17
          go_wp2_with fail
          rw [← hW]
          clear hW
          go_wp2_with (first | (go_at_call 65; refine (h1 _ hW0).mono ?_; rintro e w1 ⟨rfl, hb1⟩; have hbb1 := bel_then hW0 (Nat.le_refl _) hb1; obtain ⟨e10, e11, e12, e13, e14⟩ := cells _ hbb1) | (go_at_call 66; refine (h2 _ hbb1).mono ?_; rintro e w2 ⟨rfl, hb2⟩; have hbb2 := bel_then hbb1 (Nat.le_refl _) hb2; obtain ⟨e20, e21, e22, e23, e24⟩ := cells _ hbb2) | (go_at_call 67; refine (h3 _ hbb2).mono ?_; rintro e w3 ⟨rfl, hb3⟩; have hbb3 := bel_then hbb2 (Nat.le_refl _) hb3; obtain ⟨e30, e31, e32, e33, e34⟩ := cells _ hbb3) | (go_at_call 68; refine (h4 _ hbb3).mono ?_; rintro e w4 ⟨rfl, hb4⟩; have hbb4 := bel_then hbb3 (Nat.le_refl _) hb4; obtain ⟨e40, e41, e42, e43, e44⟩ := cells _ hbb4))
          go_ret
          exact ⟨by rw [hres.out]; rfl, bel_then hbW (Nat.le_refl _) hbb4⟩
      · simp only [dec_no c3] at h3
        have hres := Lib.hid (show r = false by rw [hrr.out]; exact dec_no fun h => c3 h.2.2.1)
        clear c1 c2 c3 h5 h4
        go_enter Tryz.func17, Tryz.ntmps17
        go_wp2_with fail
        rw [← hW]
        clear hW
        go_wp2_with (first | (go_at_call 65; refine (h1 _ hW0).mono ?_; rintro e w1 ⟨rfl, hb1⟩; have hbb1 := bel_then hW0 (Nat.le_refl _) hb1; obtain ⟨e10, e11, e12, e13, e14⟩ := cells _ hbb1) | (go_at_call 66; refine (h2 _ hbb1).mono ?_; rintro e w2 ⟨rfl, hb2⟩; have hbb2 := bel_then hbb1 (Nat.le_refl _) hb2; obtain ⟨e20, e21, e22, e23, e24⟩ := cells _ hbb2) | (go_at_call 67; refine (h3 _ hbb2).mono ?_; rintro e w3 ⟨rfl, hb3⟩; have hbb3 := bel_then hbb2 (Nat.le_refl _) hb3; obtain ⟨e30, e31, e32, e33, e34⟩ := cells _ hbb3))
        go_ret
        exact ⟨by rw [hres.out]; rfl, bel_then hbW (Nat.le_refl _) hbb3⟩
    · simp only [dec_no c2] at h2
      have hres := Lib.hid (show r = false by rw [hrr.out]; exact dec_no fun h => c2 h.2.1)
      clear c1 c2 h5 h4 h3
      go_enter Tryz.func17, Tryz.ntmps17
      go_wp2_with fail
      rw [← hW]
      clear hW
      go_wp2_with (first | (go_at_call 65; refine (h1 _ hW0).mono ?_; rintro e w1 ⟨rfl, hb1⟩; have hbb1 := bel_then hW0 (Nat.le_refl _) hb1; obtain ⟨e10, e11, e12, e13, e14⟩ := cells _ hbb1) | (go_at_call 66; refine (h2 _ hbb1).mono ?_; rintro e w2 ⟨rfl, hb2⟩; have hbb2 := bel_then hbb1 (Nat.le_refl _) hb2; obtain ⟨e20, e21, e22, e23, e24⟩ := cells _ hbb2))
      go_ret
      exact ⟨by rw [hres.out]; rfl, bel_then hbW (Nat.le_refl _) hbb2⟩
  · simp only [dec_no c1] at h1
    have hres := Lib.hid (show r = false by rw [hrr.out]; exact dec_no fun h => c1 h.1)
    clear c1 h5 h4 h3 h2
    go_enter Tryz.func17, Tryz.ntmps17
    go_wp2_with fail
    rw [← hW]
    clear hW
    go_wp2_with (first | (go_at_call 65; refine (h1 _ hW0).mono ?_; rintro e w1 ⟨rfl, hb1⟩; have hbb1 := bel_then hW0 (Nat.le_refl _) hb1; obtain ⟨e10, e11, e12, e13, e14⟩ := cells _ hbb1))
    go_ret
    exact ⟨by rw [hres.out]; rfl, bel_then hbW (Nat.le_refl _) hbb1⟩
end Go.Ev

namespace Go.Ev
open Go.RowKit Go.Proofs Go.Rw
def ObjEq (C : SecT → ByteArray) (a b : ObjT) : Prop := SecsEq C a.secs b.secs ∧ a.syms = b.syms ∧ a.rels = b.rels ∧ a.files = b.files ∧ a.lines = b.lines
end Go.Ev

namespace Go.Ev
open Go.RowKit Go.Proofs Go.Rw
set_option maxRecDepth 100000 in
set_option maxHeartbeats 8000000 in
theorem rsame_c {w : World} {u v : Value} {a b : ObjT} {C : SecT → ByteArray} (h : ObjAt w u a) (h' : ObjAt w v b) (hR : a.R) (hR' : b.R) (hC : ∀ x ∈ a.secs, SecIn w x.ba x.bn (C x)) (hC' : ∀ x ∈ b.secs, SecIn w x.ba x.bn (C x)) :
    Calls Tryz.prog 20 #[u, v] w (BelR (dec (ObjEq C a b)) w) := by
  obtain ⟨s1, s2, s3, s4, s5, rfl, k1, k2, k3, k4, k5⟩ := h
  obtain ⟨t1, t2, t3, t4, t5, rfl, m1, m2, m3, m4, m5⟩ := h'
  have h5' := fun W' (hW' : Below w.heap.size w W') => sameLines_c (k5.below hW') (m5.below hW') hR.2.2.2.2.2.2.2.2.2 hR'.2.2.2.2.2.2.2.2.2
  obtain ⟨a1, c1, rfl⟩ := rows_slice k1
  obtain ⟨a2, c2, rfl⟩ := rows_slice k2
  obtain ⟨a3, c3, rfl⟩ := rows_slice k3
  obtain ⟨a4, c4, rfl⟩ := rows_slice k4
  obtain ⟨d1, g1, rfl⟩ := rows_slice m1
  obtain ⟨d2, g2, rfl⟩ := rows_slice m2
  obtain ⟨d3, g3, rfl⟩ := rows_slice m3
  obtain ⟨d4, g4, rfl⟩ := rows_slice m4
  have hn1 := hR.2.2.2.2.2.1
  have hn2 := hR.2.2.2.2.2.2.1
  have hn3 := hR.2.2.2.2.2.2.2.1
  have hn4 := hR.2.2.2.2.2.2.2.2.1
  have hn1' := hR'.2.2.2.2.2.1
  have hn2' := hR'.2.2.2.2.2.2.1
  have hn3' := hR'.2.2.2.2.2.2.2.1
  have hn4' := hR'.2.2.2.2.2.2.2.2.1
  have z : ∀ A B, Below w.heap.size w ((w.alloc A).alloc B) := fun A B => (one_below w A).alloc (by simp) B
  obtain ⟨r, hr0⟩ : ∃ r, r = dec (ObjEq C a b) := ⟨_, rfl⟩
  rw [← hr0]
  have hrr := Lib.hid hr0
  have hno := Lib.hid (fun (hs : ¬ ObjEq C a b) => show r = false by rw [hr0]; exact dec_no hs)
  clear hr0 k5 m5 hR hR'
  by_cases l1 : a.secs.length = b.secs.length
  case neg =>
    have hres := Lib.hid (hno.out fun h => l1 h.1.1)
    have hb : ((a.secs.length : Int) == (b.secs.length : Int)) = false := by simp; omega
    go_enter Tryz.func20, Tryz.ntmps20
    go_wp2
    go_ret
    exact ⟨by rw [hres.out]; rfl, z _ _⟩
  rw [← l1] at m1 ⊢
  have L1 := Lib.hid l1
  clear l1
  by_cases l2 : a.syms.length = b.syms.length
  case neg =>
    have hres := Lib.hid (hno.out fun h => l2 (by rw [h.2.1]))
    have hb : ((a.syms.length : Int) == (b.syms.length : Int)) = false := by simp; omega
    go_enter Tryz.func20, Tryz.ntmps20
    go_wp2
    go_ret
    exact ⟨by rw [hres.out]; rfl, z _ _⟩
  rw [← l2] at m2 ⊢
  have L2 := Lib.hid l2
  clear l2
  by_cases l3 : a.rels.length = b.rels.length
  case neg =>
    have hres := Lib.hid (hno.out fun h => l3 (by rw [h.2.2.1]))
    have hb : ((a.rels.length : Int) == (b.rels.length : Int)) = false := by simp; omega
    go_enter Tryz.func20, Tryz.ntmps20
    go_wp2
    go_ret
    exact ⟨by rw [hres.out]; rfl, z _ _⟩
  rw [← l3] at m3 ⊢
  have L3 := Lib.hid l3
  clear l3
  by_cases l4 : a.files.length = b.files.length
  case neg =>
    have hres := Lib.hid (hno.out fun h => l4 (by rw [h.2.2.2.1]))
    have hb : ((a.files.length : Int) == (b.files.length : Int)) = false := by simp; omega
    go_enter Tryz.func20, Tryz.ntmps20
    go_wp2
    go_ret
    exact ⟨by rw [hres.out]; rfl, z _ _⟩
  rw [← l4] at m4 ⊢
  have L4 := Lib.hid l4
  clear l4
  obtain ⟨W, hW⟩ : ∃ W, W = (w.alloc (.cells #[.slice a1 a.secs.length c1, .slice a2 a.syms.length c2, .slice a3 a.rels.length c3, .slice a4 a.files.length c4, s5] 28)).alloc (.cells #[.slice d1 a.secs.length g1, .slice d2 a.syms.length g2, .slice d3 a.rels.length g3, .slice d4 a.files.length g4, t5] 28) := ⟨_, rfl⟩
  have hbW : Below w.heap.size w W := by rw [hW]; exact z _ _
  have hB1 : W.heap[w.heap.size]? = some (.cells #[.slice a1 a.secs.length c1, .slice a2 a.syms.length c2, .slice a3 a.rels.length c3, .slice a4 a.files.length c4, s5] 28 (0, 0)) := by rw [hW]; exact ((one_below _ _).block _ (by simp)).trans (heap_alloc_new w _)
  have hB2 : W.heap[w.heap.size + 1]? = some (.cells #[.slice d1 a.secs.length g1, .slice d2 a.syms.length g2, .slice d3 a.rels.length g3, .slice d4 a.files.length g4, t5] 28 (0, 0)) := by rw [hW]; have := heap_alloc_new (w.alloc (.cells #[.slice a1 a.secs.length c1, .slice a2 a.syms.length c2, .slice a3 a.rels.length c3, .slice a4 a.files.length c4, s5] 28)) (.cells #[.slice d1 a.secs.length g1, .slice d2 a.syms.length g2, .slice d3 a.rels.length g3, .slice d4 a.files.length g4, t5] 28); rwa [World.size_alloc] at this
  have hlt : w.heap.size + 1 < W.heap.size := by rw [hW, World.size_alloc, World.size_alloc]; omega
  have up : ∀ W', Below W.heap.size W W' → Below w.heap.size w W' := fun W' hW' => hbW.trans (hW'.mono (by omega))
  have h5 := fun W' (hW' : Below W.heap.size W W') => h5' W' (up W' hW')
  have cells : ∀ W', Below W.heap.size W W' → (W'.cell? ⟨w.heap.size, 0, none⟩ = some (.slice a1 a.secs.length c1) ∧ W'.cell? ⟨w.heap.size, 1, none⟩ = some (.slice a2 a.syms.length c2) ∧ W'.cell? ⟨w.heap.size, 2, none⟩ = some (.slice a3 a.rels.length c3) ∧ W'.cell? ⟨w.heap.size, 3, none⟩ = some (.slice a4 a.files.length c4) ∧ W'.cell? ⟨w.heap.size, 4, none⟩ = some s5) ∧
      W'.cell? ⟨w.heap.size + 1, 0, none⟩ = some (.slice d1 a.secs.length g1) ∧ W'.cell? ⟨w.heap.size + 1, 1, none⟩ = some (.slice d2 a.syms.length g2) ∧ W'.cell? ⟨w.heap.size + 1, 2, none⟩ = some (.slice d3 a.rels.length g3) ∧ W'.cell? ⟨w.heap.size + 1, 3, none⟩ = some (.slice d4 a.files.length g4) ∧ W'.cell? ⟨w.heap.size + 1, 4, none⟩ = some t5 := fun W' hW' => by
    have e1 := (hW'.block _ (show w.heap.size < W.heap.size by omega)).trans hB1
    have e2 := (hW'.block _ hlt).trans hB2
    refine ⟨⟨?_, ?_, ?_, ?_, ?_⟩, ?_, ?_, ?_, ?_, ?_⟩ <;> simp [World.cell?, e1, e2]
  have hW0 := Below.refl W.heap.size W
  clear hB1 hB2 h5'
  by_cases l5 : a.lines = b.lines
  case neg =>
    have hres := Lib.hid (hno.out fun h => l5 h.2.2.2.2)
    simp only [dec_no l5] at h5
    obtain ⟨⟨e0, e1, e2, e3, e4⟩, f0, f1, f2, f3, f4⟩ := cells _ hW0
    go_enter Tryz.func20, Tryz.ntmps20
    go_wp2_with fail
    rw [← hW]
    clear hW
    go_wp2_with (go_at_call 74; refine (h5 _ hW0).mono ?_; rintro e w1 ⟨rfl, hb1⟩)
    go_ret
    exact ⟨by rw [hres.out]; rfl, bel_then hbW (Nat.le_refl _) hb1⟩
  simp only [dec_yes l5] at h5
  have hF5 := Lib.hid l5
  clear l5
  go_enter Tryz.func20, Tryz.ntmps20
  go_wp2_with fail
  rw [← hW]
  clear hW
  go_wp2_with (go_at_call 74; refine (h5 _ hW0).mono ?_; rintro e w5 ⟨rfl, hbl⟩)
  go_loopg [5] a.secs.length (fun gn i wr => ∃ k : Nat, gn + k = a.secs.length ∧ k ≤ a.secs.length ∧ i = .int .i64 k ∧ Below W.heap.size W wr ∧ (∀ (j : Nat) (x y : SecT), j < k → a.secs[j]? = some x → b.secs[j]? = some y → SecEq x y (C x) (C y)))
  case atStart => exact ⟨0, by omega, by omega, rfl, hbl, fun j x y hj => by omega⟩
  case round =>
    clear hbl
    obtain ⟨k, hgk, hk, rfl, hbl, hA0⟩ := hrel
    have hA1 := Lib.hid hA0
    clear hA0
    obtain ⟨⟨e0, e1, e2, e3, e4⟩, f0, f1, f2, f3, f4⟩ := cells _ hbl
    have hbw := up _ hbl
    by_cases hlt : k < a.secs.length
    · have hlm : k < b.secs.length := by have := L1.out; omega
      obtain ⟨bb1, o1, rfl⟩ := rows_some2 k1 hlt
      obtain ⟨bb2, o2, rfl⟩ := rows_some2 m1 hlm
      have hlt1 : (k : Int) < (a.secs.length : Int) := by omega
      obtain ⟨x, hx⟩ : ∃ x, a.secs[k]? = some x := ⟨a.secs[k], by simp [hlt]⟩
      obtain ⟨y, hy⟩ : ∃ x, b.secs[k]? = some x := ⟨b.secs[k], by simp [hlm]⟩
      have hB := hbw.size
      have hB2 : ∀ A, w.heap.size ≤ (wr.alloc A).heap.size := fun A => by rw [World.size_alloc]; omega
      have hbb := fun A B => (hbw.alloc hB A).alloc (hB2 A) B
      have hL := hbl.size
      have hL2 : ∀ A, W.heap.size ≤ (wr.alloc A).heap.size := fun A => by rw [World.size_alloc]; omega
      have hbb2 := fun A B => (hbl.alloc hL A).alloc (hL2 A) B
      have hcall := fun A B c1 c2 => sameB_c (c1 := c1) (c2 := c2) ((hC x (List.mem_of_getElem? hx)).below (hbb A B)) ((hC' y (List.mem_of_getElem? hy)).below (hbb A B))
      obtain ⟨p0, p1, p2, p3, p4⟩ := rows_sec (k1.below hbw) hx
      obtain ⟨y0, y1, y2, y3, y4⟩ := rows_sec (m1.below hbw) hy
      have q0 := fun A => (World.cell?_alloc_lt wr A _ (low_of_cell y0)).trans y0
      have q1 := fun A => (World.cell?_alloc_lt wr A _ (low_of_cell y1)).trans y1
      have q2 := fun A => (World.cell?_alloc_lt wr A _ (low_of_cell y2)).trans y2
      have q3 := fun A => (World.cell?_alloc_lt wr A _ (low_of_cell y3)).trans y3
      have q4 := fun A => (World.cell?_alloc_lt wr A _ (low_of_cell y4)).trans y4
      have v0 := fun A => (World.cell?_alloc_lt wr A _ (low_of_cell f0)).trans f0
      have hxH := Lib.hid hx
      have hyH := Lib.hid hy
      clear hx hy k1 k2 k3 k4 m1 m2 m3 m4 hC hC' cells h5 y0 y1 y2 y3 y4
      have hno2 := Lib.hid (fun (e : ¬ SecEq x y (C x) (C y)) => hno.out fun h => e (h.1.2 k x y hxH.out hyH.out))
      have hyes := Lib.hid (fun (e : SecEq x y (C x) (C y)) => show (∀ (j : Nat) (x y : SecT), j < k + 1 → a.secs[j]? = some x → b.secs[j]? = some y → SecEq x y (C x) (C y)) from fun j x' y' hj hx' hy' => by
        by_cases hjk : j < k
        · exact hA1.out j x' y' hjk hx' hy'
        · obtain rfl : j = k := by omega
          rw [hxH.out] at hx'
          rw [hyH.out] at hy'
          cases hx'
          cases hy'
          exact e)
      generalize C x = X at hcall hno2 hyes
      generalize C y = Y at hcall hno2 hyes
      clear hxH hyH
      obtain ⟨xn, xr, xa, xb, xl, xc, xz⟩ := x
      obtain ⟨yn, yr, ya, yb, yl, yc, yz⟩ := y
      dsimp only at hcall p0 p1 p2 p3 p4 q0 q1 q2 q3 q4
      by_cases d0 : xn = yn
      case neg =>
        have hne := Lib.hid (hno2.out fun h => d0 h.1)
        have hb := bytes_ne d0
        go_wp2
        go_ret
        exact ⟨by rw [hne.out]; rfl, hbb _ _⟩
      subst d0
      by_cases d1 : xr = yr
      case neg =>
        have hne := Lib.hid (hno2.out fun h => d1 h.2.1)
        have hb : (xr == yr) = false := beq_eq_false_iff_ne.2 d1
        go_wp2
        go_ret
        exact ⟨by rw [hne.out]; rfl, hbb _ _⟩
      subst d1
      by_cases d2 : xa = ya
      case neg =>
        have hne := Lib.hid (hno2.out fun h => d2 h.2.2.1)
        have hb : (xa == ya) = false := beq_eq_false_iff_ne.2 d2
        go_wp2
        go_ret
        exact ⟨by rw [hne.out]; rfl, hbb _ _⟩
      subst d2
      by_cases d3 : xz = yz
      case neg =>
        have hne := Lib.hid (hno2.out fun h => d3 h.2.2.2.2)
        have hb : (xz == yz) = false := beq_eq_false_iff_ne.2 d3
        go_wp2
        go_ret
        exact ⟨by rw [hne.out]; rfl, hbb _ _⟩
      subst d3
      by_cases d4 : X = Y
      case neg =>
        have hne := Lib.hid (hno2.out fun h => d4 h.2.2.2.1)
        simp only [dec_no d4] at hcall
        go_wp2_with (go_at_call 75; refine (hcall _ _ _ _).mono ?_; rintro e w1 ⟨rfl, rfl⟩)
        go_ret
        exact ⟨by rw [hne.out]; rfl, hbb _ _⟩
      have hnew := Lib.hid (hyes.out ⟨rfl, rfl, rfl, d4, rfl⟩)
      simp only [dec_yes d4] at hcall
      go_wp2_with (go_at_call 75; refine (hcall _ _ _ _).mono ?_; rintro e w1 ⟨rfl, rfl⟩)
      go_roundg (gk - 1)
      case measure => omega
      case rel => exact ⟨k + 1, by omega, by omega, by go_num, hbb2 _ _, hnew.out⟩
    · obtain rfl : k = a.secs.length := by omega
      have hF1 := Lib.hid (show SecsEq C a.secs b.secs from ⟨L1.out, fun j x y hx hy => hA1.out j x y (List.getElem?_eq_some_iff.1 hx).1 hx hy⟩)
      clear hA1 hlt hgk hk
      go_wp2
      clear e0 e1 e2 e3 e4 f0 f1 f2 f3 f4 hbw
      obtain ⟨wo, rfl⟩ : ∃ wo : World, wo = wr := ⟨_, rfl⟩
      obtain ⟨gO, rfl⟩ : ∃ gO : Nat, gO = gk := ⟨_, rfl⟩
      go_loopg [8] a.syms.length (fun gn i wr => ∃ k : Nat, gn + k = a.syms.length ∧ k ≤ a.syms.length ∧ i = .int .i64 k ∧ Below W.heap.size W wr ∧ (∀ j, j < k → a.syms[j]? = b.syms[j]?))
      case atStart => exact ⟨0, by omega, by omega, rfl, hbl, fun j hj => by omega⟩
      case round =>
        clear hbl
        obtain ⟨k, hgk, hk, rfl, hbl, hA0⟩ := hrel
        have hA2 := Lib.hid hA0
        clear hA0
        obtain ⟨⟨e0, e1, e2, e3, e4⟩, f0, f1, f2, f3, f4⟩ := cells _ hbl
        have hbw := up _ hbl
        by_cases hlt : k < a.syms.length
        · have hlm : k < b.syms.length := by have := L2.out; omega
          obtain ⟨bb1, o1, rfl⟩ := rows_some2 k2 hlt
          obtain ⟨bb2, o2, rfl⟩ := rows_some2 m2 hlm
          have hlt1 : (k : Int) < (a.syms.length : Int) := by omega
          obtain ⟨⟨xn, xs, xv, xz, xb, xk⟩, hx⟩ : ∃ x, a.syms[k]? = some x := ⟨a.syms[k], by simp [hlt]⟩
          obtain ⟨⟨yn, ys, yv, yz, yb, yk⟩, hy⟩ : ∃ x, b.syms[k]? = some x := ⟨b.syms[k], by simp [hlm]⟩
          obtain ⟨p0, p1, p2, p3, p4, p5⟩ := rows_sym (k2.below hbw) hx
          obtain ⟨q0, q1, q2, q3, q4, q5⟩ := rows_sym (m2.below hbw) hy
          dsimp only at p0 q0 p1 q1 p2 q2 p3 q3 p4 q4 p5 q5
          have hxH := Lib.hid hx
          have hyH := Lib.hid hy
          clear hx hy k1 k2 k3 k4 m1 m2 m3 m4 hC hC' cells h5
          by_cases d0 : xn = yn
          case neg =>
            have hne := Lib.hid (hno.out fun h => by
              have h2 := hxH.out
              rw [h.2.1, hyH.out] at h2
              injection h2 with h2
              injection h2
              exact d0 (by first | assumption | (symm; assumption)))
            have hb := bytes_ne d0
            go_wp2
            go_quiet (fail)
            go_wp2
            go_ret
            exact ⟨by rw [hne.out]; rfl, below_drewN hbw _⟩
          subst d0
          by_cases d1 : xs = ys
          case neg =>
            have hne := Lib.hid (hno.out fun h => by
              have h2 := hxH.out
              rw [h.2.1, hyH.out] at h2
              injection h2 with h2
              injection h2
              exact d1 (by first | assumption | (symm; assumption)))
            have hb : (xs == ys) = false := beq_eq_false_iff_ne.2 d1
            go_wp2
            go_quiet (fail)
            go_wp2
            go_ret
            exact ⟨by rw [hne.out]; rfl, below_drewN hbw _⟩
          subst d1
          by_cases d2 : xv = yv
          case neg =>
            have hne := Lib.hid (hno.out fun h => by
              have h2 := hxH.out
              rw [h.2.1, hyH.out] at h2
              injection h2 with h2
              injection h2
              exact d2 (by first | assumption | (symm; assumption)))
            have hb : (xv == yv) = false := beq_eq_false_iff_ne.2 d2
            go_wp2
            go_quiet (fail)
            go_wp2
            go_ret
            exact ⟨by rw [hne.out]; rfl, below_drewN hbw _⟩
          subst d2
          by_cases d3 : xz = yz
          case neg =>
            have hne := Lib.hid (hno.out fun h => by
              have h2 := hxH.out
              rw [h.2.1, hyH.out] at h2
              injection h2 with h2
              injection h2
              exact d3 (by first | assumption | (symm; assumption)))
            have hb : (xz == yz) = false := beq_eq_false_iff_ne.2 d3
            go_wp2
            go_quiet (fail)
            go_wp2
            go_ret
            exact ⟨by rw [hne.out]; rfl, below_drewN hbw _⟩
          subst d3
          by_cases d4 : xb = yb
          case neg =>
            have hne := Lib.hid (hno.out fun h => by
              have h2 := hxH.out
              rw [h.2.1, hyH.out] at h2
              injection h2 with h2
              injection h2
              exact d4 (by first | assumption | (symm; assumption)))
            have hb : (xb == yb) = false := beq_eq_false_iff_ne.2 d4
            go_wp2
            go_quiet (fail)
            go_wp2
            go_ret
            exact ⟨by rw [hne.out]; rfl, below_drewN hbw _⟩
          subst d4
          by_cases d5 : xk = yk
          case neg =>
            have hne := Lib.hid (hno.out fun h => by
              have h2 := hxH.out
              rw [h.2.1, hyH.out] at h2
              injection h2 with h2
              injection h2
              exact d5 (by first | assumption | (symm; assumption)))
            have hb : (xk == yk) = false := beq_eq_false_iff_ne.2 d5
            go_wp2
            go_quiet (fail)
            go_wp2
            go_ret
            exact ⟨by rw [hne.out]; rfl, below_drewN hbw _⟩
          subst d5
          go_wp2
          go_quiet (fail)
          go_wp2
          go_roundg (gk - 1)
          case measure => omega
          case rel =>
            refine ⟨k + 1, by omega, by omega, by go_num, below_drewN hbl _, fun j hj => ?_⟩
            by_cases hjk : j < k
            · exact hA2.out j hjk
            · obtain rfl : j = k := by omega
              rw [hxH.out, hyH.out]
        · obtain rfl : k = a.syms.length := by omega
          have hF2 := Lib.hid (show a.syms = b.syms from List.ext_getElem? fun j => by
            by_cases hj : j < a.syms.length
            · exact hA2.out j hj
            · have := L2.out
              rw [List.getElem?_eq_none (by omega), List.getElem?_eq_none (by omega)])
          clear hA2 hlt hgk hk
          go_wp2
          clear e0 e1 e2 e3 e4 f0 f1 f2 f3 f4 hbw
          obtain ⟨wo, rfl⟩ : ∃ wo : World, wo = wr := ⟨_, rfl⟩
          obtain ⟨gO, rfl⟩ : ∃ gO : Nat, gO = gk := ⟨_, rfl⟩
          go_loopg [9] a.rels.length (fun gn i wr => ∃ k : Nat, gn + k = a.rels.length ∧ k ≤ a.rels.length ∧ i = .int .i64 k ∧ Below W.heap.size W wr ∧ (∀ j, j < k → a.rels[j]? = b.rels[j]?))
          case atStart => exact ⟨0, by omega, by omega, rfl, hbl, fun j hj => by omega⟩
          case round =>
            clear hbl
            obtain ⟨k, hgk, hk, rfl, hbl, hA0⟩ := hrel
            have hA3 := Lib.hid hA0
            clear hA0
            obtain ⟨⟨e0, e1, e2, e3, e4⟩, f0, f1, f2, f3, f4⟩ := cells _ hbl
            have hbw := up _ hbl
            by_cases hlt : k < a.rels.length
            · have hlm : k < b.rels.length := by have := L3.out; omega
              obtain ⟨bb1, o1, rfl⟩ := rows_some2 k3 hlt
              obtain ⟨bb2, o2, rfl⟩ := rows_some2 m3 hlm
              have hlt1 : (k : Int) < (a.rels.length : Int) := by omega
              obtain ⟨⟨xs, xo, xk, xy, xa⟩, hx⟩ : ∃ x, a.rels[k]? = some x := ⟨a.rels[k], by simp [hlt]⟩
              obtain ⟨⟨ys, yo, yk, yy, ya⟩, hy⟩ : ∃ x, b.rels[k]? = some x := ⟨b.rels[k], by simp [hlm]⟩
              obtain ⟨p0, p1, p2, p3, p4⟩ := rows_rel (k3.below hbw) hx
              obtain ⟨q0, q1, q2, q3, q4⟩ := rows_rel (m3.below hbw) hy
              dsimp only at p0 q0 p1 q1 p2 q2 p3 q3 p4 q4
              have hxH := Lib.hid hx
              have hyH := Lib.hid hy
              clear hx hy k1 k2 k3 k4 m1 m2 m3 m4 hC hC' cells h5
              by_cases d0 : xs = ys
              case neg =>
                have hne := Lib.hid (hno.out fun h => by
                  have h2 := hxH.out
                  rw [h.2.2.1, hyH.out] at h2
                  injection h2 with h2
                  injection h2
                  exact d0 (by first | assumption | (symm; assumption)))
                have hb : (xs == ys) = false := beq_eq_false_iff_ne.2 d0
                go_wp2
                go_quiet (fail)
                go_wp2
                go_ret
                exact ⟨by rw [hne.out]; rfl, below_drewN hbw _⟩
              subst d0
              by_cases d1 : xo = yo
              case neg =>
                have hne := Lib.hid (hno.out fun h => by
                  have h2 := hxH.out
                  rw [h.2.2.1, hyH.out] at h2
                  injection h2 with h2
                  injection h2
                  exact d1 (by first | assumption | (symm; assumption)))
                have hb : (xo == yo) = false := beq_eq_false_iff_ne.2 d1
                go_wp2
                go_quiet (fail)
                go_wp2
                go_ret
                exact ⟨by rw [hne.out]; rfl, below_drewN hbw _⟩
              subst d1
              by_cases d2 : xk = yk
              case neg =>
                have hne := Lib.hid (hno.out fun h => by
                  have h2 := hxH.out
                  rw [h.2.2.1, hyH.out] at h2
                  injection h2 with h2
                  injection h2
                  exact d2 (by first | assumption | (symm; assumption)))
                have hb : (xk == yk) = false := beq_eq_false_iff_ne.2 d2
                go_wp2
                go_quiet (fail)
                go_wp2
                go_ret
                exact ⟨by rw [hne.out]; rfl, below_drewN hbw _⟩
              subst d2
              by_cases d3 : xy = yy
              case neg =>
                have hne := Lib.hid (hno.out fun h => by
                  have h2 := hxH.out
                  rw [h.2.2.1, hyH.out] at h2
                  injection h2 with h2
                  injection h2
                  exact d3 (by first | assumption | (symm; assumption)))
                have hb : (xy == yy) = false := beq_eq_false_iff_ne.2 d3
                go_wp2
                go_quiet (fail)
                go_wp2
                go_ret
                exact ⟨by rw [hne.out]; rfl, below_drewN hbw _⟩
              subst d3
              by_cases d4 : xa = ya
              case neg =>
                have hne := Lib.hid (hno.out fun h => by
                  have h2 := hxH.out
                  rw [h.2.2.1, hyH.out] at h2
                  injection h2 with h2
                  injection h2
                  exact d4 (by first | assumption | (symm; assumption)))
                have hb : (xa == ya) = false := beq_eq_false_iff_ne.2 d4
                go_wp2
                go_quiet (fail)
                go_wp2
                go_ret
                exact ⟨by rw [hne.out]; rfl, below_drewN hbw _⟩
              subst d4
              go_wp2
              go_quiet (fail)
              go_wp2
              go_roundg (gk - 1)
              case measure => omega
              case rel =>
                refine ⟨k + 1, by omega, by omega, by go_num, below_drewN hbl _, fun j hj => ?_⟩
                by_cases hjk : j < k
                · exact hA3.out j hjk
                · obtain rfl : j = k := by omega
                  rw [hxH.out, hyH.out]
            · obtain rfl : k = a.rels.length := by omega
              have hF3 := Lib.hid (show a.rels = b.rels from List.ext_getElem? fun j => by
                by_cases hj : j < a.rels.length
                · exact hA3.out j hj
                · have := L3.out
                  rw [List.getElem?_eq_none (by omega), List.getElem?_eq_none (by omega)])
              clear hA3 hlt hgk hk
              go_wp2
              clear e0 e1 e2 e3 e4 f0 f1 f2 f3 f4 hbw
              obtain ⟨wo, rfl⟩ : ∃ wo : World, wo = wr := ⟨_, rfl⟩
              obtain ⟨gO, rfl⟩ : ∃ gO : Nat, gO = gk := ⟨_, rfl⟩
              go_loopg [10] a.files.length (fun gn i wr => ∃ k : Nat, gn + k = a.files.length ∧ k ≤ a.files.length ∧ i = .int .i64 k ∧ Below W.heap.size W wr ∧ (∀ j, j < k → a.files[j]? = b.files[j]?))
              case atStart => exact ⟨0, by omega, by omega, rfl, hbl, fun j hj => by omega⟩
              case round =>
                clear hbl
                obtain ⟨k, hgk, hk, rfl, hbl, hA0⟩ := hrel
                have hA4 := Lib.hid hA0
                clear hA0
                obtain ⟨⟨e0, e1, e2, e3, e4⟩, f0, f1, f2, f3, f4⟩ := cells _ hbl
                have hbw := up _ hbl
                by_cases hlt : k < a.files.length
                · have hlm : k < b.files.length := by have := L4.out; omega
                  obtain ⟨bb1, o1, rfl⟩ := rows_some2 k4 hlt
                  obtain ⟨bb2, o2, rfl⟩ := rows_some2 m4 hlm
                  have hlt1 : (k : Int) < (a.files.length : Int) := by omega
                  obtain ⟨x, hx⟩ : ∃ x, a.files[k]? = some x := ⟨a.files[k], by simp [hlt]⟩
                  obtain ⟨y, hy⟩ : ∃ x, b.files[k]? = some x := ⟨b.files[k], by simp [hlm]⟩
                  have p0 := rows_file (k4.below hbw) hx
                  have q0 := rows_file (m4.below hbw) hy
                  have hxH := Lib.hid hx
                  have hyH := Lib.hid hy
                  clear hx hy k1 k2 k3 k4 m1 m2 m3 m4 hC hC' cells h5
                  by_cases d0 : x = y
                  case neg =>
                    have hne := Lib.hid (hno.out fun h => by
                      have h2 := hxH.out
                      rw [h.2.2.2.1, hyH.out] at h2
                      injection h2 with h2
                      skip
                      exact d0 (by first | assumption | (symm; assumption)))
                    have hb := bytes_ne d0
                    go_wp2
                    go_quiet (fail)
                    go_wp2
                    go_ret
                    exact ⟨by rw [hne.out]; rfl, below_drewN hbw _⟩
                  subst d0
                  go_wp2
                  go_quiet (fail)
                  go_wp2
                  go_roundg (gk - 1)
                  case measure => omega
                  case rel =>
                    refine ⟨k + 1, by omega, by omega, by go_num, below_drewN hbl _, fun j hj => ?_⟩
                    by_cases hjk : j < k
                    · exact hA4.out j hjk
                    · obtain rfl : j = k := by omega
                      rw [hxH.out, hyH.out]
                · obtain rfl : k = a.files.length := by omega
                  have hF4 := Lib.hid (show a.files = b.files from List.ext_getElem? fun j => by
                    by_cases hj : j < a.files.length
                    · exact hA4.out j hj
                    · have := L4.out
                      rw [List.getElem?_eq_none (by omega), List.getElem?_eq_none (by omega)])
                  clear hA4 hlt hgk hk
                  go_wp2
                  clear e0 e1 e2 e3 e4 f0 f1 f2 f3 f4
                  have hf := Lib.hid (show r = true by rw [hrr.out]; exact dec_yes ⟨hF1.out, hF2.out, hF3.out, hF4.out, hF5.out⟩)
                  go_ret
                  exact ⟨by rw [hf.out]; rfl, hbw⟩
end Go.Ev

