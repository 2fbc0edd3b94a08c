import Derived.Test.YtepopmplcjhfbaaGreatObBase
import Derived.Test.YtepopmplcjhfbaaGreatObHk6
import Derived.Lib.QuietBelow
set_option linter.unusedSectionVars false
set_option linter.unusedVariables false
set_option linter.unusedSimpArgs false
set_option linter.unnecessarySimpa false
/-
  Stage 3: the numbers of a relocation.
-/
namespace Go.Ev
open Go.RowKit Go.Proofs
def wd (k : Int) : Nat := if k = 3 then 1 else if k = 2 then 2 else 4
def okR (v k : Int) : Bool := if k = 2 then decide (-32768 ≤ v) && decide (v ≤ 65535) else if k = 3 then decide (-128 ≤ v) && decide (v ≤ 255) else true
set_option maxRecDepth 100000 in
set_option maxHeartbeats 1000000 in
theorem within_calls (n a b : Int) (w : World) : Calls Tryz.prog 221 #[.int .i64 n, .int .i64 a, .int .i64 b] w fun e w' => e = .returned (.bool (decide (a ≤ n) && decide (n ≤ b))) ∧ w' = w := by
  go_enter Tryz.func221, Tryz.ntmps221
  go_wp2 <;> (go_ret; refine ⟨?_, rfl⟩; congr 2; simp; omega)
set_option maxRecDepth 100000 in
set_option maxHeartbeats 1000000 in
theorem size_calls (k : Int) (w : World) : Calls Tryz.prog 145 #[.int .i64 k] w fun e w' => e = .returned (.int .i64 (wd k)) ∧ w' = w := by
  go_enter Tryz.func145, Tryz.ntmps145
  go_wp2 <;> (go_ret; refine ⟨?_, rfl⟩; simp at *; simp [wd, *])
set_option maxRecDepth 100000 in
set_option maxHeartbeats 1000000 in
theorem width_calls (k : Int) (w : World) : Calls Tryz.prog 52 #[.int .i64 k] w fun e w' => e = .returned (.int .i64 (wd k)) ∧ w' = w := by
  go_enter Tryz.func52, Tryz.ntmps52
  go_wp2 <;> (go_ret; refine ⟨?_, rfl⟩; simp at *; simp [wd, *])
set_option maxRecDepth 100000 in
set_option maxHeartbeats 1000000 in
theorem is32_calls (n : Int) (w : World) : Calls Tryz.prog 147 #[.int .i64 n] w fun e w' => e = .returned (.bool (decide (-2147483648 ≤ n) && decide (n ≤ 2147483647))) ∧ w' = w := by
  go_enter Tryz.func147, Tryz.ntmps147
  go_wp2 <;> (go_ret; refine ⟨?_, rfl⟩; congr 2; simp; omega)
set_option maxRecDepth 100000 in
set_option maxHeartbeats 1000000 in
theorem kind_calls (n : Int) (w : World) : Calls Tryz.prog 140 #[.int .i64 n] w fun e w' => e = .returned (.bool (decide (1 ≤ n) && decide (n ≤ 5))) ∧ w' = w := by
  go_enter Tryz.func140, Tryz.ntmps140
  go_wp2_with fail
  refine (within_calls _ _ _ _).mono ?_
  rintro e w' ⟨rfl, rfl⟩
  go_wp2
  go_ret
  exact ⟨rfl, rfl⟩
set_option maxRecDepth 100000 in
set_option maxHeartbeats 1000000 in
theorem addend_calls (n : Int) (w : World) : Calls Tryz.prog 141 #[.int .i64 n] w fun e w' => e = .returned (.bool (decide (-2147483648 ≤ n) && decide (n ≤ 2147483647))) ∧ w' = w := by
  go_enter Tryz.func141, Tryz.ntmps141
  go_wp2_with fail
  refine (within_calls _ _ _ _).mono ?_
  rintro e w' ⟨rfl, rfl⟩
  go_wp2
  go_ret
  exact ⟨rfl, rfl⟩
set_option maxRecDepth 100000 in
set_option maxHeartbeats 1000000 in
theorem inField_calls (v k : Int) (w : World) : Calls Tryz.prog 143 #[.int .i64 v, .int .i64 k] w fun e w' => e = .returned (.bool (okR v k)) ∧ w' = w := by
  go_enter Tryz.func143, Tryz.ntmps143
  go_wp2_with fail
  all_goals first
    | (refine (within_calls _ _ _ _).mono ?_
       rintro e w' ⟨rfl, rfl⟩
       go_wp2
       go_ret
       refine ⟨?_, rfl⟩
       simp at *
       simp [okR, *])
    | (go_ret
       refine ⟨?_, rfl⟩
       simp at *
       simp [okR, *])
theorem wd_pos (k : Int) : 0 < wd k := by
  unfold wd
  repeat' split
  all_goals omega
theorem wd_le (k : Int) : wd k ≤ 4 := by
  unfold wd
  repeat' split
  all_goals omega
set_option maxRecDepth 100000 in
set_option maxHeartbeats 1000000 in
theorem field_calls (a : Option Addr) (n cap : Nat) (off k : Int) (hn : n ≤ 20000) (w : World) : Calls Tryz.prog 142 #[.slice a n cap, .int .i64 off, .int .i64 k] w fun e w' => e = .returned (.bool (decide (0 ≤ off) && decide (off + wd k ≤ n))) ∧ w' = w := by
  have hw := wd_le k
  go_enter Tryz.func142, Tryz.ntmps142
  go_wp2_with fail
  refine (size_calls _ _).mono ?_
  rintro e w' ⟨rfl, rfl⟩
  go_wp2_with fail
  refine (within_calls _ _ _ _).mono ?_
  rintro e w' ⟨rfl, rfl⟩
  go_wp2
  have he : decide (off ≤ (n : Int) - (wd k : Int)) = decide (off + (wd k : Int) ≤ n) := by
    simp only [decide_eq_decide]; omega
  rw [he]
  go_ret
  exact ⟨rfl, rfl⟩
/-- The bytes of a field: so many of a number's lowest bytes. -/
def putB (q : Nat → Int) (off m : Nat) (F : Nat → Int) (j : Nat) : Int := if off ≤ j ∧ j < off + m then F (j - off) else q j
theorem OwnB.cell {w : World} {g n cap : Nat} {q : Nat → Int} (h : OwnB w g n cap q) {j : Nat} (hj : j < n) : w.cell? ⟨g, j, none⟩ = some (.int .u8 (q j)) := by
  obtain ⟨cur, h, _, _, _, hc⟩ := h
  simp [World.cell?, h, hc j hj]
theorem OwnB.frozen {w : World} {g n cap : Nat} {q : Nat → Int} (h : OwnB w g n cap q) (j : Nat) : w.frozen? ⟨g, j, none⟩ = false := by
  obtain ⟨cur, h, _⟩ := h
  simp [World.frozen?, h]
theorem OwnB.congr {w : World} {g n cap : Nat} {q q' : Nat → Int} (h : OwnB w g n cap q) (e : ∀ j, j < n → q j = q' j) : OwnB w g n cap q' := by
  obtain ⟨cur, h, h1, h2, h3, hc⟩ := h
  exact ⟨cur, h, h1, h2, h3, fun j hj => e j hj ▸ hc j hj⟩
def setQ (q : Nat → Int) (i : Nat) (u : Int) (j : Nat) : Int := if j = i then u else q j
theorem OwnB.set {w : World} {g n cap : Nat} {q : Nat → Int} (h : OwnB w g n cap q) (i : Nat) (u : Int) : OwnB (w.setCell ⟨g, i, none⟩ (.int .u8 u)) g n cap (setQ q i u) ∧ Below g w (w.setCell ⟨g, i, none⟩ (.int .u8 u)) := by
  obtain ⟨cur, hg, h1, h2, h3, hc⟩ := h
  refine ⟨⟨cur.setIfInBounds i (.int .u8 u), heap_setCell_same w g i cur 5 _ hg, h1, h2, by simpa using h3, fun j hj => ?_⟩, ⟨rfl, rfl, rfl, by simp, fun k hk => heap_setCell_other w ⟨g, i, none⟩ k _ (by show k ≠ g; omega)⟩⟩
  unfold setQ
  by_cases e : j = i
  · subst e
    have : j < cur.size := by omega
    simp [this]
  · have e' : ¬ i = j := fun x => e x.symm
    simp [e, e', hc j hj]
def PutR (q : Nat → Int) (g n cap off m : Nat) (F : Nat → Int) (w : World) (e : Ending) (w' : World) : Prop := (∃ r, e = .returned r) ∧ OwnB w' g n cap (putB q off m F) ∧ Below g w w'
def byteN (v : Int) : Nat → Int
  | 0 => v % 256
  | 1 => v / 256 % 256
  | 2 => v / 65536 % 256
  | _ => v / 16777216 % 256
theorem putB1 (q : Nat → Int) (off : Nat) (F : Nat → Int) (j : Nat) : setQ q off (F 0) j = putB q off 1 F j := by
  unfold setQ putB
  by_cases e : j = off
  · subst e; simp
  · rw [if_neg e, if_neg (by omega)]
theorem putB_succ (q : Nat → Int) (off m : Nat) (F : Nat → Int) (j : Nat) : setQ (putB q off m F) (off + m) (F m) j = putB q off (m + 1) F j := by
  unfold setQ putB
  by_cases e : j = off + m
  · subst e
    rw [if_pos rfl, if_pos (by omega)]
    congr 1; omega
  · rw [if_neg e]
    by_cases h : off ≤ j ∧ j < off + m
    · rw [if_pos h, if_pos (by omega)]
    · rw [if_neg h, if_neg (by omega)]
theorem putB_add (q : Nat → Int) (off : Nat) (F : Nat → Int) : putB q off 0 F = q := by
  funext j
  unfold putB
  rw [if_neg (by omega)]
theorem OwnB.put {w : World} {g n cap off m : Nat} {q F : Nat → Int} {u : Int} (h : OwnB w g n cap (putB q off m F)) (hu : F m = u) : OwnB (w.setCell ⟨g, off + m, none⟩ (.int .u8 u)) g n cap (putB q off (m + 1) F) ∧ Below g w (w.setCell ⟨g, off + m, none⟩ (.int .u8 u)) := by
  subst hu
  obtain ⟨h1, h2⟩ := h.set (off + m) (F m)
  exact ⟨h1.congr fun j _ => putB_succ q off m F j, h2⟩
set_option maxRecDepth 100000 in
set_option maxHeartbeats 1000000 in
theorem put1 {w : World} {g n cap off c : Nat} {q : Nat → Int} {v : Int} (h : OwnB w g n cap q) (ho : off + 1 ≤ n) :
    Calls Tryz.prog 146 #[.slice (some ⟨g, off, none⟩) 1 c, .int .i64 v] w (PutR q g n cap off 1 (byteN v) w) := by
  have hc0 := h.cell (j := off) (by omega)
  have hf0 := h.frozen off
  rw [← putB_add q off (byteN v)] at h
  obtain ⟨h1, hb1⟩ := h.put (u := v % 256) rfl
  go_enter Tryz.func146, Tryz.ntmps146
  go_wp2
  refine wp_loop_rounds 2 ?_
  rw [rounds_succ]
  go_wp2
  rw [rounds_succ]
  go_wp2
  refine bodyPost_ret (results_none rfl _ _ _) rfl ?_
  exact ⟨⟨_, rfl⟩, h1, hb1⟩
set_option maxRecDepth 100000 in
set_option maxHeartbeats 1000000 in
theorem put2 {w : World} {g n cap off c : Nat} {q : Nat → Int} {v : Int} (h : OwnB w g n cap q) (ho : off + 2 ≤ n) :
    Calls Tryz.prog 146 #[.slice (some ⟨g, off, none⟩) 2 c, .int .i64 v] w (PutR q g n cap off 2 (byteN v) w) := by
  have hc0 := h.cell (j := off) (by omega)
  have hf0 := h.frozen off
  rw [← putB_add q off (byteN v)] at h
  obtain ⟨h1, hb1⟩ := h.put (u := v % 256) rfl
  go_enter Tryz.func146, Tryz.ntmps146
  go_wp2
  refine wp_loop_rounds 3 ?_
  rw [rounds_succ]
  go_wp2
  simp only [Nat.add_zero] at h1 hb1
  generalize w.setCell ⟨g, off, none⟩ (.int .u8 (v % 256)) = w1 at *
  have hc1 := h1.cell (j := off + 1) (by omega)
  have hf1 := h1.frozen (off + 1)
  clear hc0 hf0 h
  obtain ⟨h2, hz2⟩ := h1.put (m := 1) (u := v / 256 % 256) rfl
  have hb2 := hb1.trans hz2
  clear hz2 hb1
  rw [rounds_succ]
  go_wp2
  rw [rounds_succ]
  go_wp2
  refine bodyPost_ret (results_none rfl _ _ _) rfl ?_
  exact ⟨⟨_, rfl⟩, h2, hb2⟩
set_option maxRecDepth 100000 in
set_option maxHeartbeats 1000000 in
theorem put4 {w : World} {g n cap off c : Nat} {q : Nat → Int} {v : Int} (h : OwnB w g n cap q) (ho : off + 4 ≤ n) :
    Calls Tryz.prog 146 #[.slice (some ⟨g, off, none⟩) 4 c, .int .i64 v] w (PutR q g n cap off 4 (byteN v) w) := by
  have hc0 := h.cell (j := off) (by omega)
  have hf0 := h.frozen off
  rw [← putB_add q off (byteN v)] at h
  obtain ⟨h1, hb1⟩ := h.put (u := v % 256) rfl
  go_enter Tryz.func146, Tryz.ntmps146
  go_wp2
  refine wp_loop_rounds 5 ?_
  rw [rounds_succ]
  go_wp2
  simp only [Nat.add_zero] at h1 hb1
  generalize w.setCell ⟨g, off, none⟩ (.int .u8 (v % 256)) = w1 at *
  have hc1 := h1.cell (j := off + 1) (by omega)
  have hf1 := h1.frozen (off + 1)
  clear hc0 hf0 h
  obtain ⟨h2, hz2⟩ := h1.put (m := 1) (u := v / 256 % 256) rfl
  have hb2 := hb1.trans hz2
  clear hz2 hb1
  rw [rounds_succ]
  go_wp2
  generalize w1.setCell ⟨g, off + 1, none⟩ (.int .u8 (v / 256 % 256)) = w2 at *
  have hc2 := h2.cell (j := off + 2) (by omega)
  have hf2 := h2.frozen (off + 2)
  clear hc1 hf1 h1
  obtain ⟨h3, hz3⟩ := h2.put (m := 2) (u := v / 65536 % 256) rfl
  have hb3 := hb2.trans hz3
  clear hz3 hb2
  rw [rounds_succ]
  go_wp2
  generalize w2.setCell ⟨g, off + 2, none⟩ (.int .u8 (v / 65536 % 256)) = w3 at *
  have hc3 := h3.cell (j := off + 3) (by omega)
  have hf3 := h3.frozen (off + 3)
  clear hc2 hf2 h2
  obtain ⟨h4, hz4⟩ := h3.put (m := 3) (u := v / 16777216 % 256) rfl
  have hb4 := hb3.trans hz4
  clear hz4 hb3
  rw [rounds_succ]
  go_wp2
  rw [rounds_succ]
  go_wp2
  refine bodyPost_ret (results_none rfl _ _ _) rfl ?_
  exact ⟨⟨_, rfl⟩, h4, hb4⟩
end Go.Ev

/-
  Stage 3: a relocation, in the program, exactly.
-/
namespace Go.Ev
open Go.RowKit Go.Proofs Go.Rw
def RelOk (o : ObjT) (x : RelT) : Prop :=
  (0 ≤ x.sec ∧ x.sec < (o.secs.length : Int)) ∧ (0 ≤ x.sym ∧ x.sym < (o.syms.length : Int)) ∧ (1 ≤ x.kind ∧ x.kind ≤ 5) ∧ (-2147483648 ≤ x.add ∧ x.add ≤ 2147483647) ∧
  ∃ y, o.secs[x.sec.toNat]? = some y ∧ 0 ≤ x.off ∧ x.off ≤ (y.bn : Int) - widthV x.kind
theorem isIndexS_c {w : World} (i : Int) (a : Option Addr) (n c : Nat) {r : Bool} (h : r = decide (0 ≤ i ∧ i < (n : Int))) : Calls Tryz.prog 225 #[.int .i64 i, .slice a n c] w (BelR r w) := by
  by_cases h0 : 0 ≤ i
  · by_cases h1 : i < (n : Int)
    · rw [decide_eq_true ⟨h0, h1⟩] at h
      subst h
      go_enter Tryz.func225, Tryz.ntmps225
      go_wp2
      go_ret
      exact ⟨rfl, Below.refl _ _⟩
    · rw [decide_eq_false (fun h => h1 h.2)] at h
      subst h
      go_enter Tryz.func225, Tryz.ntmps225
      go_wp2
      go_ret
      exact ⟨rfl, Below.refl _ _⟩
  · rw [decide_eq_false (fun h => h0 h.1)] at h
    subst h
    go_enter Tryz.func225, Tryz.ntmps225
    go_wp2
    go_ret
    exact ⟨rfl, Below.refl _ _⟩
theorem isIndexX_c {w : World} (i : Int) (a : Option Addr) (n c : Nat) {r : Bool} (h : r = decide (0 ≤ i ∧ i < (n : Int))) : Calls Tryz.prog 107 #[.int .i64 i, .slice a n c] w (BelR r w) := by
  by_cases h0 : 0 ≤ i ∧ i < (n : Int)
  · rw [decide_eq_true h0] at h
    subst h
    exact (isIndex_c i a n c h0.1 h0.2).mono fun e w' hh => ⟨hh.1, by rw [hh.2]; exact Below.refl _ _⟩
  · rw [decide_eq_false h0] at h
    subst h
    exact (isIndex_no i a n c (by omega)).mono fun e w' hh => ⟨hh.1, by rw [hh.2]; exact Below.refl _ _⟩
theorem kind_x {w : World} (z : Int) {r : Bool} (h : r = decide (1 ≤ z ∧ z ≤ 5)) : Calls Tryz.prog 140 #[.int .i64 z] w (BelR r w) := by
  have hW := within_b (w := w) (n := z) (a := 1) (b := 5) (r := r) (by
    by_cases c : 1 ≤ z ∧ z ≤ 5
    · exact .inl ⟨by rw [h]; exact decide_eq_true c, c⟩
    · exact .inr ⟨by rw [h]; exact decide_eq_false c, by omega⟩)
  clear h
  go_enter Tryz.func140, Tryz.ntmps140
  go_wp2_with (go_at_call 221; refine hW.mono ?_; rintro e w1 ⟨rfl, hb⟩)
  go_ret
  exact ⟨rfl, hb⟩
theorem addend_x {w : World} (z : Int) {r : Bool} (h : r = decide (-2147483648 ≤ z ∧ z ≤ 2147483647)) : Calls Tryz.prog 141 #[.int .i64 z] w (BelR r w) := by
  have hW := within_b (w := w) (n := z) (a := -2147483648) (b := 2147483647) (r := r) (by
    by_cases c : -2147483648 ≤ z ∧ z ≤ 2147483647
    · exact .inl ⟨by rw [h]; exact decide_eq_true c, c⟩
    · exact .inr ⟨by rw [h]; exact decide_eq_false c, by omega⟩)
  clear h
  go_enter Tryz.func141, Tryz.ntmps141
  go_wp2_with (go_at_call 221; refine hW.mono ?_; rintro e w1 ⟨rfl, hb⟩)
  go_ret
  exact ⟨rfl, hb⟩
theorem size_x {w : World} (z : Int) : Calls Tryz.prog 145 #[.int .i64 z] w fun e w' => e = .returned (.int .i64 (widthV z)) ∧ w' = w := by
  unfold widthV
  by_cases c3 : z = 3
  · subst c3
    go_enter Tryz.func145, Tryz.ntmps145
    go_wp2
    go_ret
    exact ⟨rfl, rfl⟩
  · have k3 : (z == 3) = false := beq_eq_false_iff_ne.2 c3
    rw [if_neg c3]
    by_cases c2 : z = 2
    · subst c2
      go_enter Tryz.func145, Tryz.ntmps145
      go_wp2
      go_ret
      exact ⟨rfl, rfl⟩
    · have k2 : (z == 2) = false := beq_eq_false_iff_ne.2 c2
      rw [if_neg c2]
      go_enter Tryz.func145, Tryz.ntmps145
      go_wp2
      go_ret
      exact ⟨rfl, rfl⟩
theorem width_in (z : Int) : 1 ≤ widthV z ∧ widthV z ≤ 4 := by
  unfold widthV
  split
  · omega
  · split <;> omega
theorem field_x {w : World} (a : Option Addr) (n c : Nat) (off kind : Int) {r : Bool} (hn : n ≤ 140737488351232) (h : r = decide (0 ≤ off ∧ off ≤ (n : Int) - widthV kind)) : Calls Tryz.prog 142 #[.slice a n c, .int .i64 off, .int .i64 kind] w (BelR r w) := by
  have hS := fun W => size_x (w := W) kind
  have hwd := width_in kind
  have hW := fun W => within_b (w := W) (n := off) (a := 0) (b := (n : Int) - widthV kind) (r := r) (by
    by_cases c : 0 ≤ off ∧ off ≤ (n : Int) - widthV kind
    · exact .inl ⟨by rw [h]; exact decide_eq_true c, c⟩
    · exact .inr ⟨by rw [h]; exact decide_eq_false c, by omega⟩)
  clear h
  generalize widthV kind = z at hS hwd hW
  obtain ⟨T, hT⟩ : ∃ T : Int, T = (n : Int) - z := ⟨_, rfl⟩
  have hT1 : (n : Int) - z = T := hT.symm
  rw [← hT] at hW
  have hT2 : -4 ≤ T ∧ T ≤ 140737488351232 := by omega
  clear hT
  go_enter Tryz.func142, Tryz.ntmps142
  go_wp2_with (first | (go_at_call 145; refine (hS _).mono ?_; rintro e w1 ⟨rfl, rfl⟩) | (go_at_call 221; refine (hW _).mono ?_; rintro e w1 ⟨rfl, hb⟩))
  go_ret
  exact ⟨rfl, hb⟩
end Go.Ev

/-
  Stage 3: a relocation, in the program: isReloc.
-/
namespace Go.Ev
open Go.RowKit Go.Proofs Go.Rw
set_option maxRecDepth 100000 in
set_option maxHeartbeats 8000000 in
/-- The program's isReloc. -/
theorem prel_c {w : World} {v : Value} {o : ObjT} (h : ObjAt w v o) (hR : o.R) (x : RelT) (hx : x.R) :
    Calls Tryz.prog 161 #[v, .agg #[.int .i64 x.sec, .int .i64 x.off, .int .i64 x.kind, .int .i64 x.sym, .int .i64 x.add]] w (BelR (dec (RelOk o x)) w) := by
  obtain ⟨s1, s2, s3, s4, s5, rfl, k1, k2, k3, k4, k5⟩ := h
  obtain ⟨sa, sc, rfl⟩ := rows_slice k1
  obtain ⟨ya, yc, rfl⟩ := rows_slice k2
  obtain ⟨r, hr0⟩ : ∃ r, r = dec (RelOk o x) := ⟨_, rfl⟩
  rw [← hr0]
  have hrr := Lib.hid hr0
  clear hr0 k2 k3 k4 k5
  obtain ⟨xs, xo, xk, xy, xa⟩ := x
  obtain ⟨r1, r2, r3, r4, r5⟩ := hx
  dsimp only at *
  unfold inI64 at *
  have hbW : Below w.heap.size w ((w.alloc (.cells #[.slice sa o.secs.length sc, .slice ya o.syms.length yc, s3, s4, s5] 28)).alloc (.cells #[.int .i64 xs, .int .i64 xo, .int .i64 xk, .int .i64 xy, .int .i64 xa] 94)) := ((Below.refl w.heap.size w).alloc (Nat.le_refl _) _).alloc (by simp) _
  have nA := fun (i : Nat) (u : Value) (h : (#[.slice sa o.secs.length sc, .slice ya o.syms.length yc, s3, s4, s5] : Array Value)[i]? = some u) => (show ((w.alloc (.cells #[.slice sa o.secs.length sc, .slice ya o.syms.length yc, s3, s4, s5] 28)).alloc (.cells #[.int .i64 xs, .int .i64 xo, .int .i64 xk, .int .i64 xy, .int .i64 xa] 94)).cell? ⟨w.heap.size, i, none⟩ = some u from by
    have := new_cell w #[.slice sa o.secs.length sc, .slice ya o.syms.length yc, s3, s4, s5] 28 i u h
    exact (World.cell?_alloc_lt _ _ _ (low_of_cell this)).trans this)
  have nB := fun (i : Nat) (u : Value) (h : (#[.int .i64 xs, .int .i64 xo, .int .i64 xk, .int .i64 xy, .int .i64 xa] : Array Value)[i]? = some u) => (show ((w.alloc (.cells #[.slice sa o.secs.length sc, .slice ya o.syms.length yc, s3, s4, s5] 28)).alloc (.cells #[.int .i64 xs, .int .i64 xo, .int .i64 xk, .int .i64 xy, .int .i64 xa] 94)).cell? ⟨w.heap.size + 1, i, none⟩ = some u from by
    have := new_cell (w.alloc (.cells #[.slice sa o.secs.length sc, .slice ya o.syms.length yc, s3, s4, s5] 28)) #[.int .i64 xs, .int .i64 xo, .int .i64 xk, .int .i64 xy, .int .i64 xa] 94 i u h
    rw [World.size_alloc] at this
    exact this)
  have a0 := nA 0 _ rfl
  have a1 := nA 1 _ rfl
  have b0 := nB 0 _ rfl
  have b1 := nB 1 _ rfl
  have b2 := nB 2 _ rfl
  have b3 := nB 3 _ rfl
  have b4 := nB 4 _ rfl
  have kW := k1.below hbW
  clear nA nB k1
  go_enter Tryz.func161, Tryz.ntmps161
  go_wp2_with fail
  generalize (w.alloc (.cells #[.slice sa o.secs.length sc, .slice ya o.syms.length yc, s3, s4, s5] 28)).alloc (.cells #[.int .i64 xs, .int .i64 xo, .int .i64 xk, .int .i64 xy, .int .i64 xa] 94) = Wx at *
  have t0 := fun d os => cell_regrown a0 d os
  have t1 := fun d os => cell_regrown a1 d os
  have u0 := fun d os => cell_regrown b0 d os
  have u1 := fun d os => cell_regrown b1 d os
  have u2 := fun d os => cell_regrown b2 d os
  have u3 := fun d os => cell_regrown b3 d os
  have u4 := fun d os => cell_regrown b4 d os
  by_cases c1 : 0 ≤ xs ∧ xs < (o.secs.length : Int)
  · have h1 := fun W => isIndexX_c (w := W) xs sa o.secs.length sc (r := true) (decide_eq_true c1).symm
    by_cases c2 : 0 ≤ xy ∧ xy < (o.syms.length : Int)
    · have h2 := fun W => isIndexS_c (w := W) xy ya o.syms.length yc (r := true) (decide_eq_true c2).symm
      by_cases c3 : 1 ≤ xk ∧ xk ≤ 5
      · have h3 := fun W => kind_x (w := W) xk (r := true) (decide_eq_true c3).symm
        by_cases c4 : -2147483648 ≤ xa ∧ xa ≤ 2147483647
        · have h4 := fun W => addend_x (w := W) xa (r := true) (decide_eq_true c4).symm
          obtain ⟨k, rfl⟩ : ∃ k : Nat, xs = (k : Int) := ⟨xs.toNat, by omega⟩
          have hk : k < o.secs.length := by omega
          obtain ⟨b, of, rfl⟩ := rows_some2 kW hk
          obtain ⟨y, hy⟩ : ∃ y, o.secs[k]? = some y := ⟨o.secs[k], by simp [hk]⟩
          have g3 := (rows_sec kW hy).2.2.2.1
          have v3 := fun d os => cell_regrown g3 d os
          have hyR := hR.1 y (List.mem_of_getElem? hy)
          obtain ⟨q, hq⟩ : ∃ q : Bool, q = decide (0 ≤ xo ∧ xo ≤ (y.bn : Int) - widthV xk) := ⟨_, rfl⟩
          have h5 := fun W => field_x (w := W) y.ba y.bn y.bc xo xk (r := q) hyR.2.2.1 hq
          have hklt : (k : Int) < (o.secs.length : Int) := c1.2
          have hres := Lib.hid (show r = q by
            rw [hrr.out, hq]
            by_cases c5 : 0 ≤ xo ∧ xo ≤ (y.bn : Int) - widthV xk
            · rw [decide_eq_true c5]
              exact dec_yes ⟨c1, c2, c3, c4, y, by dsimp only; rw [Int.toNat_natCast]; exact hy, c5⟩
            · rw [decide_eq_false c5]
              refine dec_no fun h => ?_
              obtain ⟨-, -, -, -, y', hy', h5⟩ := h
              dsimp only at hy' h5
              rw [Int.toNat_natCast, hy] at hy'
              cases hy'
              exact c5 h5)
          clear hq hy hyR hR kW
          obtain ⟨yn, yr, yal, yb, yl, ycc, yz⟩ := y
          dsimp only at h5 g3 v3
          refine wp_region_quiet_below (by kernel_rfl) (by kernel_rfl) ?_
          repeat (go_big_quiet_step (first | exact Calls.regrown_of (h1 _) | exact Calls.regrown_of (h2 _) | exact Calls.regrown_of (h3 _) | exact Calls.regrown_of (h4 _) | exact Calls.regrown_of (h5 _)))
          refine wpQuiet_nil ?_
          intro _ hw'
          obtain ⟨⟨dq, osq⟩, hw''⟩ := hw'
          subst hw''
          have hb2 := bel_then hbW (Nat.le_refl _) (below_regrown Wx dq osq)
          go_wp2
          go_ret
          exact ⟨by rw [hres.out]; rfl, hb2⟩
        · have h4 := fun W => addend_x (w := W) xa (r := false) (decide_eq_false c4).symm
          have hres := Lib.hid (show r = false by rw [hrr.out]; exact dec_no fun h => c4 h.2.2.2.1)
          clear hR kW
          refine wp_region_quiet_below (by kernel_rfl) (by kernel_rfl) ?_
          repeat (go_big_quiet_step (first | exact Calls.regrown_of (h1 _) | exact Calls.regrown_of (h2 _) | exact Calls.regrown_of (h3 _) | exact Calls.regrown_of (h4 _)))
          refine wpQuiet_nil ?_
          intro _ hw'
          obtain ⟨⟨dq, osq⟩, hw''⟩ := hw'
          subst hw''
          have hb2 := bel_then hbW (Nat.le_refl _) (below_regrown Wx dq osq)
          go_wp2
          go_ret
          exact ⟨by rw [hres.out]; rfl, hb2⟩
      · have h3 := fun W => kind_x (w := W) xk (r := false) (decide_eq_false c3).symm
        have hres := Lib.hid (show r = false by rw [hrr.out]; exact dec_no fun h => c3 h.2.2.1)
        clear hR kW
        refine wp_region_quiet_below (by kernel_rfl) (by kernel_rfl) ?_
        repeat (go_big_quiet_step (first | exact Calls.regrown_of (h1 _) | exact Calls.regrown_of (h2 _) | exact Calls.regrown_of (h3 _)))
        refine wpQuiet_nil ?_
        intro _ hw'
        obtain ⟨⟨dq, osq⟩, hw''⟩ := hw'
        subst hw''
        have hb2 := bel_then hbW (Nat.le_refl _) (below_regrown Wx dq osq)
        go_wp2
        go_ret
        exact ⟨by rw [hres.out]; rfl, hb2⟩
    · have h2 := fun W => isIndexS_c (w := W) xy ya o.syms.length yc (r := false) (decide_eq_false c2).symm
      have hres := Lib.hid (show r = false by rw [hrr.out]; exact dec_no fun h => c2 h.2.1)
      clear hR kW
      refine wp_region_quiet_below (by kernel_rfl) (by kernel_rfl) ?_
      repeat (go_big_quiet_step (first | exact Calls.regrown_of (h1 _) | exact Calls.regrown_of (h2 _)))
      refine wpQuiet_nil ?_
      intro _ hw'
      obtain ⟨⟨dq, osq⟩, hw''⟩ := hw'
      subst hw''
      have hb2 := bel_then hbW (Nat.le_refl _) (below_regrown Wx dq osq)
      go_wp2
      go_ret
      exact ⟨by rw [hres.out]; rfl, hb2⟩
  · have h1 := fun W => isIndexX_c (w := W) xs sa o.secs.length sc (r := false) (decide_eq_false c1).symm
    have hres := Lib.hid (show r = false by rw [hrr.out]; exact dec_no fun h => c1 h.1)
    clear hR kW
    refine wp_region_quiet_below (by kernel_rfl) (by kernel_rfl) ?_
    repeat (go_big_quiet_step (first | exact Calls.regrown_of (h1 _)))
    refine wpQuiet_nil ?_
    intro _ hw'
    obtain ⟨⟨dq, osq⟩, hw''⟩ := hw'
    subst hw''
    have hb2 := bel_then hbW (Nat.le_refl _) (below_regrown Wx dq osq)
    go_wp2
    go_ret
    exact ⟨by rw [hres.out]; rfl, hb2⟩
end Go.Ev

