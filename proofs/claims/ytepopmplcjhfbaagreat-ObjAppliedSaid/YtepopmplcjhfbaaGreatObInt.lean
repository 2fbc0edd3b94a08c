import Derived.Test.YtepopmplcjhfbaaGreatObBase
set_option linter.unusedSectionVars false
set_option linter.unusedVariables false
set_option linter.unusedSimpArgs false
/-
  Stage 3: the numbers of a relocation.
-/
namespace Go.Ev
open Go.RowKit Go.Proofs
def wd (k : Int) : Nat := if k = 3 then 1 else if k = 2 then 2 else 4
def okR (v k : Int) : Bool := if k = 2 then decide (-32768 ≤ v) && decide (v ≤ 65535) else if k = 3 then decide (-128 ≤ v) && decide (v ≤ 255) else true
set_option maxRecDepth 100000 in
set_option maxHeartbeats 1000000 in
theorem within_calls (n a b : Int) (w : World) : Calls Tryz.prog 221 #[.int .i64 n, .int .i64 a, .int .i64 b] w fun e w' => e = .returned (.bool (decide (a ≤ n) && decide (n ≤ b))) ∧ w' = w := by
  go_enter Tryz.func221, Tryz.ntmps221
  go_wp2 <;> (go_ret; refine ⟨?_, rfl⟩; congr 2; simp; omega)
set_option maxRecDepth 100000 in
set_option maxHeartbeats 1000000 in
theorem size_calls (k : Int) (w : World) : Calls Tryz.prog 145 #[.int .i64 k] w fun e w' => e = .returned (.int .i64 (wd k)) ∧ w' = w := by
  go_enter Tryz.func145, Tryz.ntmps145
  go_wp2 <;> (go_ret; refine ⟨?_, rfl⟩; simp at *; simp [wd, *])
set_option maxRecDepth 100000 in
set_option maxHeartbeats 1000000 in
theorem width_calls (k : Int) (w : World) : Calls Tryz.prog 52 #[.int .i64 k] w fun e w' => e = .returned (.int .i64 (wd k)) ∧ w' = w := by
  go_enter Tryz.func52, Tryz.ntmps52
  go_wp2 <;> (go_ret; refine ⟨?_, rfl⟩; simp at *; simp [wd, *])
set_option maxRecDepth 100000 in
set_option maxHeartbeats 1000000 in
theorem is32_calls (n : Int) (w : World) : Calls Tryz.prog 147 #[.int .i64 n] w fun e w' => e = .returned (.bool (decide (-2147483648 ≤ n) && decide (n ≤ 2147483647))) ∧ w' = w := by
  go_enter Tryz.func147, Tryz.ntmps147
  go_wp2 <;> (go_ret; refine ⟨?_, rfl⟩; congr 2; simp; omega)
set_option maxRecDepth 100000 in
set_option maxHeartbeats 1000000 in
theorem kind_calls (n : Int) (w : World) : Calls Tryz.prog 140 #[.int .i64 n] w fun e w' => e = .returned (.bool (decide (1 ≤ n) && decide (n ≤ 5))) ∧ w' = w := by
  go_enter Tryz.func140, Tryz.ntmps140
  go_wp2_with fail
  refine (within_calls _ _ _ _).mono ?_
  rintro e w' ⟨rfl, rfl⟩
  go_wp2
  go_ret
  exact ⟨rfl, rfl⟩
set_option maxRecDepth 100000 in
set_option maxHeartbeats 1000000 in
theorem addend_calls (n : Int) (w : World) : Calls Tryz.prog 141 #[.int .i64 n] w fun e w' => e = .returned (.bool (decide (-2147483648 ≤ n) && decide (n ≤ 2147483647))) ∧ w' = w := by
  go_enter Tryz.func141, Tryz.ntmps141
  go_wp2_with fail
  refine (within_calls _ _ _ _).mono ?_
  rintro e w' ⟨rfl, rfl⟩
  go_wp2
  go_ret
  exact ⟨rfl, rfl⟩
set_option maxRecDepth 100000 in
set_option maxHeartbeats 1000000 in
theorem inField_calls (v k : Int) (w : World) : Calls Tryz.prog 143 #[.int .i64 v, .int .i64 k] w fun e w' => e = .returned (.bool (okR v k)) ∧ w' = w := by
  go_enter Tryz.func143, Tryz.ntmps143
  go_wp2_with fail
  all_goals first
    | (refine (within_calls _ _ _ _).mono ?_
       rintro e w' ⟨rfl, rfl⟩
       go_wp2
       go_ret
       refine ⟨?_, rfl⟩
       simp at *
       simp [okR, *])
    | (go_ret
       refine ⟨?_, rfl⟩
       simp at *
       simp [okR, *])
theorem wd_pos (k : Int) : 0 < wd k := by
  unfold wd
  repeat' split
  all_goals omega
theorem wd_le (k : Int) : wd k ≤ 4 := by
  unfold wd
  repeat' split
  all_goals omega
set_option maxRecDepth 100000 in
set_option maxHeartbeats 1000000 in
theorem field_calls (a : Option Addr) (n cap : Nat) (off k : Int) (hn : n ≤ 20000) (w : World) : Calls Tryz.prog 142 #[.slice a n cap, .int .i64 off, .int .i64 k] w fun e w' => e = .returned (.bool (decide (0 ≤ off) && decide (off + wd k ≤ n))) ∧ w' = w := by
  have hw := wd_le k
  go_enter Tryz.func142, Tryz.ntmps142
  go_wp2_with fail
  refine (size_calls _ _).mono ?_
  rintro e w' ⟨rfl, rfl⟩
  go_wp2_with fail
  refine (within_calls _ _ _ _).mono ?_
  rintro e w' ⟨rfl, rfl⟩
  go_wp2
  have he : decide (off ≤ (n : Int) - (wd k : Int)) = decide (off + (wd k : Int) ≤ n) := by
    simp only [decide_eq_decide]; omega
  rw [he]
  go_ret
  exact ⟨rfl, rfl⟩
/-- The bytes of a field: so many of a number's lowest bytes. -/
def putB (q : Nat → Int) (off m : Nat) (F : Nat → Int) (j : Nat) : Int := if off ≤ j ∧ j < off + m then F (j - off) else q j
theorem OwnB.cell {w : World} {g n cap : Nat} {q : Nat → Int} (h : OwnB w g n cap q) {j : Nat} (hj : j < n) : w.cell? ⟨g, j, none⟩ = some (.int .u8 (q j)) := by
  obtain ⟨cur, h, _, _, _, hc⟩ := h
  simp [World.cell?, h, hc j hj]
theorem OwnB.frozen {w : World} {g n cap : Nat} {q : Nat → Int} (h : OwnB w g n cap q) (j : Nat) : w.frozen? ⟨g, j, none⟩ = false := by
  obtain ⟨cur, h, _⟩ := h
  simp [World.frozen?, h]
theorem OwnB.congr {w : World} {g n cap : Nat} {q q' : Nat → Int} (h : OwnB w g n cap q) (e : ∀ j, j < n → q j = q' j) : OwnB w g n cap q' := by
  obtain ⟨cur, h, h1, h2, h3, hc⟩ := h
  exact ⟨cur, h, h1, h2, h3, fun j hj => e j hj ▸ hc j hj⟩
def setQ (q : Nat → Int) (i : Nat) (u : Int) (j : Nat) : Int := if j = i then u else q j
theorem OwnB.set {w : World} {g n cap : Nat} {q : Nat → Int} (h : OwnB w g n cap q) (i : Nat) (u : Int) : OwnB (w.setCell ⟨g, i, none⟩ (.int .u8 u)) g n cap (setQ q i u) ∧ Below g w (w.setCell ⟨g, i, none⟩ (.int .u8 u)) := by
  obtain ⟨cur, hg, h1, h2, h3, hc⟩ := h
  refine ⟨⟨cur.setIfInBounds i (.int .u8 u), heap_setCell_same w g i cur 5 _ hg, h1, h2, by simpa using h3, fun j hj => ?_⟩, ⟨rfl, rfl, rfl, by simp, fun k hk => heap_setCell_other w ⟨g, i, none⟩ k _ (by show k ≠ g; omega)⟩⟩
  unfold setQ
  by_cases e : j = i
  · subst e
    have : j < cur.size := by omega
    simp [this]
  · have e' : ¬ i = j := fun x => e x.symm
    simp [e, e', hc j hj]
def PutR (q : Nat → Int) (g n cap off m : Nat) (F : Nat → Int) (w : World) (e : Ending) (w' : World) : Prop := (∃ r, e = .returned r) ∧ OwnB w' g n cap (putB q off m F) ∧ Below g w w'
def byteN (v : Int) : Nat → Int
  | 0 => v % 256
  | 1 => v / 256 % 256
  | 2 => v / 65536 % 256
  | _ => v / 16777216 % 256
theorem putB1 (q : Nat → Int) (off : Nat) (F : Nat → Int) (j : Nat) : setQ q off (F 0) j = putB q off 1 F j := by
  unfold setQ putB
  by_cases e : j = off
  · subst e; simp
  · rw [if_neg e, if_neg (by omega)]
theorem putB_succ (q : Nat → Int) (off m : Nat) (F : Nat → Int) (j : Nat) : setQ (putB q off m F) (off + m) (F m) j = putB q off (m + 1) F j := by
  unfold setQ putB
  by_cases e : j = off + m
  · subst e
    rw [if_pos rfl, if_pos (by omega)]
    congr 1; omega
  · rw [if_neg e]
    by_cases h : off ≤ j ∧ j < off + m
    · rw [if_pos h, if_pos (by omega)]
    · rw [if_neg h, if_neg (by omega)]
theorem putB_add (q : Nat → Int) (off : Nat) (F : Nat → Int) : putB q off 0 F = q := by
  funext j
  unfold putB
  rw [if_neg (by omega)]
theorem OwnB.put {w : World} {g n cap off m : Nat} {q F : Nat → Int} {u : Int} (h : OwnB w g n cap (putB q off m F)) (hu : F m = u) : OwnB (w.setCell ⟨g, off + m, none⟩ (.int .u8 u)) g n cap (putB q off (m + 1) F) ∧ Below g w (w.setCell ⟨g, off + m, none⟩ (.int .u8 u)) := by
  subst hu
  obtain ⟨h1, h2⟩ := h.set (off + m) (F m)
  exact ⟨h1.congr fun j _ => putB_succ q off m F j, h2⟩
set_option maxRecDepth 100000 in
set_option maxHeartbeats 1000000 in
theorem put1 {w : World} {g n cap off c : Nat} {q : Nat → Int} {v : Int} (h : OwnB w g n cap q) (ho : off + 1 ≤ n) :
    Calls Tryz.prog 146 #[.slice (some ⟨g, off, none⟩) 1 c, .int .i64 v] w (PutR q g n cap off 1 (byteN v) w) := by
  have hc0 := h.cell (j := off) (by omega)
  have hf0 := h.frozen off
  rw [← putB_add q off (byteN v)] at h
  obtain ⟨h1, hb1⟩ := h.put (u := v % 256) rfl
  go_enter Tryz.func146, Tryz.ntmps146
  go_wp2
  refine wp_loop_rounds 2 ?_
  rw [rounds_succ]
  go_wp2
  rw [rounds_succ]
  go_wp2
  refine bodyPost_ret (results_none rfl _ _ _) rfl ?_
  exact ⟨⟨_, rfl⟩, h1, hb1⟩
set_option maxRecDepth 100000 in
set_option maxHeartbeats 1000000 in
theorem put2 {w : World} {g n cap off c : Nat} {q : Nat → Int} {v : Int} (h : OwnB w g n cap q) (ho : off + 2 ≤ n) :
    Calls Tryz.prog 146 #[.slice (some ⟨g, off, none⟩) 2 c, .int .i64 v] w (PutR q g n cap off 2 (byteN v) w) := by
  have hc0 := h.cell (j := off) (by omega)
  have hf0 := h.frozen off
  rw [← putB_add q off (byteN v)] at h
  obtain ⟨h1, hb1⟩ := h.put (u := v % 256) rfl
  go_enter Tryz.func146, Tryz.ntmps146
  go_wp2
  refine wp_loop_rounds 3 ?_
  rw [rounds_succ]
  go_wp2
  simp only [Nat.add_zero] at h1 hb1
  generalize w.setCell ⟨g, off, none⟩ (.int .u8 (v % 256)) = w1 at *
  have hc1 := h1.cell (j := off + 1) (by omega)
  have hf1 := h1.frozen (off + 1)
  clear hc0 hf0 h
  obtain ⟨h2, hz2⟩ := h1.put (m := 1) (u := v / 256 % 256) rfl
  have hb2 := hb1.trans hz2
  clear hz2 hb1
  rw [rounds_succ]
  go_wp2
  rw [rounds_succ]
  go_wp2
  refine bodyPost_ret (results_none rfl _ _ _) rfl ?_
  exact ⟨⟨_, rfl⟩, h2, hb2⟩
set_option maxRecDepth 100000 in
set_option maxHeartbeats 1000000 in
theorem put4 {w : World} {g n cap off c : Nat} {q : Nat → Int} {v : Int} (h : OwnB w g n cap q) (ho : off + 4 ≤ n) :
    Calls Tryz.prog 146 #[.slice (some ⟨g, off, none⟩) 4 c, .int .i64 v] w (PutR q g n cap off 4 (byteN v) w) := by
  have hc0 := h.cell (j := off) (by omega)
  have hf0 := h.frozen off
  rw [← putB_add q off (byteN v)] at h
  obtain ⟨h1, hb1⟩ := h.put (u := v % 256) rfl
  go_enter Tryz.func146, Tryz.ntmps146
  go_wp2
  refine wp_loop_rounds 5 ?_
  rw [rounds_succ]
  go_wp2
  simp only [Nat.add_zero] at h1 hb1
  generalize w.setCell ⟨g, off, none⟩ (.int .u8 (v % 256)) = w1 at *
  have hc1 := h1.cell (j := off + 1) (by omega)
  have hf1 := h1.frozen (off + 1)
  clear hc0 hf0 h
  obtain ⟨h2, hz2⟩ := h1.put (m := 1) (u := v / 256 % 256) rfl
  have hb2 := hb1.trans hz2
  clear hz2 hb1
  rw [rounds_succ]
  go_wp2
  generalize w1.setCell ⟨g, off + 1, none⟩ (.int .u8 (v / 256 % 256)) = w2 at *
  have hc2 := h2.cell (j := off + 2) (by omega)
  have hf2 := h2.frozen (off + 2)
  clear hc1 hf1 h1
  obtain ⟨h3, hz3⟩ := h2.put (m := 2) (u := v / 65536 % 256) rfl
  have hb3 := hb2.trans hz3
  clear hz3 hb2
  rw [rounds_succ]
  go_wp2
  generalize w2.setCell ⟨g, off + 2, none⟩ (.int .u8 (v / 65536 % 256)) = w3 at *
  have hc3 := h3.cell (j := off + 3) (by omega)
  have hf3 := h3.frozen (off + 3)
  clear hc2 hf2 h2
  obtain ⟨h4, hz4⟩ := h3.put (m := 3) (u := v / 16777216 % 256) rfl
  have hb4 := hb3.trans hz4
  clear hz4 hb3
  rw [rounds_succ]
  go_wp2
  rw [rounds_succ]
  go_wp2
  refine bodyPost_ret (results_none rfl _ _ _) rfl ?_
  exact ⟨⟨_, rfl⟩, h4, hb4⟩
end Go.Ev
