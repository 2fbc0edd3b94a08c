import Derived.Test.YtepopmplcjhfbaaGreatObHk2
import Derived.Test.YtepopmplcjhfbaaGreatObHc1
set_option linter.unusedSectionVars false
set_option linter.unusedVariables false
set_option linter.unusedSimpArgs false
set_option linter.unnecessarySimpa false
/-
  Stage 3: sections and symbols: names that differ, in the program.
-/
namespace Go.Ev
open Go.RowKit Go.Proofs Go.Rw Go.Maps Go.WideMaps
theorem sname_c (x : SecT) (w : World) : Calls Tryz.prog 119 #[.agg #[.string x.name, .int .i64 x.rights, .int .i64 x.align, .slice x.ba x.bn x.bc, .int .i64 x.zero]] w fun e w' => e = .returned (.string x.name) ∧ ∃ o, w' = w.alloc o := by
  go_enter Tryz.func119, Tryz.ntmps119
  go_wp2
  go_ret
  exact ⟨rfl, _, rfl⟩
theorem yname_c (x : SymT) (w : World) : Calls Tryz.prog 114 #[.agg #[.string x.name, .int .i64 x.sec, .int .u32 x.val, .int .i64 x.size, .int .i64 x.bind, .int .i64 x.kind]] w fun e w' => e = .returned (.string x.name) ∧ ∃ o, w' = w.alloc o := by
  go_enter Tryz.func114, Tryz.ntmps114
  go_wp2
  go_ret
  exact ⟨rfl, _, rfl⟩
theorem enters119 : ∀ args w, (callFunc 119 args).run Tryz.prog w = .ok (.enter 119 args) w := enters_of Tryz.func119 (by kernel_rfl) rfl
theorem enters114 : ∀ args w, (callFunc 114 args).run Tryz.prog w = .ok (.enter 114 args) w := enters_of Tryz.func114 (by kernel_rfl) rfl
set_option maxRecDepth 100000 in
set_option maxHeartbeats 1000000 in
theorem indices_sec {w : World} {s : Value} {l : List SecT} (h : RowsAt w s SecT.cells 5 l) (hr : ∀ x ∈ l, x.R) (hl : l.length ≤ 140737488351232) : Calls Tryz.prog 205 #[s, .func (.func 119) #[] #[]] w (IdxR (l.map (·.name)) w) := by
  obtain ⟨a, c, rfl⟩ := rows_slice h
  have hmm := @run_makeMap Tryz.prog
  have e119 := enters119
  go_enter Tryz.func205, Tryz.ntmps205
  go_wp2
  go_loopw [11] (fun i wr => ∃ k : Nat, k ≤ l.length ∧ i = .int .i64 k ∧ MapK wr w.heap.size k (l.map (·.name)) ∧ Below w.heap.size w wr) (fun i _ => l.length - (intOf i).toNat)
  case atStart => exact ⟨0, Nat.zero_le _, rfl, mapK_new _ _, (Below.refl _ _).alloc (Nat.le_refl _) _⟩
  case round =>
    obtain ⟨k, hk, rfl, hM, hbl⟩ := hrel
    by_cases hlt : k < l.length
    · obtain ⟨b, of, rfl⟩ := rows_some2 h hlt
      obtain ⟨x, hx⟩ : ∃ x, l[k]? = some x := ⟨l[k], by simp [hlt]⟩
      obtain ⟨g0, g1, g2, g3, g4⟩ := rows_sec (h.below hbl) hx
      have hkey := key_of x.name (hr x (List.mem_of_getElem? hx)).2.2.2.2
      have hlt' : (k : Int) < (l.length : Int) := by omega
      obtain ⟨D, m0, m1, m2, m3⟩ := hM
      have hx := Lib.hid (show (l.map (·.name))[k]? = some x.name by rw [List.getElem?_map, hx]; rfl)
      have hfc := fun W => sname_c x W
      have hB := hbl.size
      have m1 := Lib.hid m1
      have m2 := Lib.hid m2
      have m3 := Lib.hid m3
      clear hr h
      obtain ⟨xn, xr, xa, xba, xbn, xbc, xz⟩ := x
      dsimp only at hfc hkey hx g0 g1 g2 g3 g4
      go_wp2_with (first
        | (go_at_fn 119; refine (hfc _).mono ?_; rintro e w1 ⟨rfl, o, rfl⟩)
        | (at_mapUpdate; refine wpList_mapUpdate_own _ rfl _ _ _ 147 rfl 9 3 lawK Tryz.underlying147 _ w.heap.size k _ rfl ((m0.alloc _).alloc _) (by unfold maxLen; omega) _ _ _ rfl rfl hkey _ [] (plainElem_int Tryz.underlying3 (wf_i64 (by omega) (by omega))) ?_; intro w1 hown1 hgrow1))
      have R1 := mapK_step m0 m1.out m2.out m3.out hx.out hown1
      have R2 := ((hbl.alloc hB _).alloc (by simp; omega) _).grown hgrow1 (by simp; omega) (fun j hj => by cases hj; exact Nat.le_refl _)
      clear hown1 hgrow1 m0
      go_wp2
      go_roundw
      case rel => exact ⟨k + 1, by omega, by go_num, R1, R2⟩
      case measure => simp [intOf]; omega
    · obtain rfl : k = l.length := by omega
      go_wp2
      go_ret
      exact ⟨rfl, hbl, by rw [List.length_map]; exact hM⟩
set_option maxRecDepth 100000 in
set_option maxHeartbeats 1000000 in
theorem differ_sec {w : World} {s : Value} {l : List SecT} (h : RowsAt w s SecT.cells 5 l) (hr : ∀ x ∈ l, x.R) (hl : l.length ≤ 140737488351232) : Calls Tryz.prog 154 #[s, .func (.func 119) #[] #[]] w fun e w' => e = .returned (.bool (dec (l.map (·.name)).Nodup)) ∧ Below w.heap.size w w' := by
  have hI := indices_sec h hr hl
  obtain ⟨r, hr0⟩ : ∃ r, r = dec (l.map (·.name)).Nodup := ⟨_, rfl⟩
  rw [← hr0]
  have hrr := Lib.hid hr0
  clear hr0
  obtain ⟨a, c, rfl⟩ := rows_slice h
  go_enter Tryz.func154, Tryz.ntmps154
  go_wp2_with fail
  refine hI.mono ?_
  rintro e w1 ⟨rfl, hb1, D, m0, m1, m2, m3⟩
  rw [List.take_length, List.length_map] at m3
  have hlen := m0.len Tryz.underlying147 3
  clear m0 m1 m2
  by_cases hn : (l.map (·.name)).Nodup
  · have hz := m3.2 hn
    have hr2 := Lib.hid (hrr.out.trans (dec_yes hn))
    have hzb : ((size D : Int) == (l.length : Int)) = true := beq_iff_eq.2 (by omega)
    clear m3 hn hz
    go_wp2
    go_ret
    exact ⟨by rw [hr2.out]; rfl, hb1⟩
  · have hz : ¬ size D = l.length := fun e => hn (m3.1 e)
    have hr2 := Lib.hid (hrr.out.trans (dec_no hn))
    have hzb : ((size D : Int) == (l.length : Int)) = false := beq_eq_false_iff_ne.2 (by omega)
    clear m3 hn hz
    go_wp2
    go_ret
    exact ⟨by rw [hr2.out]; rfl, hb1⟩
set_option maxRecDepth 100000 in
set_option maxHeartbeats 1000000 in
theorem indices_sym {w : World} {s : Value} {l : List SymT} (h : RowsAt w s SymT.cells 6 l) (hr : ∀ x ∈ l, x.R) (hl : l.length ≤ 140737488351232) : Calls Tryz.prog 113 #[s, .func (.func 114) #[] #[]] w (IdxR (l.map (·.name)) w) := by
  obtain ⟨a, c, rfl⟩ := rows_slice h
  have hmm := @run_makeMap Tryz.prog
  have e114 := enters114
  go_enter Tryz.func113, Tryz.ntmps113
  go_wp2
  go_loopw [11] (fun i wr => ∃ k : Nat, k ≤ l.length ∧ i = .int .i64 k ∧ MapK wr w.heap.size k (l.map (·.name)) ∧ Below w.heap.size w wr) (fun i _ => l.length - (intOf i).toNat)
  case atStart => exact ⟨0, Nat.zero_le _, rfl, mapK_new _ _, (Below.refl _ _).alloc (Nat.le_refl _) _⟩
  case round =>
    obtain ⟨k, hk, rfl, hM, hbl⟩ := hrel
    by_cases hlt : k < l.length
    · obtain ⟨b, of, rfl⟩ := rows_some2 h hlt
      obtain ⟨x, hx⟩ : ∃ x, l[k]? = some x := ⟨l[k], by simp [hlt]⟩
      obtain ⟨g0, g1, g2, g3, g4, g5⟩ := rows_sym (h.below hbl) hx
      have hkey := key_of x.name (hr x (List.mem_of_getElem? hx)).2.2.2.2.2
      have hlt' : (k : Int) < (l.length : Int) := by omega
      obtain ⟨D, m0, m1, m2, m3⟩ := hM
      have hx := Lib.hid (show (l.map (·.name))[k]? = some x.name by rw [List.getElem?_map, hx]; rfl)
      have hfc := fun W => yname_c x W
      have hB := hbl.size
      have m1 := Lib.hid m1
      have m2 := Lib.hid m2
      have m3 := Lib.hid m3
      clear hr h
      obtain ⟨xn, xs, xv, xz, xb, xk⟩ := x
      dsimp only at hfc hkey hx g0 g1 g2 g3 g4 g5
      go_wp2_with (first
        | (go_at_fn 114; refine (hfc _).mono ?_; rintro e w1 ⟨rfl, o, rfl⟩)
        | (at_mapUpdate; refine wpList_mapUpdate_own _ rfl _ _ _ 147 rfl 9 3 lawK Tryz.underlying147 _ w.heap.size k _ rfl ((m0.alloc _).alloc _) (by unfold maxLen; omega) _ _ _ rfl rfl hkey _ [] (plainElem_int Tryz.underlying3 (wf_i64 (by omega) (by omega))) ?_; intro w1 hown1 hgrow1))
      have R1 := mapK_step m0 m1.out m2.out m3.out hx.out hown1
      have R2 := ((hbl.alloc hB _).alloc (by simp; omega) _).grown hgrow1 (by simp; omega) (fun j hj => by cases hj; exact Nat.le_refl _)
      clear hown1 hgrow1 m0
      go_wp2
      go_roundw
      case rel => exact ⟨k + 1, by omega, by go_num, R1, R2⟩
      case measure => simp [intOf]; omega
    · obtain rfl : k = l.length := by omega
      go_wp2
      go_ret
      exact ⟨rfl, hbl, by rw [List.length_map]; exact hM⟩
set_option maxRecDepth 100000 in
set_option maxHeartbeats 1000000 in
theorem differ_sym {w : World} {s : Value} {l : List SymT} (h : RowsAt w s SymT.cells 6 l) (hr : ∀ x ∈ l, x.R) (hl : l.length ≤ 140737488351232) : Calls Tryz.prog 159 #[s, .func (.func 114) #[] #[]] w fun e w' => e = .returned (.bool (dec (l.map (·.name)).Nodup)) ∧ Below w.heap.size w w' := by
  have hI := indices_sym h hr hl
  obtain ⟨r, hr0⟩ : ∃ r, r = dec (l.map (·.name)).Nodup := ⟨_, rfl⟩
  rw [← hr0]
  have hrr := Lib.hid hr0
  clear hr0
  obtain ⟨a, c, rfl⟩ := rows_slice h
  go_enter Tryz.func159, Tryz.ntmps159
  go_wp2_with fail
  refine hI.mono ?_
  rintro e w1 ⟨rfl, hb1, D, m0, m1, m2, m3⟩
  rw [List.take_length, List.length_map] at m3
  have hlen := m0.len Tryz.underlying147 3
  clear m0 m1 m2
  by_cases hn : (l.map (·.name)).Nodup
  · have hz := m3.2 hn
    have hr2 := Lib.hid (hrr.out.trans (dec_yes hn))
    have hzb : ((size D : Int) == (l.length : Int)) = true := beq_iff_eq.2 (by omega)
    clear m3 hn hz
    go_wp2
    go_ret
    exact ⟨by rw [hr2.out]; rfl, hb1⟩
  · have hz : ¬ size D = l.length := fun e => hn (m3.1 e)
    have hr2 := Lib.hid (hrr.out.trans (dec_no hn))
    have hzb : ((size D : Int) == (l.length : Int)) = false := beq_eq_false_iff_ne.2 (by omega)
    clear m3 hn hz
    go_wp2
    go_ret
    exact ⟨by rw [hr2.out]; rfl, hb1⟩
end Go.Ev

/-
  Stage 3: a section, in the program, exactly.
-/
namespace Go.Ev
open Go.RowKit Go.Proofs Go.Rw
def SecOk (x : SecT) : Prop := NameOk x.name ∧ (1 ≤ x.rights ∧ x.rights ≤ 7) ∧ (1 ≤ x.align ∧ x.align ≤ 256) ∧ 256 % x.align = 0 ∧ (0 ≤ x.zero ∧ x.zero ≤ 65536)
theorem pow_nat : ∀ a : _root_.Fin 257, 1 ≤ a.val → ((bits .and .i64 (a.val : Int) ((a.val : Int) - 1) = 0) ↔ 256 % a.val = 0) := by decide +kernel
theorem pow_iff {z : Int} (h0 : 1 ≤ z) (h1 : z ≤ 256) : (bits .and .i64 z (z - 1) = 0) ↔ 256 % z = 0 := by
  obtain ⟨n, rfl⟩ := Int.eq_ofNat_of_zero_le (show 0 ≤ z by omega)
  have := pow_nat ⟨n, by omega⟩ (by show 1 ≤ n; omega)
  rw [this]
  have e : ((256 % n : Nat) : Int) = (256 : Int) % (n : Int) := Int.natCast_emod 256 n
  show 256 % n = 0 ↔ (256 : Int) % (n : Int) = 0
  rw [← e]
  exact Int.natCast_eq_zero.symm
theorem plen_c {w : World} (s : SecT) (h : s.R) (hz : 0 ≤ s.zero) (hz2 : s.zero ≤ 65536) : Calls Tryz.prog 155 #[.agg #[.string s.name, .int .i64 s.rights, .int .i64 s.align, .slice s.ba s.bn s.bc, .int .i64 s.zero]] w fun e w' => e = .returned (.int .i64 ((s.bn : Int) + s.zero)) ∧ Below w.heap.size w w' := by
  have h1 := h.2.2.1
  have hb := fun o => (Below.refl w.heap.size w).alloc (Nat.le_refl _) o
  clear h
  go_enter Tryz.func155, Tryz.ntmps155
  go_wp2
  go_ret
  exact ⟨rfl, hb _⟩
set_option maxRecDepth 100000 in
set_option maxHeartbeats 4000000 in
/-- The program's isSection. -/
theorem psec_c {w : World} (x : SecT) (hx : x.R) : Calls Tryz.prog 153 #[.agg #[.string x.name, .int .i64 x.rights, .int .i64 x.align, .slice x.ba x.bn x.bc, .int .i64 x.zero]] w fun e w' => e = .returned (.bool (dec (SecOk x))) ∧ Below w.heap.size w w' := by
  obtain ⟨r, hr0⟩ : ∃ r, r = dec (SecOk x) := ⟨_, rfl⟩
  rw [← hr0]
  have hrr := Lib.hid hr0
  clear hr0
  have hb := fun o => (Below.refl w.heap.size w).alloc (Nat.le_refl _) o
  have hN := fun W => pname_c (w := W) x.name hx.2.2.2.2
  obtain ⟨i0, i1, -, i3, -⟩ := hx
  unfold inI64 at i0 i1 i3
  by_cases c1 : NameOk x.name
  · have hN1 := fun (W : World) => (hN W).mono (fun e w' hh => (⟨by rw [hh.1]; unfold nameV; rw [@decide_eq_true _ (Classical.propDecidable _) c1], hh.2⟩ : e = .returned (.bool true) ∧ w' = W))
    clear hN
    by_cases c2 : 1 ≤ x.rights ∧ x.rights ≤ 7
    · by_cases c3 : 1 ≤ x.align ∧ x.align ≤ 256
      · obtain ⟨B, hB⟩ : ∃ B, B = bits .and .i64 x.align (x.align - 1) := ⟨_, rfl⟩
        have hB2 := hB.symm
        have hpow := pow_iff c3.1 c3.2
        rw [hB2] at hpow
        by_cases c4 : B = 0
        · have hB3 : (B == 0) = true := beq_iff_eq.2 c4
          by_cases c5 : 0 ≤ x.zero ∧ x.zero ≤ 65536
          · have hres := Lib.hid (show r = true by rw [hrr.out]; exact dec_yes ⟨c1, c2, c3, hpow.1 c4, c5⟩)
            clear hB c4 hpow c1
            obtain ⟨xn, xr, xa, xba, xbn, xbc, xz⟩ := x
            dsimp only at *
            go_enter Tryz.func153, Tryz.ntmps153
            go_wp2_with (first | (go_at_call 223; refine (hN1 _).mono ?_; rintro e w1 ⟨rfl, rfl⟩) | (go_at_call 221; first | (refine (within_yes (by omega) (by omega)).mono ?_; rintro e w1 ⟨rfl, rfl⟩) | (refine (within_no (by omega)).mono ?_; rintro e w1 ⟨rfl, rfl⟩)))
            go_ret
            exact ⟨by rw [hres.out]; rfl, hb _⟩
          · have hres := Lib.hid (show r = false by rw [hrr.out]; exact dec_no fun h => c5 h.2.2.2.2)
            clear hB c4 hpow c1
            obtain ⟨xn, xr, xa, xba, xbn, xbc, xz⟩ := x
            dsimp only at *
            go_enter Tryz.func153, Tryz.ntmps153
            go_wp2_with (first | (go_at_call 223; refine (hN1 _).mono ?_; rintro e w1 ⟨rfl, rfl⟩) | (go_at_call 221; first | (refine (within_yes (by omega) (by omega)).mono ?_; rintro e w1 ⟨rfl, rfl⟩) | (refine (within_no (by omega)).mono ?_; rintro e w1 ⟨rfl, rfl⟩)))
            go_ret
            exact ⟨by rw [hres.out]; rfl, hb _⟩
        · have hB3 : (B == 0) = false := beq_eq_false_iff_ne.2 c4
          have hres := Lib.hid (show r = false by rw [hrr.out]; exact dec_no fun h => c4 (hpow.2 h.2.2.2.1))
          clear hB c4 hpow c1
          obtain ⟨xn, xr, xa, xba, xbn, xbc, xz⟩ := x
          dsimp only at *
          go_enter Tryz.func153, Tryz.ntmps153
          go_wp2_with (first | (go_at_call 223; refine (hN1 _).mono ?_; rintro e w1 ⟨rfl, rfl⟩) | (go_at_call 221; first | (refine (within_yes (by omega) (by omega)).mono ?_; rintro e w1 ⟨rfl, rfl⟩) | (refine (within_no (by omega)).mono ?_; rintro e w1 ⟨rfl, rfl⟩)))
          go_ret
          exact ⟨by rw [hres.out]; rfl, hb _⟩
      · have hres := Lib.hid (show r = false by rw [hrr.out]; exact dec_no fun h => c3 h.2.2.1)
        clear c1
        obtain ⟨xn, xr, xa, xba, xbn, xbc, xz⟩ := x
        dsimp only at *
        go_enter Tryz.func153, Tryz.ntmps153
        go_wp2_with (first | (go_at_call 223; refine (hN1 _).mono ?_; rintro e w1 ⟨rfl, rfl⟩) | (go_at_call 221; first | (refine (within_yes (by omega) (by omega)).mono ?_; rintro e w1 ⟨rfl, rfl⟩) | (refine (within_no (by omega)).mono ?_; rintro e w1 ⟨rfl, rfl⟩)))
        go_ret
        exact ⟨by rw [hres.out]; rfl, hb _⟩
    · have hres := Lib.hid (show r = false by rw [hrr.out]; exact dec_no fun h => c2 h.2.1)
      clear c1
      obtain ⟨xn, xr, xa, xba, xbn, xbc, xz⟩ := x
      dsimp only at *
      go_enter Tryz.func153, Tryz.ntmps153
      go_wp2_with (first | (go_at_call 223; refine (hN1 _).mono ?_; rintro e w1 ⟨rfl, rfl⟩) | (go_at_call 221; first | (refine (within_yes (by omega) (by omega)).mono ?_; rintro e w1 ⟨rfl, rfl⟩) | (refine (within_no (by omega)).mono ?_; rintro e w1 ⟨rfl, rfl⟩)))
      go_ret
      exact ⟨by rw [hres.out]; rfl, hb _⟩
  · have hN1 := fun (W : World) => (hN W).mono (fun e w' hh => (⟨by rw [hh.1]; unfold nameV; rw [@decide_eq_false _ (Classical.propDecidable _) c1], hh.2⟩ : e = .returned (.bool false) ∧ w' = W))
    have hres := Lib.hid (show r = false by rw [hrr.out]; exact dec_no fun h => c1 h.1)
    clear hN c1
    obtain ⟨xn, xr, xa, xba, xbn, xbc, xz⟩ := x
    dsimp only at *
    go_enter Tryz.func153, Tryz.ntmps153
    go_wp2_with (first | (go_at_call 223; refine (hN1 _).mono ?_; rintro e w1 ⟨rfl, rfl⟩) | (go_at_call 221; first | (refine (within_yes (by omega) (by omega)).mono ?_; rintro e w1 ⟨rfl, rfl⟩) | (refine (within_no (by omega)).mono ?_; rintro e w1 ⟨rfl, rfl⟩)))
    go_ret
    exact ⟨by rw [hres.out]; rfl, hb _⟩
end Go.Ev

/-
  Stage 3: sections, in the program, exactly.
-/
namespace Go.Ev
open Go.RowKit Go.Proofs Go.Rw
def lens (l : List SecT) : Int := (l.map fun x => (x.bn : Int) + x.zero).sum
def SecsOk (l : List SecT) : Prop := l.length ≤ 16 ∧ (∀ x ∈ l, SecOk x) ∧ (l.map (·.name)).Nodup ∧ lens l ≤ 65536
theorem lens_snoc {l : List SecT} {k : Nat} {x : SecT} (hx : l[k]? = some x) : lens (l.take (k + 1)) = lens (l.take k) + ((x.bn : Int) + x.zero) := by
  unfold lens
  rw [show l.take (k + 1) = l.take k ++ [x] by rw [List.take_add_one, hx]; rfl]
  simp
theorem lens_in : ∀ (l : List SecT), (∀ x ∈ l, x.bn ≤ 140737488351232 ∧ 0 ≤ x.zero ∧ x.zero ≤ 65536) → 0 ≤ lens l ∧ lens l ≤ l.length * 140737488416768
  | [], _ => by simp [lens]
  | x :: l, h => by
    have h1 := lens_in l (fun y hy => h y (List.mem_cons_of_mem _ hy))
    have h2 := h x (List.mem_cons_self ..)
    have e : lens (x :: l) = ((x.bn : Int) + x.zero) + lens l := by simp [lens]
    rw [e, List.length_cons]
    omega
theorem enters153 : ∀ args w, (callFunc 153 args).run Tryz.prog w = .ok (.enter 153 args) w := enters_of Tryz.func153 (by kernel_rfl) rfl
set_option maxRecDepth 100000 in
set_option maxHeartbeats 4000000 in
/-- The program's areSections. -/
theorem psecs_c {w : World} {s : Value} {l : List SecT} (h : RowsAt w s SecT.cells 5 l) (hr : ∀ x ∈ l, x.R) (hl : l.length ≤ 140737488351232) : Calls Tryz.prog 65 #[s] w (BelR (dec (SecsOk l)) w) := by
  have hE := every_sec h hl 16 153 #[] enters153 (fun x => dec (SecOk x)) (fun W hW x hx => psec_c x (hr x hx))
  obtain ⟨r, hr0⟩ : ∃ r, r = dec (SecsOk l) := ⟨_, rfl⟩
  rw [← hr0]
  have hrr := Lib.hid hr0
  clear hr0
  by_cases hc : (l.length : Int) ≤ 16 ∧ ∀ x ∈ l, SecOk x
  · rw [show (decide ((l.length : Int) ≤ 16) && l.all fun x => dec (SecOk x)) = true by
      simp only [Bool.and_eq_true, decide_eq_true_eq, List.all_eq_true]
      exact ⟨hc.1, fun x hx => dec_yes (hc.2 x hx)⟩] at hE
    have hD := fun W (hW : Below w.heap.size w W) => differ_sec (h.below hW) hr hl
    have h16 : l.length ≤ 16 := by have := hc.1; omega
    by_cases hn : (l.map (·.name)).Nodup
    · rw [dec_yes hn] at hD
      have hrt := Lib.hid (show r = decide (lens l ≤ 65536) by
        rw [hrr.out]
        by_cases hs : lens l ≤ 65536
        · rw [decide_eq_true hs]; exact dec_yes ⟨h16, hc.2, hn, hs⟩
        · rw [decide_eq_false hs]; exact dec_no fun h => hs h.2.2.2)
      have hsz : ∀ x ∈ l, x.bn ≤ 140737488351232 ∧ 0 ≤ x.zero ∧ x.zero ≤ 65536 := fun x hx => ⟨(hr x hx).2.2.1, (hc.2 x hx).2.2.2.2⟩
      have hin := fun k => lens_in (l.take k) (fun x hx => hsz x (List.mem_of_mem_take hx))
      clear hc hn
      obtain ⟨a, c, rfl⟩ := rows_slice h
      go_enter Tryz.func65, Tryz.ntmps65
      go_wp2_with fail
      refine hE.mono ?_
      rintro e w1 ⟨rfl, hb1⟩
      go_wp2_with fail
      refine (hD _ hb1).mono ?_
      rintro e w2 ⟨rfl, hb2⟩
      have hB2 := bel_then hb1 (Nat.le_refl _) hb2
      clear hb1 hb2 hE hD
      go_wp2
      go_loopw [3, 16] (fun v i wr => ∃ k : Nat, k ≤ l.length ∧ i = .int .i64 k ∧ v = .int .i64 (65536 - lens (l.take k)) ∧ Below w.heap.size w wr) (fun _ i _ => l.length - (intOf i).toNat)
      case atStart => exact ⟨0, by omega, rfl, by simp [lens], hB2⟩
      case round =>
        obtain ⟨k, hk, rfl, rfl, hbl⟩ := hrel
        have hB := hbl.size
        have hkin := hin k
        rw [List.length_take] at hkin
        obtain ⟨S, hS⟩ : ∃ S, S = lens (l.take k) := ⟨_, rfl⟩
        rw [← hS] at hkin ⊢
        have hkin2 : 0 ≤ S ∧ S ≤ 2251799814668288 := by omega
        by_cases hlt : k < l.length
        · obtain ⟨b, of, rfl⟩ := rows_some2 h hlt
          obtain ⟨x, hx⟩ : ∃ x, l[k]? = some x := ⟨l[k], by simp [hlt]⟩
          obtain ⟨g0, g1, g2, g3, g4⟩ := rows_sec (h.below hbl) hx
          have hxs := hsz x (List.mem_of_getElem? hx)
          have hP := fun W => plen_c (w := W) x (hr x (List.mem_of_getElem? hx)) hxs.2.1 hxs.2.2
          have hst := lens_snoc hx
          rw [← hS] at hst
          have hst := Lib.hid hst
          have hlt' : (k : Int) < (l.length : Int) := by omega
          clear hx hS h hr hsz hin hkin
          obtain ⟨xn, xr, xa, xba, xbn, xbc, xz⟩ := x
          dsimp only at hP g0 g1 g2 g3 g4 hxs hst
          go_wp2_with (go_at_call 155; refine (hP _).mono ?_; rintro e w3 ⟨rfl, hb3⟩)
          have hb4 := bel_then (hbl.alloc hB _) (Nat.le_refl _) hb3
          clear hb3
          go_roundw
          case rel => exact ⟨k + 1, by omega, by go_num, by rw [hst.out]; congr 1; omega, hb4⟩
          case measure => simp [intOf]; omega
        · obtain rfl : k = l.length := by omega
          rw [List.take_length] at hS
          have hrt2 := Lib.hid (show r = decide (S ≤ 65536) by rw [hrt.out, hS])
          clear hS h hr hsz hin hkin
          by_cases hs : S ≤ 65536
          · have hd : decide ((0 : Int) ≤ 65536 - S) = true := decide_eq_true (by omega)
            have hf := Lib.hid (show r = true by rw [hrt2.out]; exact decide_eq_true hs)
            go_wp2
            go_ret
            exact ⟨by rw [hf.out]; first | rfl | simp [hs], hbl⟩
          · have hd : decide ((0 : Int) ≤ 65536 - S) = false := decide_eq_false (by omega)
            have hf := Lib.hid (show r = false by rw [hrt2.out]; exact decide_eq_false hs)
            go_wp2
            go_ret
            exact ⟨by rw [hf.out]; first | rfl | simp [hs], hbl⟩
    · rw [dec_no hn] at hD
      have hrt := Lib.hid (show r = false by rw [hrr.out]; exact dec_no fun h => hn h.2.2.1)
      clear hc hn hr h
      go_enter Tryz.func65, Tryz.ntmps65
      go_wp2_with fail
      refine hE.mono ?_
      rintro e w1 ⟨rfl, hb1⟩
      go_wp2_with fail
      refine (hD _ hb1).mono ?_
      rintro e w2 ⟨rfl, hb2⟩
      go_wp2
      go_ret
      exact ⟨by rw [hrt.out]; rfl, bel_then hb1 (Nat.le_refl _) hb2⟩
  · rw [show (decide ((l.length : Int) ≤ 16) && l.all fun x => dec (SecOk x)) = false by
      rw [← Bool.not_eq_true]
      simp only [Bool.and_eq_true, decide_eq_true_eq, List.all_eq_true]
      exact fun h => hc ⟨h.1, fun x hx => dec_iff.1 (h.2 x hx)⟩] at hE
    have hrt := Lib.hid (show r = false by
      rw [hrr.out]
      exact dec_no fun h => hc ⟨by have := h.1; omega, h.2.1⟩)
    clear hc h hr
    go_enter Tryz.func65, Tryz.ntmps65
    go_wp2_with fail
    refine hE.mono ?_
    rintro e w1 ⟨rfl, hb1⟩
    go_wp2
    go_ret
    exact ⟨by rw [hrt.out]; rfl, hb1⟩
end Go.Ev

/-
  Stage 3: sections, in the specification, exactly.
-/
namespace Go.Ev
open Go.RowKit Go.Proofs Go.Rw
theorem wrap_id64 {z : Int} (h0 : -9223372036854775808 ≤ z) (h1 : z ≤ 9223372036854775807) : wrap64 z = z := by unfold wrap64; omega
theorem names_snoc {l : List SecT} {k : Nat} {x : SecT} (hx : l[k]? = some x) (hn : ((l.take k).map (·.name)).Nodup) (hd : ∀ j y, j < k → l[j]? = some y → y.name ≠ x.name) : ((l.take (k + 1)).map (·.name)).Nodup := by
  have hk := (List.getElem?_eq_some_iff.1 hx).1
  rw [show l.take (k + 1) = l.take k ++ [x] by rw [List.take_add_one, hx]; rfl, List.map_append, List.nodup_append]
  refine ⟨hn, by simp, fun a ha b hb => ?_⟩
  rw [List.map_cons, List.map_nil, List.mem_singleton] at hb
  rw [hb]
  obtain ⟨y, hy, rfl⟩ := List.mem_map.1 ha
  obtain ⟨j, hj⟩ := List.getElem?_of_mem hy
  have hjl := (List.getElem?_eq_some_iff.1 hj).1
  rw [List.length_take] at hjl
  rw [List.getElem?_take_of_lt (by omega)] at hj
  exact hd j y (by omega) hj
theorem names_not {l : List SecT} {j k : Nat} {x y : SecT} (hx : l[k]? = some x) (hy : l[j]? = some y) (e : y.name = x.name) (hjk : j < k) : ¬ (l.map (·.name)).Nodup := fun h => by
  have h1 := (List.getElem?_eq_some_iff.1 hx).1
  have h2 := (List.getElem?_eq_some_iff.1 hy).1
  exact List.pairwise_iff_getElem.1 h j k (by simpa using h2) (by simpa using h1) hjk (by simp [(List.getElem?_eq_some_iff.1 hy).2, (List.getElem?_eq_some_iff.1 hx).2, e])
set_option maxRecDepth 100000 in
set_option maxHeartbeats 4000000 in
theorem rsecs_c {w : World} {s : Value} {l : List SecT} (h : RowsAt w s SecT.cells 5 l) (hr : ∀ x ∈ l, x.R) (hl : l.length ≤ 140737488351232) :
    Calls Tryz.prog 135 #[s] w (BelR (dec (SecsOk l)) w) := by
  obtain ⟨a, c, rfl⟩ := rows_slice h
  obtain ⟨r, hr0⟩ : ∃ r, r = dec (SecsOk l) := ⟨_, rfl⟩
  rw [← hr0]
  have hrr := Lib.hid hr0
  clear hr0
  by_cases h16 : l.length ≤ 16
  · have h16' : (l.length : Int) ≤ 16 := by omega
    go_enter Tryz.func135, Tryz.ntmps135
    go_wp2
    go_loopg [3, 4] l.length (fun gn n i wr => ∃ k : Nat, gn + k = l.length ∧ k ≤ l.length ∧ n = .int .i64 (lens (l.take k)) ∧ i = .int .i64 k ∧ Below w.heap.size w wr ∧ (∀ j x, j < k → l[j]? = some x → SecOk x) ∧ ((l.take k).map (·.name)).Nodup)
    case atStart => exact ⟨0, by omega, by omega, by simp [lens], rfl, Below.refl _ _, fun j x hj => by omega, by simp⟩
    case round =>
      obtain ⟨k, hgk, hk, rfl, rfl, hbl, hA, hN⟩ := hrel
      have hA := Lib.hid hA
      have hN := Lib.hid hN
      have hin := lens_in (l.take k) (fun x hx => by
        obtain ⟨j, hj⟩ := List.getElem?_of_mem hx
        have hjl := (List.getElem?_eq_some_iff.1 hj).1
        rw [List.length_take] at hjl
        rw [List.getElem?_take_of_lt (by omega)] at hj
        exact ⟨(hr x (List.mem_of_getElem? hj)).2.2.1, (hA.out j x (by omega) hj).2.2.2.2⟩)
      rw [List.length_take] at hin
      obtain ⟨S, hS⟩ : ∃ S, S = lens (l.take k) := ⟨_, rfl⟩
      rw [← hS] at hin ⊢
      have hS0 : 0 ≤ S ∧ S ≤ 2251799814668288 := by omega
      clear hin
      by_cases hlt : k < l.length
      · obtain ⟨b, o, rfl⟩ := rows_some2 h hlt
        obtain ⟨x, hx⟩ : ∃ x, l[k]? = some x := ⟨l[k], by simp [hlt]⟩
        obtain ⟨g0, g1, g2, g3, g4⟩ := rows_sec (h.below hbl) hx
        have hxR := hr _ (List.mem_of_getElem? hx)
        have hlen := fun w => len_c (w := w) x hxR
        have hst := lens_snoc hx
        rw [← hS] at hst
        have hst := Lib.hid hst
        have hnm := fun W => is_name (w := W) x.name hxR.2.2.2.2
        have hxH := Lib.hid hx
        have hB := hbl.size
        have hno := Lib.hid (fun (hs : ¬ SecOk x) => show r = false by rw [hrr.out]; exact dec_no fun h => hs (h.2.1 x (List.mem_of_getElem? hx)))
        clear hx hS
        by_cases c1 : NameOk x.name
        · have hnm1 := fun (W : World) => (hnm W).mono (fun e w' hh => (⟨by rw [hh.1]; unfold nameV; rw [@decide_eq_true _ (Classical.propDecidable _) c1], hh.2⟩ : e = .returned (.bool true) ∧ w' = W))
          clear hnm
          by_cases c2 : (1 ≤ x.rights ∧ x.rights ≤ 7) ∧ (0 ≤ x.zero ∧ x.zero ≤ 65536)
          · by_cases c3 : 1 ≤ x.align ∧ x.align ≤ 256
            · by_cases c4 : 256 % x.align = 0
              · have hok := Lib.hid (show SecOk x from ⟨c1, c2.1, c3, c4, c2.2⟩)
                have c5 : ((256 : Int) % x.align != 0) = false := by simp [c4]
                have c6 : (256 : Int).tmod x.align = 256 % x.align := Int.tmod_eq_emod_of_nonneg (by omega)
                obtain ⟨⟨c21, c22⟩, c23, c24⟩ := c2
                obtain ⟨c31, c32⟩ := c3
                have hxl := hxR.2.2.1
                clear c1 c4 hno hxR
                obtain ⟨xn, xr, xa, xb, xl, xc, xz⟩ := x
                dsimp only [SecT.v] at *
                obtain ⟨wo, rfl⟩ : ∃ wo : World, wo = wr := ⟨_, rfl⟩
                obtain ⟨gO, rfl⟩ : ∃ gO : Nat, gO = gk := ⟨_, rfl⟩
                go_wp2_with (go_at_call 218; refine (hnm1 _).mono ?_; rintro e w1 ⟨rfl, rfl⟩)
                go_loopg [6] k (fun gn i wr => ∃ j : Nat, gn + j = k ∧ j ≤ k ∧ i = .int .i64 j ∧ Below (wo.alloc (.cells #[.string xn, .int .i64 xr, .int .i64 xa, .slice xb xl xc, .int .i64 xz] 66)).heap.size (wo.alloc (.cells #[.string xn, .int .i64 xr, .int .i64 xa, .slice xb xl xc, .int .i64 xz] 66)) wr ∧ (∀ j' y, j' < j → l[j']? = some y → y.name ≠ xn))
                case atStart => exact ⟨0, by omega, by omega, rfl, Below.refl _ _, fun j' y hj' => by omega⟩
                case round =>
                  obtain ⟨j, hgj, hj, rfl, hbj, hD⟩ := hrel
                  have hD := Lib.hid hD
                  have hbw := bel_then (hbl.alloc hB _) (Nat.le_refl _) hbj
                  have c0 := (hbj.cell (p := ⟨wo.heap.size, 0, none⟩) (by simp)).trans (new_cell wo _ 66 0 _ rfl)
                  have c1 := (hbj.cell (p := ⟨wo.heap.size, 1, none⟩) (by simp)).trans (new_cell wo _ 66 1 _ rfl)
                  have c2 := (hbj.cell (p := ⟨wo.heap.size, 2, none⟩) (by simp)).trans (new_cell wo _ 66 2 _ rfl)
                  have c3 := (hbj.cell (p := ⟨wo.heap.size, 3, none⟩) (by simp)).trans (new_cell wo _ 66 3 _ rfl)
                  have c4 := (hbj.cell (p := ⟨wo.heap.size, 4, none⟩) (by simp)).trans (new_cell wo _ 66 4 _ rfl)
                  by_cases hjk : j < k
                  · obtain ⟨y, hy⟩ : ∃ y, l[j]? = some y := ⟨l[j], by simp [Nat.lt_trans hjk hlt]⟩
                    obtain ⟨p0, _, _, _, _⟩ := rows_sec (h.below hbw) hy
                    have hj' : (j : Int) < (l.length : Int) := by omega
                    have hyH := Lib.hid hy
                    clear hlen hy
                    by_cases e : y.name = xn
                    · have hf := Lib.hid (show r = false by rw [hrr.out]; exact dec_no fun h => names_not hxH.out hyH.out e hjk h.2.2.1)
                      obtain ⟨yn, yr, ya, yb, yl, yc, yz⟩ := y
                      dsimp only at e p0
                      subst e
                      go_wp2
                      go_quiet (fail)
                      go_wp2
                      go_ret
                      exact ⟨by rw [hf.out]; rfl, below_drewN hbw _⟩
                    · have e2 := bytes_ne e
                      have eH := Lib.hid e
                      obtain ⟨yn, yr, ya, yb, yl, yc, yz⟩ := y
                      dsimp only at e e2 p0 eH
                      go_wp2
                      go_quiet (fail)
                      go_wp2
                      go_roundg (gk - 1)
                      case measure => omega
                      case rel =>
                        refine ⟨j + 1, by omega, by omega, by go_num, below_drewN hbj _, fun j' z hj' hz => ?_⟩
                        by_cases e' : j' < j
                        · exact hD.out j' z e' hz
                        · obtain rfl : j' = j := by omega
                          rw [hyH.out] at hz
                          cases hz
                          exact eH.out
                  · obtain rfl : j = k := by omega
                    have hN2 := Lib.hid (names_snoc hxH.out hN.out hD.out)
                    have hA2 := Lib.hid (show ∀ j' z, j' < j + 1 → l[j']? = some z → SecOk z from fun j' z hj' hz => by
                      by_cases e' : j' < j
                      · exact hA.out j' z e' hz
                      · obtain rfl : j' = j := by omega
                        rw [hxH.out] at hz
                        cases hz
                        exact hok.out)
                    go_wp2_with fail
                    refine (hlen wr).mono ?_
                    rintro e w2 ⟨rfl, hb2⟩
                    have hbw2 := bel_then hbw (Nat.le_refl _) hb2
                    go_wp2
                    go_roundg (gO - 1)
                    case measure => omega
                    case rel => exact ⟨j + 1, by omega, by omega, by rw [hst.out, wrap_id64 (show -9223372036854775808 ≤ (xl : Int) + xz by omega) (by omega), wrap_id64 (by omega) (by omega)], by go_num, hbw2, hA2.out, hN2.out⟩
              · have hf := Lib.hid (hno.out (fun h => c4 h.2.2.2.1))
                have c5 : ((256 : Int) % x.align != 0) = true := bne_iff_ne.2 c4
                have c6 : (256 : Int).tmod x.align = 256 % x.align := Int.tmod_eq_emod_of_nonneg (by omega)
                obtain ⟨⟨c21, c22⟩, c23, c24⟩ := c2
                obtain ⟨c31, c32⟩ := c3
                clear c1 c4 hlen hst hr h
                obtain ⟨xn, xr, xa, xb, xl, xc, xz⟩ := x
                dsimp only at *
                go_wp2_with (go_at_call 218; refine (hnm1 _).mono ?_; rintro e w1 ⟨rfl, rfl⟩)
                all_goals first
                  | (go_ret; exact ⟨by rw [hf.out]; rfl, hbl.alloc hB _⟩)
                  | (exfalso; omega)
            · have hf := Lib.hid (hno.out (fun h => c3 h.2.2.1))
              obtain ⟨⟨c21, c22⟩, c23, c24⟩ := c2
              clear c1 hlen hst hr h
              obtain ⟨xn, xr, xa, xb, xl, xc, xz⟩ := x
              dsimp only at *
              go_wp2_with (go_at_call 218; refine (hnm1 _).mono ?_; rintro e w1 ⟨rfl, rfl⟩)
              all_goals first
                | (go_ret; exact ⟨by rw [hf.out]; rfl, hbl.alloc hB _⟩)
                | (exfalso; omega)
          · have hf := Lib.hid (hno.out (fun h => c2 ⟨h.2.1, h.2.2.2.2⟩))
            clear c1 hlen hst hr h
            obtain ⟨xn, xr, xa, xb, xl, xc, xz⟩ := x
            dsimp only at *
            go_wp2_with (go_at_call 218; refine (hnm1 _).mono ?_; rintro e w1 ⟨rfl, rfl⟩)
            all_goals first
              | (go_ret; exact ⟨by rw [hf.out]; rfl, hbl.alloc hB _⟩)
              | (exfalso; omega)
        · have hnm1 := fun (W : World) => (hnm W).mono (fun e w' hh => (⟨by rw [hh.1]; unfold nameV; rw [@decide_eq_false _ (Classical.propDecidable _) c1], hh.2⟩ : e = .returned (.bool false) ∧ w' = W))
          have hf := Lib.hid (hno.out (fun h => c1 h.1))
          clear hnm c1 hlen hst hr h
          obtain ⟨xn, xr, xa, xb, xl, xc, xz⟩ := x
          dsimp only at *
          go_wp2_with (go_at_call 218; refine (hnm1 _).mono ?_; rintro e w1 ⟨rfl, rfl⟩)
          go_ret
          exact ⟨by rw [hf.out]; rfl, hbl.alloc hB _⟩
      · obtain rfl : k = l.length := by omega
        rw [List.take_length] at hS
        have hres := Lib.hid (show r = decide (S ≤ 65536) by
          have hN2 := hN.out
          rw [List.take_length] at hN2
          have hA2 : ∀ x ∈ l, SecOk x := fun x hx => by
            obtain ⟨j, hj⟩ := List.getElem?_of_mem hx
            exact hA.out j x (List.getElem?_eq_some_iff.1 hj).1 hj
          rw [hrr.out, hS]
          by_cases hs : lens l ≤ 65536
          · rw [decide_eq_true hs]; exact dec_yes ⟨h16, hA2, hN2, hs⟩
          · rw [decide_eq_false hs]; exact dec_no fun h => hs h.2.2.2)
        clear hS
        go_wp2
        go_ret
        exact ⟨by rw [hres.out]; rfl, hbl⟩
  · have h16' : ¬ (l.length : Int) ≤ 16 := by omega
    have hno := Lib.hid (show r = false by rw [hrr.out]; exact dec_no fun h => h16 h.1)
    go_enter Tryz.func135, Tryz.ntmps135
    go_wp2
    go_ret
    exact ⟨by rw [hno.out]; rfl, Below.refl _ _⟩
end Go.Ev

