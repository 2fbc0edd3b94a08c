import Derived.Test.YtmiccmelipbakaaGreatDoorIsaDeM
import Derived.Test.YtmiccmelipbakaaGreatDoorIsaLij
import Derived.Test.YtmiccmelipbakaaGreatDoorIsaCtx
set_option linter.unusedSectionVars false
set_option linter.unusedVariables false
set_option linter.unusedSimpArgs false
/-
  isa.Encode once more: the bytes lie in a block that the call has made.
-/
namespace Go.Ev
open Go.RowKit Go.Proofs
section
variable [Unk] {P : Program} {G : Nat → Nat → Option AV} {orc : Nat → Option Orc}
theorem new_of {G : Nat → Nat → Option AV} {ρ : Rho} {H : Heap} {nx N : Nat} {w : World} (hI : Inv G ρ H nx 0 N w) {id : Nat} {o : _} (ho : H.get id = some o) {b sz : Nat} (hρ : ρ id = some (b, sz)) : N ≤ b := by
  obtain ⟨b', sz', ob, h1, h2, _⟩ := hI.obj id o ho
  rw [hρ] at h1
  cases h1
  exact h2 (Nat.zero_le _)
theorem evalS_true' (hO : OrcSound P G orc) (hNG : NoNG P) (hmix : P.follows .mixedOrders = true) {fuel f : Nat} {args : List AV} {fin : AEnd → Heap → Bool} (h : evalS P G orc fuel f args fin = true) {vs : List Value} (hv : VRs (fun _ => none) args vs)
    {w : World} (hG : Globals G w) : ∃ e H nx, fin e H = true ∧ Calls P f vs.toArray w fun e' w' => Below w.heap.size w w' ∧ ∃ ρ', Inv G ρ' H nx 0 w.heap.size w' ∧ EndR ρ' e e' := by
  obtain ⟨e, H', nx', h1, h2, h3, _, h4⟩ := ec_snd (run_sound hO hNG hmix fuel) 0 f args .lf 0 _ h
  refine ⟨e, H', nx', h1, Calls.mono (h4 _ _ w vs (Inv.init hG) hv) fun e' w' he => ?_⟩
  obtain ⟨ρ', k1, k2, k3, k4⟩ := he
  exact ⟨k3, ρ', k2, k4⟩
/-- What a slice that is returned reads as. -/
def SlR' (l : List AV) (r : AV) (w : World) (e : Ending) (w' : World) : Prop := ∃ (blk off cap : Nat) (us : List Value) (u : Value), e = .returned (.tuple #[.slice (some ⟨blk, off, none⟩) l.length cap, u]) ∧ l.length ≤ cap ∧ w.heap.size ≤ blk ∧ DenL l us ∧ (∀ j v, us[j]? = some v → w'.cell? ⟨blk, off + j, none⟩ = some v) ∧ Den r u ∧ Below w.heap.size w w'
theorem sl_of_eval' (hO : OrcSound P G orc) (hNG : NoNG P) (hmix : P.follows .mixedOrders = true) {fuel f : Nat} {args l : List AV} {r : AV} (h : evalS P G orc fuel f args (isSl l r) = true) {vs : List Value} (hv : VRs (fun _ => none) args vs)
    {w : World} (hG : Globals G w) : Calls P f vs.toArray w (SlR' l r w) := by
  obtain ⟨e, H, nx, he, hc⟩ := evalS_true' hO hNG hmix h hv hG
  unfold isSl at he
  split at he
  · rename_i id off n cap v
    split at he
    · rename_i hr
      split at he
      · rename_i hn
        have hn := beq_true hn
        rw [len_eq] at hn
        obtain ⟨o, ho, he⟩ := opt_true he
        split at he
        · rename_i c n' e' tl
          obtain ⟨m, hm1, hm2, he⟩ := getMany_true _ he
          refine Calls.mono hc fun e' w' hh => ?_
          obtain ⟨hb, ρ', hI, hend⟩ := hh
          cases e' with
          | returned u =>
            cases hend with
            | tup _ cs hs =>
              obtain ⟨csl⟩ := cs
              match csl, hs with
              | [a, b], .cons _ _ _ _ ha (.cons _ _ _ _ hb' .nil) =>
                have hd := avEq_den hr hb'
                cases ha with
                | sliceK _ _ _ cp bl sz hρ hl =>
                  obtain ⟨us, k1, k2, k3⟩ := getMany_vrs hI ho hm1 hm2 hρ
                  exact ⟨bl, off, cp, us, b, by rw [← hn], by rw [← hn]; exact hl, new_of hI ho hρ, avEqL_den he k1, k3, hd, hb⟩
                | sliceU _ _ _ _ cp bl sz hρ hl hs' =>
                  obtain ⟨us, k1, k2, k3⟩ := getMany_vrs hI ho hm1 hm2 hρ
                  exact ⟨bl, off, cp, us, b, by rw [← hn], by rw [← hn]; exact hl, new_of hI ho hρ, avEqL_den he k1, k3, hd, hb⟩
          | panicked c => exact hend.elim
          | outgrown => exact hend.elim
        · cases he
      · cases he
    · cases he
  · cases he
end
/-- What Encode answers at an instruction. -/
def EnR' (n : Nat) (q : Nat → Int) (w : World) (e : Ending) (w' : World) : Prop := ∃ blk off cap : Nat, e = .returned (.tuple #[.slice (some ⟨blk, off, none⟩) n cap, .int .i64 0]) ∧ n ≤ cap ∧ w.heap.size ≤ blk ∧ (∀ j, j < n → w'.cell? ⟨blk, off + j, none⟩ = some (.int .u8 (q j))) ∧ Below w.heap.size w w'
theorem encode_new {m : Int} {w : World} (hG : GlobU m w) {x : XK} {op a b c d k i : Int} (hx : IsX x op a b c d k i) (hv : xlen x ≠ 0) :
    Calls Tryz.prog 16 #[insnV op a b c d k i] w (EnR' (xlen x) (eB op a b c d k i) w) := by
  have hw := ins_xl hx
  have hO := orcEn_snd (m := m) hx
  have vx := vr_xa (o := 0) hw hx (fun j _ => by rw [Nat.zero_add]) (fun _ => none)
  cases x with
  | inv => exact absurd rfl hv
  | sh =>
    letI : Unk := Unk.mk (nthI (xl .sh op a b c d k i))
    refine (sl_of_eval' hO noNG1 mix1 (en_sh m) (.cons _ _ _ _ vx .nil) (hG _)).mono fun e w' h => ?_
    obtain ⟨blk, off, cap, us, u, h1, h2, h7, h3, h4, h5, h6⟩ := h
    refine ⟨blk, off, cap, by rw [h1, show u = .int .i64 0 from h5]; rfl, h2, h7, fun j hj => ?_, h6⟩
    match us, h3 with
    | [u0, u1, u2, u3], ⟨d0, d1, d2, d3, _⟩ =>
      have d0 := val_l (xl .sh op a b c d k i) .u8 (xb .sh) 0 d0
      have d1 := val_s (xl .sh op a b c d k i) .u8 (xb .sh) 1 2 (.ofNat 16) d1
      have d2 := val_s (xl .sh op a b c d k i) .u8 (xb .sh) 3 4 (.ofNat 16) d2
      have d3 := val_l (xl .sh op a b c d k i) .u8 (xb .sh) 5 d3
      match j, hj with
      | 0, _ => rw [h4 0 _ rfl, d0]; rfl
      | 1, _ => rw [h4 1 _ rfl, d1]; rfl
      | 2, _ => rw [h4 2 _ rfl, d2]; rfl
      | 3, _ => rw [h4 3 _ rfl, d3]; rfl
  | lg =>
    letI : Unk := Unk.mk (nthI (xl .lg op a b c d k i))
    refine (sl_of_eval' hO noNG1 mix1 (en_lg m) (.cons _ _ _ _ vx .nil) (hG _)).mono fun e w' h => ?_
    obtain ⟨blk, off, cap, us, u, h1, h2, h7, h3, h4, h5, h6⟩ := h
    refine ⟨blk, off, cap, by rw [h1, show u = .int .i64 0 from h5]; rfl, h2, h7, fun j hj => ?_, h6⟩
    match us, h3 with
    | [u0, u1, u2, u3, u4, u5, u6, u7], ⟨d0, d1, d2, d3, d4, d5, d6, d7, _⟩ =>
      have d0 := val_l (xl .lg op a b c d k i) .u8 (xb .lg) 0 d0
      have d1 := val_s (xl .lg op a b c d k i) .u8 (xb .lg) 1 2 (.ofNat 16) d1
      have d2 := val_s (xl .lg op a b c d k i) .u8 (xb .lg) 3 4 (.ofNat 16) d2
      have d3 := val_l (xl .lg op a b c d k i) .u8 (xb .lg) 5 d3
      have d4 := val_l (xl .lg op a b c d k i) .u8 (xb .lg) 7 d4
      have d5 := val_l (xl .lg op a b c d k i) .u8 (xb .lg) 8 d5
      have d6 := val_l (xl .lg op a b c d k i) .u8 (xb .lg) 9 d6
      have d7 := val_l (xl .lg op a b c d k i) .u8 (xb .lg) 10 d7
      match j, hj with
      | 0, _ => rw [h4 0 _ rfl, d0]; rfl
      | 1, _ => rw [h4 1 _ rfl, d1]; rfl
      | 2, _ => rw [h4 2 _ rfl, d2]; rfl
      | 3, _ => rw [h4 3 _ rfl, d3]; rfl
      | 4, _ => rw [h4 4 _ rfl, d4]; rfl
      | 5, _ => rw [h4 5 _ rfl, d5]; rfl
      | 6, _ => rw [h4 6 _ rfl, d6]; rfl
      | 7, _ => rw [h4 7 _ rfl, d7]; rfl
end Go.Ev

/-
  slices.Grow and slices.Concat of two slices, nil or not: of bytes, and of instructions.
-/
namespace Go.Ev
open Go.RowKit Go.Proofs
/-- A slice that holds these cells; nil, or not. -/
def SrcAt (w : World) (s : Value) (m : Nat) (news : List Value) (size : Nat) : Prop :=
  ∃ a c, s = .slice a m c ∧ ((a = none ∧ m = 0 ∧ c = 0 ∧ news = []) ∨ ∃ b o, a = some ⟨b, o, none⟩ ∧ news.length = m * size ∧ ∀ j u, news[j]? = some u → w.cell? ⟨b, o + j, none⟩ = some u) ∧ ∀ u ∈ news, u.oneCell' = true
theorem SrcAt.below {w w' : World} {s : Value} {m size : Nat} {news : List Value} (h : SrcAt w s m news size) (hb : Below w.heap.size w w') : SrcAt w' s m news size := by
  obtain ⟨a, c, rfl, h1, h2⟩ := h
  refine ⟨a, c, rfl, ?_, h2⟩
  rcases h1 with h1 | ⟨b, o, rfl, h3, h4⟩
  · exact .inl h1
  · exact .inr ⟨b, o, rfl, h3, fun j u hj => (hb.cell (low_of_cell (h4 j u hj))).trans (h4 j u hj)⟩
theorem SrcAt.len {w : World} {s : Value} {m size : Nat} {news : List Value} (h : SrcAt w s m news size) : news.length = m * size := by
  obtain ⟨a, c, rfl, h1, h2⟩ := h
  rcases h1 with ⟨_, rfl, _, rfl⟩ | ⟨_, _, _, h3, _⟩
  · simp
  · exact h3
/-- What a call owns is such a slice. -/
theorem SrcAt.of_own {w : World} {base e size n : Nat} {v : Value} {xs : List Value} (h : w.ownsRow base e size v n xs) (h1 : ∀ u ∈ xs, u.oneCell' = true) : SrcAt w v n xs size := by
  have hl := h.1
  rcases h.2 with ⟨rfl, rfl⟩ | ⟨g, cap, cur, rfl, _, hg, _⟩
  · exact ⟨none, 0, rfl, .inl ⟨rfl, rfl, rfl, List.eq_nil_of_length_eq_zero (by simpa using hl)⟩, h1⟩
  · exact ⟨_, cap, rfl, .inr ⟨g, 0, rfl, hl, fun j u hj => by rw [← cell_add]; exact h.cells (g := g) rfl j u hj⟩, h1⟩
section
variable {P : Program} {w : World}
theorem wpList_append_src {ops : Array Oper} {rest : List Oper} {o : Oper} {a : Act} {Q : Exit → Act → World → Prop} (hgd : o.guard = none) (s x : Operand) (t : TypeId)
    (ho : o.op = .call { callee := .builtin .append, args := #[s, x], argTypes := #[t, t] })
    (base : Nat) (e : TypeId) (i : TypeInfo) (z : Value) (size bytes : Nat) (ht : P.underlying t = some (.slice e)) (hi : P.info? e = some i) (hz : i.zero = some z)
    (hsize : i.size = size) (hby : i.bytes = bytes) (hzs : z.cells.size = size) (hsz : 0 < size)
    (v : Value) (n : Nat) (xs : List Value) (hs : a.eval s = v) (hown : w.ownsRow base e size v n xs)
    (u : Value) (m : Nat) (news : List Value) (hx : a.eval x = u) (hu : SrcAt w u m news size)
    (h63 : n + m ≤ maxLen) (hbytes : (n + m) * bytes ≤ 140737488355328) (hbase : base ≤ w.heap.size)
    (h : ∀ v' w', w'.ownsRow base e size v' (n + m) (xs ++ news) → w.grownBy w' v.ownBlock → wpList P ops Q rest (a.put o.dst v') w') : wpList P ops Q (o :: rest) a w := by
  obtain ⟨ad, c, rfl, h1, h2⟩ := hu
  rcases h1 with ⟨rfl, rfl, rfl, rfl⟩ | ⟨b, o, rfl, h3, h4⟩
  · exact wpList_append_own_none hgd s x t ho base e i size ht hi v n xs hs hown hx (h v w (by simpa using hown) ⟨rfl, rfl, rfl, Nat.le_refl _, fun _ _ _ => rfl⟩)
  · exact wpList_append_own w hgd s x t ho base e i z size bytes ht hi hz hsize hby hzs hsz v n xs hs hown ⟨b, o, none⟩ m c news hx h3 (fun j u hj => by rw [cell_add]; exact h4 j u hj) h2 h63 hbytes hbase fun v' w' h5 h6 _ => h v' w' h5 h6
end

theorem infoB : (Tryz.prog.info? 5).map (fun i => (i.zero, i.size, i.bytes)) = some (some (Value.int .u8 0), 1, 1) := by kernel_rfl
theorem zerosB (n : Nat) : (Builtin.zeroCells #[Value.int .u8 0] n).size = n * 1 := by simp [Builtin.zeroCells]
set_option maxRecDepth 100000 in
theorem growB (n : Nat) (z : Int) (hz : z = n) (h48 : n * 1 ≤ 140737488355328) (w : World) :
    Calls Tryz.prog 93 #[.slice none 0 0, .int .i64 z] w fun e w' => ∃ v, e = .returned v ∧ w'.ownsRow w.heap.size 5 1 v 0 [] ∧ Below w.heap.size w w' := by
  subst hz
  obtain ⟨i0, hi, hz0, hz1, hz2⟩ := info_parts infoB
  by_cases h0 : 0 < n
  · have hrun := fun (w : World) (ty : TypeId) => Lib.run_append_nil_zeros (P := Tryz.prog) w 25 3 ty 5 i0 (Value.int .u8 0) .i64 .i64 Tryz.underlying25 Tryz.underlying3 hi hz0 n h0 (by omega) (by omega) (by rw [hz2]; omega)
    go_enter Tryz.func93, Tryz.ntmps93
    go_wp2_with (at_builtin; refine Lib.wpList_append_run _ rfl _ _ _ _ rfl _ _ rfl rfl _ _ (hrun _ _) ?_)
    go_ret
    refine ⟨_, rfl, ?_, ((Below.refl _ _).alloc (Nat.le_refl _) _).drew⟩
    have h2 := grownCap_le_maxLen w n 0 5 (by unfold maxLen; omega)
    have h1 := grownCap_ge w n 0 5
    exact (World.ownsRow_made w _ _ (Nat.le_refl _) h2 (by rw [Array.size_append, zerosB, zerosB, ← Nat.add_mul]; congr 1; omega)).drew
  · have : n = 0 := by omega
    subst this
    go_enter Tryz.func93, Tryz.ntmps93
    go_wp2
    go_ret
    exact ⟨_, rfl, World.ownsRow_nil _ _ _ _, Below.refl _ _⟩
set_option maxRecDepth 100000 in
set_option maxHeartbeats 1000000 in
theorem concatB {w : World} {B n1 n2 : Nat} {s1 s2 : Value} {us1 us2 : List Value} (h0 : w.cell? ⟨B, 0, none⟩ = some s1) (h1 : w.cell? ⟨B, 1, none⟩ = some s2)
    (k1 : SrcAt w s1 n1 us1 1) (k2 : SrcAt w s2 n2 us2 1) (hb : (n1 + n2) * 1 ≤ 140737488355328) :
    Calls Tryz.prog 45 #[.slice (some ⟨B, 0, none⟩) 2 2] w fun e w' => ∃ v, e = .returned v ∧ w'.ownsRow w.heap.size 5 1 v (n1 + n2) (us1 ++ us2) ∧ Below w.heap.size w w' := by
  obtain ⟨i0, hi, hz0, hz1, hz2⟩ := info_parts infoB
  have hB : B < w.heap.size := low_of_cell h0
  obtain ⟨a1, c1, rfl, h1', h1''⟩ := k1
  have k1 : SrcAt w (.slice a1 n1 c1) n1 us1 1 := ⟨a1, c1, rfl, h1', h1''⟩
  obtain ⟨a2, c2, rfl, h2', h2''⟩ := k2
  have k2 : SrcAt w (.slice a2 n2 c2) n2 us2 1 := ⟨a2, c2, rfl, h2', h2''⟩
  clear h1' h1'' h2' h2''
  go_enter Tryz.func45, Tryz.ntmps45
  go_wp2
  refine wp_loop_rounds 3 ?_
  rw [rounds_succ]
  go_wp2
  rw [rounds_succ]
  go_wp2
  rw [rounds_succ]
  go_wp2_with (go_at_call 93; refine (growB (n1 + n2) _ (by omega) (by omega) _).mono ?_; rintro e W1 ⟨v0, rfl, hown0, hbl0⟩)
  have hc0 : W1.cell? ⟨B, 0, none⟩ = some (.slice a1 n1 c1) := (hbl0.cell (p := ⟨B, 0, none⟩) hB).trans h0
  have hc1 : W1.cell? ⟨B, 1, none⟩ = some (.slice a2 n2 c2) := (hbl0.cell (p := ⟨B, 1, none⟩) hB).trans h1
  have hz := hbl0.size
  have k1 := k1.below hbl0
  refine wp_loop_rounds 3 ?_
  rw [rounds_succ]
  go_wp2_with (at_builtin; refine wpList_append_src rfl _ _ 25 rfl w.heap.size 5 i0 _ 1 1 Tryz.underlying25 hi hz0 hz1 hz2 rfl (by decide) _ _ _ rfl hown0 _ _ _ rfl k1 (by unfold maxLen; omega) (by omega) hz ?_)
  intro v1 w1 hown1 hg1
  have hbl1 : Below w.heap.size w w1 := hbl0.grown hg1 hz (fun k hk => (hown0.lt k hk).1)
  have hc1' : w1.cell? ⟨B, 1, none⟩ = some (.slice a2 n2 c2) := (hbl1.cell (p := ⟨B, 1, none⟩) hB).trans h1
  have hz1' := hbl1.size
  have k2 := k2.below hbl1
  clear hbl0 hc0 hown0 hc1 hz hg1 k1 h0
  go_wp2
  rw [rounds_succ]
  go_wp2_with (at_builtin; refine wpList_append_src rfl _ _ 25 rfl w.heap.size 5 i0 _ 1 1 Tryz.underlying25 hi hz0 hz1 hz2 rfl (by decide) _ _ _ rfl hown1 _ _ _ rfl k2 (by unfold maxLen; omega) (by omega) hz1' ?_)
  intro v2 w2 hown2 hg2
  have hbl2 : Below w.heap.size w w2 := hbl1.grown hg2 hz1' (fun k hk => (hown1.lt k hk).1)
  clear hbl1 hc1' hz1' hg2 k2
  go_wp2
  rw [rounds_succ]
  go_wp2
  go_ret
  exact ⟨v2, rfl, by simpa using hown2, hbl2⟩

theorem infoI : (Tryz.prog.info? 24).map (fun i => (i.zero, i.size, i.bytes)) = some (some (Value.agg #[.int .i64 0, .int .i64 0, .int .i64 0, .int .i64 0, .int .i64 0, .int .i64 0, .int .u32 0]), 7, 56) := by kernel_rfl
theorem zerosI (n : Nat) : (Builtin.zeroCells #[.int .i64 0, .int .i64 0, .int .i64 0, .int .i64 0, .int .i64 0, .int .i64 0, .int .u32 0] n).size = n * 7 := by simp [Builtin.zeroCells]
set_option maxRecDepth 100000 in
theorem growI (n : Nat) (z : Int) (hz : z = n) (h48 : n * 56 ≤ 140737488355328) (w : World) :
    Calls Tryz.prog 94 #[.slice none 0 0, .int .i64 z] w fun e w' => ∃ v, e = .returned v ∧ w'.ownsRow w.heap.size 24 7 v 0 [] ∧ Below w.heap.size w w' := by
  subst hz
  obtain ⟨i0, hi, hz0, hz1, hz2⟩ := info_parts infoI
  by_cases h0 : 0 < n
  · have hrun := fun (w : World) (ty : TypeId) => Lib.run_append_nil_zeros (P := Tryz.prog) w 35 3 ty 24 i0 (Value.agg #[.int .i64 0, .int .i64 0, .int .i64 0, .int .i64 0, .int .i64 0, .int .i64 0, .int .u32 0]) .i64 .i64 Tryz.underlying35 Tryz.underlying3 hi hz0 n h0 (by omega) (by omega) (by rw [hz2]; omega)
    go_enter Tryz.func94, Tryz.ntmps94
    go_wp2_with (at_builtin; refine Lib.wpList_append_run _ rfl _ _ _ _ rfl _ _ rfl rfl _ _ (hrun _ _) ?_)
    go_ret
    refine ⟨_, rfl, ?_, ((Below.refl _ _).alloc (Nat.le_refl _) _).drew⟩
    have h2 := grownCap_le_maxLen w n 0 24 (by unfold maxLen; omega)
    have h1 := grownCap_ge w n 0 24
    exact (World.ownsRow_made w _ _ (Nat.le_refl _) h2 (by rw [Array.size_append, zerosI, zerosI, ← Nat.add_mul]; congr 1; omega)).drew
  · have : n = 0 := by omega
    subst this
    go_enter Tryz.func94, Tryz.ntmps94
    go_wp2
    go_ret
    exact ⟨_, rfl, World.ownsRow_nil _ _ _ _, Below.refl _ _⟩
set_option maxRecDepth 100000 in
set_option maxHeartbeats 1000000 in
theorem concatI {w : World} {B n1 n2 : Nat} {s1 s2 : Value} {us1 us2 : List Value} (h0 : w.cell? ⟨B, 0, none⟩ = some s1) (h1 : w.cell? ⟨B, 1, none⟩ = some s2)
    (k1 : SrcAt w s1 n1 us1 7) (k2 : SrcAt w s2 n2 us2 7) (hb : (n1 + n2) * 56 ≤ 140737488355328) :
    Calls Tryz.prog 46 #[.slice (some ⟨B, 0, none⟩) 2 2] w fun e w' => ∃ v, e = .returned v ∧ w'.ownsRow w.heap.size 24 7 v (n1 + n2) (us1 ++ us2) ∧ Below w.heap.size w w' := by
  obtain ⟨i0, hi, hz0, hz1, hz2⟩ := info_parts infoI
  have hB : B < w.heap.size := low_of_cell h0
  obtain ⟨a1, c1, rfl, h1', h1''⟩ := k1
  have k1 : SrcAt w (.slice a1 n1 c1) n1 us1 7 := ⟨a1, c1, rfl, h1', h1''⟩
  obtain ⟨a2, c2, rfl, h2', h2''⟩ := k2
  have k2 : SrcAt w (.slice a2 n2 c2) n2 us2 7 := ⟨a2, c2, rfl, h2', h2''⟩
  clear h1' h1'' h2' h2''
  go_enter Tryz.func46, Tryz.ntmps46
  go_wp2
  refine wp_loop_rounds 3 ?_
  rw [rounds_succ]
  go_wp2
  rw [rounds_succ]
  go_wp2
  rw [rounds_succ]
  go_wp2_with (go_at_call 94; refine (growI (n1 + n2) _ (by omega) (by omega) _).mono ?_; rintro e W1 ⟨v0, rfl, hown0, hbl0⟩)
  have hc0 : W1.cell? ⟨B, 0, none⟩ = some (.slice a1 n1 c1) := (hbl0.cell (p := ⟨B, 0, none⟩) hB).trans h0
  have hc1 : W1.cell? ⟨B, 1, none⟩ = some (.slice a2 n2 c2) := (hbl0.cell (p := ⟨B, 1, none⟩) hB).trans h1
  have hz := hbl0.size
  have k1 := k1.below hbl0
  refine wp_loop_rounds 3 ?_
  rw [rounds_succ]
  go_wp2_with (at_builtin; refine wpList_append_src rfl _ _ 35 rfl w.heap.size 24 i0 _ 7 56 Tryz.underlying35 hi hz0 hz1 hz2 rfl (by decide) _ _ _ rfl hown0 _ _ _ rfl k1 (by unfold maxLen; omega) (by omega) hz ?_)
  intro v1 w1 hown1 hg1
  have hbl1 : Below w.heap.size w w1 := hbl0.grown hg1 hz (fun k hk => (hown0.lt k hk).1)
  have hc1' : w1.cell? ⟨B, 1, none⟩ = some (.slice a2 n2 c2) := (hbl1.cell (p := ⟨B, 1, none⟩) hB).trans h1
  have hz1' := hbl1.size
  have k2 := k2.below hbl1
  clear hbl0 hc0 hown0 hc1 hz hg1 k1 h0
  go_wp2
  rw [rounds_succ]
  go_wp2_with (at_builtin; refine wpList_append_src rfl _ _ 35 rfl w.heap.size 24 i0 _ 7 56 Tryz.underlying35 hi hz0 hz1 hz2 rfl (by decide) _ _ _ rfl hown1 _ _ _ rfl k2 (by unfold maxLen; omega) (by omega) hz1' ?_)
  intro v2 w2 hown2 hg2
  have hbl2 : Below w.heap.size w w2 := hbl1.grown hg2 hz1' (fun k hk => (hown1.lt k hk).1)
  clear hbl1 hc1' hz1' hg2 k2
  go_wp2
  rw [rounds_succ]
  go_wp2
  go_ret
  exact ⟨v2, rfl, by simpa using hown2, hbl2⟩

theorem flat_get : ∀ {l : List I7} {k : Nat} {x : I7}, l[k]? = some x → (l.flatMap I7.cells)[k * 7]? = some (.int .i64 x.op) ∧ (l.flatMap I7.cells)[k * 7 + 1]? = some (.int .i64 x.a) ∧ (l.flatMap I7.cells)[k * 7 + 2]? = some (.int .i64 x.b) ∧
    (l.flatMap I7.cells)[k * 7 + 3]? = some (.int .i64 x.c) ∧ (l.flatMap I7.cells)[k * 7 + 4]? = some (.int .i64 x.d) ∧ (l.flatMap I7.cells)[k * 7 + 5]? = some (.int .i64 x.k) ∧ (l.flatMap I7.cells)[k * 7 + 6]? = some (.int .u32 x.i)
  | [], k, x, h => by simp at h
  | y :: l, 0, x, h => by
    have h : y = x := by simpa using h
    subst h
    simp [I7.cells]
  | y :: l, k + 1, x, h => by
    have h : l[k]? = some x := by simpa using h
    have ih := flat_get h
    have e : ∀ j, ((y :: l).flatMap I7.cells)[(k + 1) * 7 + j]? = (l.flatMap I7.cells)[k * 7 + j]? := fun j => by
      rw [List.flatMap_cons, List.getElem?_append_right (by simp [I7.cells]; omega)]
      congr 1
      simp [I7.cells]; omega
    have e0 := e 0
    rw [Nat.add_zero, Nat.add_zero] at e0
    rw [e0, e 1, e 2, e 3, e 4, e 5, e 6]
    exact ih
theorem flat_one (l : List I7) : ∀ u ∈ l.flatMap I7.cells, u.oneCell' = true := by
  intro u hu
  obtain ⟨x, _, hx⟩ := List.mem_flatMap.1 hu
  exact cells_one x u hx
/-- A slice of instructions. -/
def InsAt (w : World) (s : Value) (l : List I7) : Prop := SrcAt w s l.length (l.flatMap I7.cells) 7
theorem InsAt.cells {w : World} {b o c : Nat} {l : List I7} (h : InsAt w (.slice (some ⟨b, o, none⟩) l.length c) l) {k : Nat} {x : I7} (hx : l[k]? = some x) :
    w.cell? ⟨b, o + k * 7, none⟩ = some (.int .i64 x.op) ∧ w.cell? ⟨b, o + k * 7 + 1, none⟩ = some (.int .i64 x.a) ∧ w.cell? ⟨b, o + k * 7 + 2, none⟩ = some (.int .i64 x.b) ∧ w.cell? ⟨b, o + k * 7 + 3, none⟩ = some (.int .i64 x.c) ∧
    w.cell? ⟨b, o + k * 7 + 4, none⟩ = some (.int .i64 x.d) ∧ w.cell? ⟨b, o + k * 7 + 5, none⟩ = some (.int .i64 x.k) ∧ w.cell? ⟨b, o + k * 7 + 6, none⟩ = some (.int .u32 x.i) := by
  obtain ⟨a, c', e, h1, _⟩ := h
  cases e
  rcases h1 with ⟨h, _⟩ | ⟨b', o', h, _, h4⟩
  · cases h
  · cases h
    obtain ⟨g0, g1, g2, g3, g4, g5, g6⟩ := flat_get hx
    exact ⟨h4 _ _ g0, h4 _ _ g1, h4 _ _ g2, h4 _ _ g3, h4 _ _ g4, h4 _ _ g5, h4 _ _ g6⟩
set_option maxRecDepth 100000 in
set_option maxHeartbeats 1000000 in
theorem equal_insns {w : World} {s1 s2 : Value} {l : List I7} (hn : l.length ≤ 10000000) (h1 : InsAt w s1 l) (h2 : InsAt w s2 l) :
    Calls Tryz.prog 25 #[s1, s2] w fun e w' => e = .returned (.bool true) ∧ Below w.heap.size w w' := by
  obtain ⟨a1, c1, rfl, k1, j1⟩ := h1
  have h1 : InsAt w (.slice a1 l.length c1) l := ⟨a1, c1, rfl, k1, j1⟩
  obtain ⟨a2, c2, rfl, k2, j2⟩ := h2
  have h2 : InsAt w (.slice a2 l.length c2) l := ⟨a2, c2, rfl, k2, j2⟩
  clear j1 j2
  go_enter Tryz.func25, Tryz.ntmps25
  go_wp2
  go_loopw [13] (fun i wr => ∃ k : Nat, k ≤ l.length ∧ i = .int .i64 k ∧ Below w.heap.size w wr) (fun i _ => l.length - (intOf i).toNat)
  case atStart => exact ⟨0, Nat.zero_le _, rfl, Below.refl _ _⟩
  case round =>
    obtain ⟨k, hk, rfl, hbl⟩ := hrel
    by_cases hlt : k < l.length
    · obtain ⟨b1, o1, rfl⟩ : ∃ b o, a1 = some ⟨b, o, none⟩ := by
        rcases k1 with ⟨_, h, _⟩ | ⟨b, o, h, _⟩
        · omega
        · exact ⟨b, o, h⟩
      obtain ⟨b2, o2, rfl⟩ : ∃ b o, a2 = some ⟨b, o, none⟩ := by
        rcases k2 with ⟨_, h, _⟩ | ⟨b, o, h, _⟩
        · omega
        · exact ⟨b, o, h⟩
      have hB := hbl.size
      obtain ⟨⟨xo, xa, xb, xc, xd, xk, xi⟩, hx⟩ : ∃ x, l[k]? = some x := ⟨l[k], by simp [hlt]⟩
      obtain ⟨p0, p1, p2, p3, p4, p5, p6⟩ := InsAt.cells (SrcAt.below h1 hbl) hx
      obtain ⟨q0, q1, q2, q3, q4, q5, q6⟩ := InsAt.cells (SrcAt.below h2 hbl) hx
      dsimp only at p0 p1 p2 p3 p4 p5 p6 q0 q1 q2 q3 q4 q5 q6
      have hlt' : (k : Int) < (l.length : Int) := by omega
      clear hx k1 k2
      go_wp2
      go_quiet (fail)
      go_wp2
      go_roundw
      case rel => exact ⟨k + 1, by omega, by go_num, below_drewN hbl _⟩
      case measure => simp [intOf]; omega
    · have : k = l.length := by omega
      subst this
      go_wp2
      go_ret
      exact ⟨rfl, hbl⟩
end Go.Ev

