import Derived.Test.YtepopmplcjhfbaaGreatEvE
import Derived.Laws.StructEq
import Derived.Laws.Concat
import Derived.Lib.Strings
set_option linter.unusedSectionVars false
set_option linter.unusedVariables false
set_option linter.unusedSimpArgs false
set_option linter.unnecessarySimpa false
namespace Go.Ev
open Go.RowKit
variable [Unk]
theorem toNat_inj {a b : UInt8} (h : a.toNat = b.toNat) : a = b := UInt8.toNat_inj.1 h
theorem bytes_inj {a b : ByteArray} : a.data.toList.map UInt8.toNat = b.data.toList.map UInt8.toNat ↔ a.data.toList = b.data.toList :=
  ⟨fun h => (List.map_inj_right fun _ _ => toNat_inj).1 h, fun h => by rw [h]⟩
theorem lbeq_bytes (a b : ByteArray) : lbeq (a.data.toList.map UInt8.toNat) (b.data.toList.map UInt8.toNat) = (a.toList == b.toList) := by
  rw [lbeq_eq, ByteArray.toList_eq, ByteArray.toList_eq, Bool.eq_iff_iff]
  simp [bytes_inj]
theorem bless_bytes : ∀ a b : List UInt8, bless (a.map UInt8.toNat) (b.map UInt8.toNat) = Op.bytesLess a b
  | _, [] => by simp [bless, Op.bytesLess]
  | [], _ :: _ => by simp [bless, Op.bytesLess]
  | a :: x, b :: y => by
    simp only [List.map_cons, bless, Op.bytesLess]
    cases h : Nat.blt a.toNat b.toNat with
    | true =>
      have := blt_true h
      have h' : a < b := UInt8.lt_iff_toNat_lt.2 this
      rw [decide_eq_true h']; rfl
    | false =>
      have h' : ¬ a < b := by
        intro hl
        replace hl := UInt8.lt_iff_toNat_lt.1 hl
        have e : Nat.blt a.toNat b.toNat = true := Nat.ble_eq.mpr hl
        rw [e] at h; cases h
      rw [decide_eq_false h']
      cases h2 : Nat.beq a.toNat b.toNat with
      | true =>
        have := toNat_inj (beq_true h2); subst this
        simp [bless_bytes x y]
      | false =>
        have : a ≠ b := fun e => beq_false h2 (by rw [e])
        simp [this]
theorem size_bytes (s : ByteArray) : (s.data.toList.map UInt8.toNat).length = s.size := by rw [List.length_map, Array.length_toList]; rfl
theorem dropK_true : ∀ (n : Nat) {l : List AV} {k : List AV → Bool}, dropK n l k = true → n ≤ l.length ∧ k (l.drop n) = true
  | 0, _, _, h => ⟨Nat.zero_le _, h⟩
  | n + 1, [], _, h => by cases h
  | n + 1, _ :: l, k, h => by
    obtain ⟨h1, h2⟩ := dropK_true n h
    exact ⟨by simp; omega, h2⟩
theorem takeK_true : ∀ (n : Nat) {l : List AV} {k : List AV → Bool}, takeK n l k = true → n ≤ l.length ∧ k (l.take n) = true
  | 0, _, _, h => ⟨Nat.zero_le _, h⟩
  | n + 1, [], _, h => by cases h
  | n + 1, _ :: l, k, h => by
    obtain ⟨h1, h2⟩ := takeK_true n h
    exact ⟨by simp; omega, h2⟩
theorem partK_true {P : Program} {t : TypeId} {cs : List AV} {off : Nat} {k : AV → Bool} (h : partK P t cs off k = true) :
    ∃ v, k v = true ∧ ∀ {ρ ca w}, VRs ρ cs (Array.toList ca) → ∃ u, (part t ca off).run P w = .ok u w ∧ VR ρ v u := by
  obtain ⟨b, h, hagg⟩ := isAggK_true h
  cases b with
  | true =>
    simp only at h
    obtain ⟨i, _, h, hsz⟩ := sizeK_true h
    obtain ⟨h1, h⟩ := dropK_true _ h
    obtain ⟨h2, h⟩ := takeK_true _ h
    refine ⟨_, h, fun {ρ ca w} hc => ⟨.agg (ca.extract off (off + i.size)), by simp [part, hagg, hsz], .agg _ _ ?_⟩⟩
    have := (hc.drop off).take i.size
    simpa [List.extract_eq_take_drop] using this
  | false =>
    simp only at h
    obtain ⟨v, hv, h⟩ := opt_true h
    rw [nth_eq] at hv
    refine ⟨_, h, fun {ρ ca w} hc => ?_⟩
    obtain ⟨u, e1, e2⟩ := hc.get off v hv
    have e1' : ca[off]? = some u := by simpa using e1
    exact ⟨u, by simp [part, hagg, e1'], e2⟩
set_option maxHeartbeats 2000000 in
theorem eqS_true {P : Program} {t : TypeId} {a b : AV} {k : Bool → Bool} (h : eqS P t a b k = true) :
    ∃ r, k r = true ∧ ∀ {ρ u v d w}, VR ρ a u → VR ρ b v → (Op.equalIn (d + 1) t u v).run P w = .ok r w := by
  unfold eqS at h
  split at h
  · rename_i e
    split at h
    · split at h
      · rename_i x _ y
        refine ⟨x == y, ?_, fun {ρ u v d w} h1 h2 => by cases h1; cases h2; simp [Op.equalIn, run_underlying e]⟩
        cases x <;> cases y <;> exact h
      · cases h
    · cases h
  · rename_i kd e
    split at h
    · split at h
      · rename_i ka x _ kb y
        obtain ⟨hk, h9⟩ := guardB_true h
        clear h
        have := kbeq_true hk; subst this
        rw [fB_eq, ibeq_eq] at h9
        refine ⟨x == y, by simpa [BEq.beq] using h9, fun {ρ u v d w} h1 h2 => by cases h1; cases h2; simp [Op.equalIn, run_underlying e]⟩
      · rename_i ka x _ kb c1 l1 bs
        obtain ⟨hk, h9⟩ := guardB_true h
        clear h
        have := kbeq_true hk; subst this
        obtain ⟨r, h9, hr⟩ := Lin.cmpK_true Unk.s h9
        rw [fB_eq] at h9
        refine ⟨r, h9, fun {ρ u v d w} h1 h2 => ?_⟩
        cases h1
        cases h2 with
        | lin _ _ _ _ n hn hb =>
          have := hr hb
          simp only [Lin.Cmp.of, Lin.val, Int.add_zero, ← hn] at this
          simp [Op.equalIn, run_underlying e, BEq.beq, this]
      · cases h
    · rename_i ka c0 l bs
      split at h
      · rename_i kb b
        obtain ⟨hk, h9⟩ := guardB_true h
        clear h
        have := kbeq_true hk; subst this
        obtain ⟨r, h9, hr⟩ := Lin.cmpK_true Unk.s h9
        rw [fB_eq] at h9
        refine ⟨r, h9, fun {ρ u v d w} h1 h2 => ?_⟩
        cases h2
        cases h1 with
        | lin _ _ _ _ n hn hb =>
          have := hr hb
          simp only [Lin.Cmp.of, Lin.val, Int.add_zero, ← hn] at this
          simp [Op.equalIn, run_underlying e, BEq.beq, this]
      · rename_i kb c1 l1 bs1
        obtain ⟨hk, h9⟩ := guardB_true h
        clear h
        have := kbeq_true hk; subst this
        obtain ⟨r, h9, hr⟩ := Lin.cmpK_true Unk.s h9
        rw [fB_eq] at h9
        refine ⟨r, h9, fun {ρ u v d w} h1 h2 => ?_⟩
        cases h1 with
        | lin _ _ _ _ n hn hb =>
          cases h2 with
          | lin _ _ _ _ n' hn' hb' =>
            have := hr hb
            simp only [Lin.Cmp.of, ← hn, ← hn'] at this
            simp [Op.equalIn, run_underlying e, BEq.beq, this]
      · cases h
    · rename_i ka c l
      split at h
      · rename_i kb c' l'
        obtain ⟨hk, h9⟩ := guardB_true h
        obtain ⟨hc, h8⟩ := guardB_true h9
        obtain ⟨hl, h7⟩ := guardB_true h8
        clear h h9 h8
        have := kbeq_true hk; subst this
        have := beq_true hc; subst this
        rw [lbeq_eq] at hl
        have := of_decide_eq_true hl; subst this
        refine ⟨true, h7, fun {ρ u v d w} h1 h2 => ?_⟩
        cases h1 with
        | bts _ _ _ n hn =>
          cases h2 with
          | bts _ _ _ n' hn' =>
            subst hn hn'
            simp [Op.equalIn, run_underlying e]
      · cases h
    · cases h
  · rename_i e
    split at h
    · split at h
      · rename_i x _ y
        rw [fB_eq] at h
        refine ⟨_, h, fun {ρ u v d w} h1 h2 => ?_⟩
        cases h1 with
        | str _ s hs =>
          cases h2 with
          | str _ s' hs' =>
            subst hs hs'
            rw [lbeq_bytes, run_equalIn_string w d t s s' e]
      · cases h
    · cases h
  · rename_i el e
    split at h
    · split at h
      · exact ⟨_, h, fun {ρ u v d w} h1 h2 => by cases h1; cases h2; simp [Op.equalIn, run_underlying e]⟩
      · exact ⟨_, h, fun {ρ u v d w} h1 h2 => by cases h1; cases h2; simp [Op.equalIn, run_underlying e]⟩
      · cases h
    · split at h
      · exact ⟨_, h, fun {ρ u v d w} h1 h2 => by cases h1; cases h2; simp [Op.equalIn, run_underlying e]⟩
      · cases h
    · cases h
  · rename_i ms e
    split at h
    · split at h
      · exact ⟨_, h, fun {ρ u v d w} h1 h2 => by cases h1; cases h2; simp [Op.equalIn, run_underlying e]⟩
      · exact ⟨_, h, fun {ρ u v d w} h1 h2 => by cases h1; cases h2; simp [Op.equalIn, run_underlying e]⟩
      · cases h
    · split at h
      · exact ⟨_, h, fun {ρ u v d w} h1 h2 => by cases h1; cases h2; simp [Op.equalIn, run_underlying e]⟩
      · cases h
    · cases h
  · rename_i el e
    split at h
    · split at h
      · exact ⟨_, h, fun {ρ u v d w} h1 h2 => by cases h1; cases h2; simp [Op.equalIn, run_underlying e]⟩
      · exact ⟨_, h, fun {ρ u v d w} h1 h2 => by cases h1; cases h2 <;> simp [Op.equalIn, run_underlying e]⟩
      · cases h
    · split at h
      · exact ⟨_, h, fun {ρ u v d w} h1 h2 => by cases h1 <;> cases h2 <;> simp [Op.equalIn, run_underlying e]⟩
      · cases h
    · cases h
  · rename_i k1 e1 e
    split at h
    · split at h
      · exact ⟨_, h, fun {ρ u v d w} h1 h2 => by cases h1; cases h2; simp [Op.equalIn, run_underlying e]⟩
      · exact ⟨_, h, fun {ρ u v d w} h1 h2 => by cases h1; cases h2; simp [Op.equalIn, run_underlying e]⟩
      · cases h
    · split at h
      · exact ⟨_, h, fun {ρ u v d w} h1 h2 => by cases h1; cases h2; simp [Op.equalIn, run_underlying e]⟩
      · cases h
    · cases h
  · rename_i p1 r1 v1 e
    split at h
    · split at h
      · exact ⟨_, h, fun {ρ u v d w} h1 h2 => by cases h1; cases h2; simp [Op.equalIn, run_underlying e]⟩
      · exact ⟨_, h, fun {ρ u v d w} h1 h2 => by cases h1; cases h2; simp [Op.equalIn, run_underlying e]⟩
      · cases h
    · split at h
      · exact ⟨_, h, fun {ρ u v d w} h1 h2 => by cases h1; cases h2; simp [Op.equalIn, run_underlying e]⟩
      · cases h
    · cases h
  · cases h
theorem eqFields_true {P : Program} {xs ys : List AV} : ∀ {fs : List Field} {k : Bool → Bool}, eqFields P fs xs ys k = true →
    ∃ r, k r = true ∧ ∀ {ρ xa ya d w}, VRs ρ xs (Array.toList xa) → VRs ρ ys (Array.toList ya) → (Op.eqFields (d + 1) xa ya fs).run P w = .ok r w
  | [], k, h => ⟨true, h, fun _ _ => rfl⟩
  | g :: fs, k, h => by
    simp only [eqFields] at h
    obtain ⟨hn, h⟩ := guardB_true h
    have hne : g.name ≠ "_" := by
      intro e; rw [e] at hn; simp at hn
    obtain ⟨a, h, ha⟩ := partK_true h
    obtain ⟨b, h, hb⟩ := partK_true h
    obtain ⟨r, h, hr⟩ := eqS_true h
    cases r with
    | false =>
      refine ⟨false, h, fun {ρ xa ya d w} h1 h2 => ?_⟩
      obtain ⟨u, e1, r1⟩ := ha (w := w) h1
      obtain ⟨v, e2, r2⟩ := hb (w := w) h2
      simp [Op.eqFields, hne, e1, e2, hr r1 r2]
    | true =>
      obtain ⟨r', h, hr'⟩ := eqFields_true h
      refine ⟨r', h, fun {ρ xa ya d w} h1 h2 => ?_⟩
      obtain ⟨u, e1, r1⟩ := ha (w := w) h1
      obtain ⟨v, e2, r2⟩ := hb (w := w) h2
      simp [Op.eqFields, hne, e1, e2, hr r1 r2, hr' h1 h2]
def EqRun (P : Program) (c : Bool) (t : TypeId) (x y : AV) (r : Bool) : Prop :=
  ∀ {ρ u v w} (op : BinOp) (xo yo : Operand), (op = .eql ∨ op = .neq) → (c = true → ∃ q, yo = .const q) → VR ρ x u → VR ρ y v →
    (eqGuard op t xo yo u v).run P w = .ok () w ∧ (Op.equal t u v).run P w = .ok r w
theorem eqTop_true {P : Program} {c : Bool} {t : TypeId} {x y : AV} {k : Bool → Bool} (h : eqTop P c t x y k = true) : ∃ r, k r = true ∧ EqRun P c t x y r := by
  unfold eqTop at h
  split at h
  · rename_i xs
    split at h
    · rename_i ys
      split at h
      · rename_i fs e
        obtain ⟨hg, h⟩ := guardB_true h
        have hg : P.eqGuardType P.depth t = false := by revert hg; cases P.eqGuardType P.depth t <;> simp
        obtain ⟨hs, h⟩ := guardB_true h
        have hs : P.stoodInHeld t = false := by revert hs; cases P.stoodInHeld t <;> simp
        obtain ⟨r, h, hr⟩ := eqFields_true h
        refine ⟨r, h, fun {ρ u v w} op xo yo hop _ h1 h2 => ?_⟩
        cases h1 with
        | agg _ xa hx =>
          cases h2 with
          | agg _ ya hy =>
            have hf : P.fieldsOf t = fs := by simp [Program.fieldsOf, e]
            refine ⟨?_, ?_⟩
            · rcases hop with rfl | rfl <;> simp [eqGuard, hg]
            · have := run_equalIn_struct (P := P) w 9999 t xa ya (by rw [hf]; exact e) hs
              rw [hf] at this
              unfold Op.equal Op.maxDepth
              rw [this]
              exact hr (d := 9998) hx hy
      · cases h
    · cases h
  · split at h
    · obtain ⟨hc, h⟩ := guardB_true h
      obtain ⟨r, h, hr⟩ := eqS_true h
      refine ⟨r, h, fun {ρ u v w} op xo yo hop hcc h1 h2 => ?_⟩
      obtain ⟨q, rfl⟩ := hcc hc
      refine ⟨?_, hr (d := 9999) h1 h2⟩
      cases h1; cases h2
      rw [eqGuard_nil_constR]; rfl
    · rename_i hne
      obtain ⟨r, h, hr⟩ := eqS_true h
      refine ⟨r, h, fun {ρ u v w} op xo yo hop _ h1 h2 => ⟨?_, hr (d := 9999) h1 h2⟩⟩
      cases h1
      cases h2 <;> first
        | (exact absurd rfl hne)
        | (rcases hop with rfl | rfl <;> simp [eqGuard])
  · rename_i hne1 hne2
    obtain ⟨r, h, hr⟩ := eqS_true h
    refine ⟨r, h, fun {ρ u v w} op xo yo hop _ h1 h2 => ⟨?_, hr (d := 9999) h1 h2⟩⟩
    cases h1 <;> first
      | (exact absurd rfl (hne1 _))
      | (exact absurd rfl hne2)
      | (rcases hop with rfl | rfl <;> simp [eqGuard])
end Go.Ev

