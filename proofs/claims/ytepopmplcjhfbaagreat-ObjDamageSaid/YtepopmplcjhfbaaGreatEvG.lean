import Derived.Test.YtepopmplcjhfbaaGreatEvF
set_option linter.unusedSectionVars false
set_option linter.unusedVariables false
set_option linter.unusedSimpArgs false
set_option linter.unnecessarySimpa false
namespace Go.Ev
open Go.RowKit
variable [Unk]
section
variable {P : Program} {G : Nat → Nat → Option AV} {orc : Nat → Option Orc}
theorem shiftK_true {left : Bool} {kd : IntKind} {x y : Int} {k : Int → Bool} (h : shiftK left kd x y k = true) :
    ∃ r, k r = true ∧ ∀ yk w, (Op.shift (if left then .shl else .shr) kd x yk y).run P w = .ok (.int kd r) w := by
  obtain ⟨m, hm, h⟩ := opt_true h
  have := nonneg_some hm; subst this
  cases left with
  | true =>
    change awrapK kd (Int.mul x (Int.ofNat (2 ^ (min m kd.bits)))) k = true at h
    rw [awrapK_eq] at h
    refine ⟨_, h, fun yk w => ?_⟩
    have : ¬ ((m : Int) < 0) := by omega
    simp [Op.shift, this]
  | false =>
    change fI (x.fdiv (Int.ofNat (2 ^ (min m kd.bits)))) k = true at h
    rw [fI_eq] at h
    refine ⟨_, h, fun yk w => ?_⟩
    have : ¬ ((m : Int) < 0) := by omega
    simp [Op.shift, this]
theorem bits_land (kd : IntKind) (a b : Nat) : kd.wrap ((BitVec.ofInt kd.bits (a : Int) &&& BitVec.ofInt kd.bits (b : Int)).toNat : Nat) = kd.wrap ((a &&& b : Nat) : Int) := by
  have e : (BitVec.ofInt kd.bits (a : Int) &&& BitVec.ofInt kd.bits (b : Int)).toNat = (a &&& b) % 2 ^ kd.bits := by
    simp [BitVec.toNat_and, BitVec.ofInt_natCast, Nat.and_mod_two_pow]
  rw [e]
  unfold IntKind.wrap
  have : (((a &&& b) % 2 ^ kd.bits : Nat) : Int) % 2 ^ kd.bits = ((a &&& b : Nat) : Int) % 2 ^ kd.bits := by simp
  rw [this]
theorem bits_lor (kd : IntKind) (a b : Nat) : kd.wrap ((BitVec.ofInt kd.bits (a : Int) ||| BitVec.ofInt kd.bits (b : Int)).toNat : Nat) = kd.wrap ((a ||| b : Nat) : Int) := by
  have e : (BitVec.ofInt kd.bits (a : Int) ||| BitVec.ofInt kd.bits (b : Int)).toNat = (a ||| b) % 2 ^ kd.bits := by
    simp [BitVec.toNat_or, BitVec.ofInt_natCast, Nat.or_mod_two_pow]
  rw [e]
  unfold IntKind.wrap
  have : (((a ||| b) % 2 ^ kd.bits : Nat) : Int) % 2 ^ kd.bits = ((a ||| b : Nat) : Int) % 2 ^ kd.bits := by simp
  rw [this]
theorem bits_lxor (kd : IntKind) (a b : Nat) : kd.wrap ((BitVec.ofInt kd.bits (a : Int) ^^^ BitVec.ofInt kd.bits (b : Int)).toNat : Nat) = kd.wrap ((a ^^^ b : Nat) : Int) := by
  have e : (BitVec.ofInt kd.bits (a : Int) ^^^ BitVec.ofInt kd.bits (b : Int)).toNat = (a ^^^ b) % 2 ^ kd.bits := by
    simp [BitVec.toNat_xor, BitVec.ofInt_natCast, Nat.xor_mod_two_pow]
  rw [e]
  unfold IntKind.wrap
  have : (((a ^^^ b) % 2 ^ kd.bits : Nat) : Int) % 2 ^ kd.bits = ((a ^^^ b : Nat) : Int) % 2 ^ kd.bits := by simp
  rw [this]
def BinRun (P : Program) (c : Bool) (op : BinOp) (t : TypeId) (x y r : AV) : Prop :=
  ∀ {ρ u v w} (xo yo : Operand), (c = true → ∃ q, yo = .const q) → VR ρ x u → VR ρ y v →
    ∃ q, (do eqGuard op t xo yo u v; binOp op t u v : Sem Value).run P w = .ok q w ∧ VR ρ r q
theorem BinRun.int {c : Bool} {op : BinOp} {t : TypeId} {ka kb : IntKind} {a b : Int} {r : AV} {q : Value} (hq : ∀ ρ, VR ρ r q) (h : ∀ w, (binOp op t (.int ka a) (.int kb b)).run P w = .ok q w) :
    BinRun P c op t (.int ka a) (.int kb b) r := fun {ρ u v w} xo yo _ h1 h2 => by
  cases h1; cases h2
  exact ⟨q, by rw [eqGuard_at_int]; simp [h], hq ρ⟩
theorem binOp_eql_other {t : TypeId} {u v : Value} (h1 : ∀ k n, u ≠ .int k n) (h2 : ∀ s, u ≠ .string s) (h3 : ∀ k n, u ≠ .float k n) (h4 : ∀ k n m, u ≠ .complex k n m) :
    (binOp .eql t u v = do pure (.bool (← Op.equal t u v))) ∧ (binOp .neq t u v = do pure (.bool (!(← Op.equal t u v)))) := by
  cases u <;> first
    | (exact absurd rfl (h1 _ _)) | (exact absurd rfl (h2 _)) | (exact absurd rfl (h3 _ _)) | (exact absurd rfl (h4 _ _ _))
    | (cases v <;> exact ⟨rfl, rfl⟩)
theorem linK_true {kd : IntKind} {p : Int × List Int} {bs : List (Int × Int)} {k : AV → Bool} (h : linK kd p bs k = true) :
    ∃ r, k r = true ∧ ∀ (ρ : Rho) (n : Int), n = p.1 + Lin.val Unk.s p.2 0 → Lin.Within Unk.s bs 0 → VR ρ r (.int kd n) := by
  obtain ⟨c, l⟩ := p
  unfold linK at h
  simp only [fI_eq, fIs_eq] at h
  split at h
  · cases h
  · rename_i a b hs
    split at h
    · rename_i e
      rw [ibeq_eq] at e
      have e := of_decide_eq_true e
      refine ⟨_, h, fun ρ n hn hw => ?_⟩
      have := Lin.span_true (i := 0) hs hw
      have : n = Int.add c a := by
        show n = c + a
        simp only at hn
        omega
      rw [this]
      exact .int _ _
    · exact ⟨_, h, fun ρ n hn hw => .lin _ _ _ _ _ hn hw⟩
theorem orAny_true {c0 c1 : Int} {l l1 : List Int} {bs : List (Int × Int)} : ∀ {ks : List Nat}, orAny c0 l c1 l1 bs ks = true → ∃ k, Lin.orF k c0 l c1 l1 bs = true
  | [], h => by cases h
  | k :: ks, h => by
    unfold orAny at h
    split at h
    · rename_i e; exact ⟨k, e⟩
    · exact orAny_true h
def ArithRun (P : Program) (op : BinOp) (t : TypeId) (kd : IntKind) (a b : Int) (n : Int) : Prop := ∀ w, (binOp op t (.int kd a) (.int kd b)).run P w = .ok (.int kd n) w
theorem linA_true {op : BinOp} {t : TypeId} {kd : IntKind} {c0 c1 : Int} {l l1 : List Int} {bs : List (Int × Int)} {p : Int × List Int} (h : linA op kd c0 l c1 l1 bs = some p)
    {a b : Int} (ha : a = c0 + Lin.val Unk.s l 0) (hb : b = c1 + Lin.val Unk.s l1 0) (hw : Lin.Within Unk.s bs 0) : ArithRun P op t kd a b (p.1 + Lin.val Unk.s p.2 0) := by
  unfold linA at h
  intro w
  split at h
  · rw [← Lin.wrapF_true h hw, Lin.val_add]
    rw [binOp_add]
    have : a + b = c0 + c1 + (Lin.val Unk.s l 0 + Lin.val Unk.s l1 0) := by omega
    rw [← this]; rfl
  · rw [← Lin.wrapF_true h hw, Lin.val_sub]
    rw [binOp_sub]
    have : a - b = c0 - c1 + (Lin.val Unk.s l 0 - Lin.val Unk.s l1 0) := by omega
    rw [← this]; rfl
  · split at h
    · rw [← Lin.wrapF_true h hw, Lin.val_smul]
      rw [binOp_mul]
      have : a * b = c1 * c0 + c1 * Lin.val Unk.s l 0 := by rw [ha, hb]; simp only [Lin.val, Int.add_zero]; rw [Int.mul_comm, Int.mul_add]
      rw [← this]; rfl
    · split at h
      · rw [← Lin.wrapF_true h hw, Lin.val_smul]
        rename_i x xs _
        rw [binOp_mul]
        have : a * b = c0 * c1 + c0 * Lin.val Unk.s (x :: xs) 0 := by
          rw [ha, hb]
          generalize Lin.val Unk.s (x :: xs) 0 = z
          simp only [Lin.val, Int.add_zero]; rw [Int.mul_add]
        rw [← this]; rfl
      · cases h
  · split at h
    · split at h
      · rename_i hd
        obtain ⟨h1, h2, h3, h4⟩ := Lin.divF_true hd hw
        rw [← Lin.wrapF_true h hw, ← h4]
        have hb : b = c1 := by simp [hb, Lin.val]
        subst hb
        rw [← ha]
        have hz : ¬ b = 0 := by omega
        simp [binOp, Op.intDiv, hz, Int.tdiv_eq_ediv_of_nonneg (show 0 ≤ a by omega)]
      · cases h
    · cases h
  · split at h
    · split at h
      · rename_i hd
        obtain ⟨h1, h2, h3, h4⟩ := Lin.divF_true hd hw
        cases h
        have hb : b = c1 := by simp [hb, Lin.val]
        subst hb
        rw [← h3, ← ha]
        have hz : ¬ b = 0 := by omega
        simp [binOp, Op.intDiv, hz, Int.tmod_eq_emod_of_nonneg (show 0 ≤ a by omega)]
      · cases h
    · cases h
  · split at h
    · split at h
      · rename_i hp
        split at h
        · rename_i hd
          obtain ⟨h1, h2, h3, h4⟩ := Lin.divF_true hd hw
          obtain ⟨k, hk⟩ := Lin.isPow_true hp
          rw [← Lin.wrapF_true h hw, ← h3]
          have hb : b = c1 := by simp [hb, Lin.val]
          subst hb
          rw [← ha]
          obtain ⟨x, hx⟩ : ∃ x : Nat, (x : Int) = a := ⟨a.toNat, by omega⟩
          have hpos : 0 < 2 ^ k := Nat.two_pow_pos k
          obtain ⟨y, hy⟩ : ∃ y : Nat, (y : Int) = b := ⟨2 ^ k - 1, by omega⟩
          have hy' : y = 2 ^ k - 1 := by omega
          have e : ((x &&& y : Nat) : Int) = a % (b + 1) := by
            rw [hk, hy', Nat.and_two_pow_sub_one_eq_mod, ← hx]
            simp
          rw [← e, ← hx, ← hy]
          simp [binOp, Op.intBits]
          exact bits_land kd x y
        · cases h
      · cases h
    · cases h
  · split at h
    · rename_i ho
      obtain ⟨k, hk⟩ := orAny_true ho
      obtain ⟨x, y, hx, hy, e⟩ := Lin.orF_true hk hw
      rw [← Lin.wrapF_true h hw, ← e, ha, hb, ← hx, ← hy]
      simp [binOp, Op.intBits]
      exact bits_lor kd x y
    · split at h
      · rename_i ho
        obtain ⟨k, hk⟩ := orAny_true ho
        obtain ⟨x, y, hx, hy, e⟩ := Lin.orF_true hk hw
        rw [← Lin.wrapF_true h hw, ← e, ha, hb, ← hx, ← hy, Nat.or_comm]
        simp [binOp, Op.intBits]
        exact bits_lor kd y x
      · cases h
  · cases h
theorem linSh_true {left : Bool} {kd : IntKind} {c0 : Int} {l : List Int} {y : Nat} {bs : List (Int × Int)} {p : Int × List Int} (h : linSh left kd c0 l y bs = some p)
    {a : Int} (ha : a = c0 + Lin.val Unk.s l 0) (hw : Lin.Within Unk.s bs 0) : ∀ yk w, (Op.shift (if left then .shl else .shr) kd a yk (y : Int)).run P w = .ok (.int kd (p.1 + Lin.val Unk.s p.2 0)) w := by
  unfold linSh at h
  intro yk w
  have hn : ¬ ((y : Int) < 0) := by omega
  split at h
  · rw [← Lin.wrapF_true h hw, Lin.val_smul]
    simp [Op.shift, hn]
    have : a * 2 ^ (min y kd.bits) = 2 ^ (min y kd.bits) * c0 + 2 ^ (min y kd.bits) * Lin.val Unk.s l 0 := by rw [ha, Int.mul_comm, Int.mul_add]
    rw [this]
  · split at h
    · rename_i hm
      obtain ⟨h1, h2, h3⟩ := Lin.modF_true hm hw
      cases h
      rw [← h3, ← ha]
      have e : a.fdiv (2 ^ (min y kd.bits)) = a / Int.ofNat (2 ^ (min y kd.bits)) := by
        rw [Int.fdiv_eq_ediv_of_nonneg]
        · simp
        · have := h1; simp at this ⊢; omega
      simp [Op.shift, hn]
      simpa using e
    · cases h
theorem linC_true {op : BinOp} {t : TypeId} {kd : IntKind} {c : Lin.Cmp} {s : Bool} (h : linC op = some (c, s)) (a b : Int) (w : World) :
    (binOp op t (.int kd a) (.int kd b)).run P w = .ok (.bool (match s with | true => c.of a b | false => !c.of a b)) w := by
  unfold linC at h
  split at h <;> cases h <;> simp [binOp, Op.intCmp, Lin.Cmp.of, BEq.beq, bne]
  all_goals (rw [Bool.eq_iff_iff]; simp)
theorem zeroL_true : ∀ {l : List Int} (i : Nat), zeroL l = true → Lin.val Unk.s l i = 0
  | [], _, _ => rfl
  | c :: l, i, h => by
    unfold zeroL at h
    split at h
    · rename_i e
      rw [ibeq_eq] at e
      have e : c = 0 := of_decide_eq_true e
      subst e
      simp only [Lin.val, zeroL_true (i + 1) h]
      omega
    · cases h
theorem unitL_true : ∀ {l : List Int} {i j : Nat}, unitL l i = some j → Lin.val Unk.s l i = Unk.s j
  | [], _, _, h => by cases h
  | c :: l, i, j, h => by
    unfold unitL at h
    split at h
    · rename_i e
      rw [ibeq_eq] at e
      have e : c = 0 := of_decide_eq_true e
      subst e
      simp only [Lin.val, unitL_true h]
      omega
    · split at h
      · rename_i e
        rw [ibeq_eq] at e
        have e : c = 1 := of_decide_eq_true e
        subst e
        split at h
        · rename_i hz
          cases h
          simp only [Lin.val, zeroL_true (i + 1) hz]
          omega
        · cases h
      · cases h
theorem ofInt_wrap (kd : IntKind) (x : BitVec kd.bits) : BitVec.ofInt kd.bits (kd.wrap (x.toNat : Int)) = x := by
  have hx := x.isLt
  apply BitVec.eq_of_toNat_eq
  rw [BitVec.toNat_ofInt]
  generalize x.toNat = n at *
  unfold IntKind.wrap
  cases kd <;> simp only [IntKind.bits, IntKind.signed] at * <;> simp <;> (try split) <;> omega
theorem wrap_ofInt (kd : IntKind) (n : Int) : kd.wrap ((BitVec.ofInt kd.bits n).toNat : Int) = kd.wrap n := by
  rw [BitVec.toNat_ofInt]
  unfold IntKind.wrap
  cases kd <;> simp only [IntKind.bits, IntKind.signed] at * <;> simp <;> (try (split <;> split)) <;> omega
theorem shlB_true {kd : IntKind} {c0 c1 : Int} {l l1 : List Int} {bs : List (Int × Int)} {i : Nat} (h : shlB kd c0 l c1 l1 bs = some i) {a b : Int} (ha : a = c0 + Lin.val Unk.s l 0) (hb : b = c1 + Lin.val Unk.s l1 0) (hw : Lin.Within Unk.s bs 0) :
    ∀ yk w, (Op.shift .shl kd a yk b).run P w = .ok (.int kd (kd.wrap ((btsV Unk.s kd.bits 0 [i]).toNat : Int))) w := by
  unfold shlB at h
  intro yk w
  split at h
  · cases h
  · split at h
    · cases h
    · rename_i h0
      split at h
      · cases h
      · rename_i h1
        split at h
        · cases h
        · rename_i x y hs
          split at h
          · cases h
          · rename_i hx
            split at h
            · cases h
            · rename_i hy
              rw [ibeq_eq] at h0 h1
              rw [ile_eq] at hx hy
              have h0 : c0 = 1 := of_decide_eq_true h0
              have h1 : c1 = 0 := of_decide_eq_true h1
              have hx : 0 ≤ x := of_decide_eq_true hx
              have hy : y ≤ (kd.bits : Int) := of_decide_eq_true hy
              have hsp := Lin.span_true (i := 0) hs hw
              have hu := unitL_true h
              subst h0 h1
              have hb : b = Unk.s i := by omega
              have ha : a = 1 := by simp [ha, Lin.val]
              subst ha hb
              have hn : ¬ (Unk.s i < 0) := by omega
              have hm : min (Unk.s i).toNat kd.bits = (Unk.s i).toNat := by omega
              have e : btsV Unk.s kd.bits 0 [i] = BitVec.ofInt kd.bits (2 ^ (Unk.s i).toNat) := by simp [btsV]
              rw [e, wrap_ofInt]
              simp [Op.shift, hn, hm]
theorem binL_true {op : BinOp} {t : TypeId} {kd kd' : IntKind} {c0 c1 : Int} {l l1 : List Int} {bs : List (Int × Int)} {k : AV → Bool} (h : binL op kd c0 l kd' c1 l1 bs k = true) :
    ∃ r, k r = true ∧ ∀ (ρ : Rho) (a b : Int) (w : World), a = c0 + Lin.val Unk.s l 0 → b = c1 + Lin.val Unk.s l1 0 → Lin.Within Unk.s bs 0 → ∃ u, (binOp op t (.int kd a) (.int kd' b)).run P w = .ok u w ∧ VR ρ r u := by
  unfold binL at h
  split at h
  · split at h
    · obtain ⟨y, hy, h1⟩ := opt_true h
      have := nonneg_some hy; subst this
      obtain ⟨p, hp, h2⟩ := opt_true h1
      obtain ⟨r, h3, hr⟩ := linK_true h2
      refine ⟨r, h3, fun ρ a b w ha hb hw => ⟨_, ?_, hr ρ _ rfl hw⟩⟩
      have hb : b = (y : Int) := by simp [hb, Lin.val]
      subst hb
      simpa [binOp] using linSh_true (P := P) hp ha hw kd' w
    · obtain ⟨i, hi, h1⟩ := opt_true h
      rw [fN_eq] at h1
      refine ⟨_, h1, fun ρ a b w ha hb hw => ⟨_, ?_, .bts _ _ _ _ rfl⟩⟩
      simpa [binOp] using shlB_true (P := P) hi ha hb hw kd' w
  · split at h
    · obtain ⟨y, hy, h1⟩ := opt_true h
      have := nonneg_some hy; subst this
      obtain ⟨p, hp, h2⟩ := opt_true h1
      obtain ⟨r, h3, hr⟩ := linK_true h2
      refine ⟨r, h3, fun ρ a b w ha hb hw => ⟨_, ?_, hr ρ _ rfl hw⟩⟩
      have hb : b = (y : Int) := by simp [hb, Lin.val]
      subst hb
      simpa [binOp] using linSh_true (P := P) hp ha hw kd' w
    · cases h
  · obtain ⟨hk, h9⟩ := guardB_true h
    clear h
    have hk := kbeq_true hk
    subst hk
    split at h9
    · rename_i c s hc
      obtain ⟨r, h, hr⟩ := Lin.cmpK_true Unk.s h9
      split at h
      · rw [fB_eq] at h
        refine ⟨_, h, fun ρ a b w ha hb hw => ⟨_, linC_true hc a b w, ?_⟩⟩
        have := hr hw
        rw [← ha, ← hb] at this
        simp only [this]; exact .bool _
      · rw [fB_eq, nb_eq] at h
        refine ⟨_, h, fun ρ a b w ha hb hw => ⟨_, linC_true hc a b w, ?_⟩⟩
        have := hr hw
        rw [← ha, ← hb] at this
        simp only [this]; exact .bool _
    · obtain ⟨p, hp, h⟩ := opt_true h9
      obtain ⟨r, h, hr⟩ := linK_true h
      exact ⟨r, h, fun ρ a b w ha hb hw => ⟨_, linA_true (P := P) hp ha hb hw w, hr ρ _ rfl hw⟩⟩
theorem binOp_or {t : TypeId} {kd : IntKind} (a b : Int) (w : World) : (binOp .or t (.int kd a) (.int kd b)).run P w = .ok (.int kd (kd.wrap ((BitVec.ofInt kd.bits a ||| BitVec.ofInt kd.bits b).toNat : Int))) w := by
  simp only [binOp, Op.intBits]; rw [if_neg (fun h => h rfl)]; rfl
theorem btsV_ins (s : Nat → Int) (w c i : Nat) : ∀ l : List Nat, btsV s w c (insN i l) = BitVec.ofInt w (2 ^ (s i).toNat) ||| btsV s w c l
  | [] => rfl
  | j :: l => by
    unfold insN
    split
    · rename_i e
      have := beq_true e; subst this
      simp only [btsV, List.foldr_cons]
      rw [← BitVec.or_assoc, BitVec.or_self]
    · split
      · rfl
      · have ih := btsV_ins s w c i l
        simp only [btsV, List.foldr_cons] at *
        rw [ih, ← BitVec.or_assoc, ← BitVec.or_assoc, BitVec.or_comm (BitVec.ofInt w (2 ^ (s j).toNat))]
theorem btsV_c (s : Nat → Int) (w c : Nat) : ∀ l : List Nat, btsV s w c l = BitVec.ofInt w (c : Int) ||| btsV s w 0 l
  | [] => by simp [btsV]
  | j :: l => by
    have ih := btsV_c s w c l
    simp only [btsV, List.foldr_cons] at *
    rw [ih, ← BitVec.or_assoc, ← BitVec.or_assoc, BitVec.or_comm (BitVec.ofInt w (2 ^ (s j).toNat))]
theorem btsV_un (s : Nat → Int) (w c : Nat) (l' : List Nat) : ∀ l : List Nat, btsV s w c (unN l l') = btsV s w 0 l ||| btsV s w c l'
  | [] => by simp [unN, btsV]
  | i :: l => by
    have ih := btsV_un s w c l' l
    simp only [unN]
    rw [btsV_ins, ih]
    simp only [btsV, List.foldr_cons]
    rw [BitVec.or_assoc]
theorem ofInt_lor (w a b : Nat) : BitVec.ofInt w ((a : Int)) ||| BitVec.ofInt w (b : Int) = BitVec.ofInt w ((Nat.lor a b : Nat) : Int) := by
  rw [BitVec.ofInt_natCast, BitVec.ofInt_natCast, BitVec.ofInt_natCast]
  apply BitVec.eq_of_toNat_eq
  rw [BitVec.toNat_or, BitVec.toNat_ofNat, BitVec.toNat_ofNat, BitVec.toNat_ofNat]
  show _ = (a ||| b) % 2 ^ w
  rw [Nat.or_mod_two_pow]
theorem btsV_or (s : Nat → Int) (w c c' : Nat) (l l' : List Nat) : btsV s w c l ||| btsV s w c' l' = btsV s w (Nat.lor c c') (unN l l') := by
  rw [btsV_un, btsV_c s w c l, btsV_c s w c' l', btsV_c s w (Nat.lor c c') l', ← ofInt_lor]
  ac_rfl
theorem binK_true {c : Bool} {op : BinOp} {t : TypeId} {x y : AV} {k : AV → Bool} (h : binK P c op t x y k = true) : ∃ r, k r = true ∧ BinRun P c op t x y r := by
  unfold binK at h
  split at h
  · rename_i kd a kd' b
    split at h
    · obtain ⟨r, h, hr⟩ := shiftK_true (P := P) h
      exact ⟨_, h, BinRun.int (fun ρ => .int kd r) fun w => by simpa [binOp] using hr kd' w⟩
    · obtain ⟨r, h, hr⟩ := shiftK_true (P := P) h
      exact ⟨_, h, BinRun.int (fun ρ => .int kd r) fun w => by simpa [binOp] using hr kd' w⟩
    · obtain ⟨hk, h9⟩ := guardB_true h
      clear h
      have := kbeq_true hk; subst this
      split at h9
      · rw [awrapK_eq] at h9
        exact ⟨_, h9, BinRun.int (fun ρ => .int kd _) fun w => by rw [binOp_add]; rfl⟩
      · rw [awrapK_eq] at h9
        exact ⟨_, h9, BinRun.int (fun ρ => .int kd _) fun w => by rw [binOp_sub]; rfl⟩
      · rw [awrapK_eq] at h9
        exact ⟨_, h9, BinRun.int (fun ρ => .int kd _) fun w => by rw [binOp_mul]; rfl⟩
      · obtain ⟨hz, h8⟩ := guardB_true h9
        clear h9
        have hz := nb_true hz
        rw [ibeq_eq] at hz
        have hz : ¬ b = 0 := by simpa using hz
        rw [awrapK_eq] at h8
        exact ⟨_, h8, BinRun.int (fun ρ => .int kd _) fun w => by simp [binOp, Op.intDiv, hz]⟩
      · obtain ⟨hz, h8⟩ := guardB_true h9
        clear h9
        have hz := nb_true hz
        rw [ibeq_eq] at hz
        have hz : ¬ b = 0 := by simpa using hz
        rw [fI_eq] at h8
        exact ⟨_, h8, BinRun.int (fun ρ => .int kd _) fun w => by simp [binOp, Op.intDiv, hz]⟩
      · obtain ⟨m, hm, h8⟩ := opt_true h9
        obtain ⟨n, hn, h7⟩ := opt_true h8
        clear h8 h9
        have := nonneg_some hm; subst this
        have := nonneg_some hn; subst this
        rw [awrapK_eq] at h7
        exact ⟨_, h7, BinRun.int (fun ρ => .int kd _) fun w => by simp [binOp, Op.intBits]; exact bits_land kd m n⟩
      · obtain ⟨m, hm, h8⟩ := opt_true h9
        obtain ⟨n, hn, h7⟩ := opt_true h8
        clear h8 h9
        have := nonneg_some hm; subst this
        have := nonneg_some hn; subst this
        rw [awrapK_eq] at h7
        exact ⟨_, h7, BinRun.int (fun ρ => .int kd _) fun w => by simp [binOp, Op.intBits]; exact bits_lor kd m n⟩
      · obtain ⟨m, hm, h8⟩ := opt_true h9
        obtain ⟨n, hn, h7⟩ := opt_true h8
        clear h8 h9
        have := nonneg_some hm; subst this
        have := nonneg_some hn; subst this
        rw [awrapK_eq] at h7
        exact ⟨_, h7, BinRun.int (fun ρ => .int kd _) fun w => by simp [binOp, Op.intBits]; exact bits_lxor kd m n⟩
      · rw [fB_eq, ibeq_eq] at h9
        exact ⟨_, h9, BinRun.int (fun ρ => .bool _) fun w => by simp [binOp, Op.intCmp]; rfl⟩
      · rw [fB_eq, nb_eq, ibeq_eq] at h9
        exact ⟨_, h9, BinRun.int (fun ρ => .bool _) fun w => by simp [binOp, Op.intCmp, bne]; rfl⟩
      · rw [fB_eq, nb_eq, ile_eq] at h9
        exact ⟨_, h9, BinRun.int (fun ρ => .bool _) fun w => by simp [binOp, Op.intCmp]; rw [Bool.eq_iff_iff]; simp⟩
      · rw [fB_eq, ile_eq] at h9
        exact ⟨_, h9, BinRun.int (fun ρ => .bool _) fun w => by simp [binOp, Op.intCmp]⟩
      · rw [fB_eq, nb_eq, ile_eq] at h9
        exact ⟨_, h9, BinRun.int (fun ρ => .bool _) fun w => by simp [binOp, Op.intCmp]; rw [Bool.eq_iff_iff]; simp⟩
      · rw [fB_eq, ile_eq] at h9
        exact ⟨_, h9, BinRun.int (fun ρ => .bool _) fun w => by simp [binOp, Op.intCmp]⟩
      · cases h9
  · rename_i kd c0 l bs
    split at h
    · rename_i kd' b
      obtain ⟨r, h9, hr⟩ := binL_true (P := P) (t := t) h
      refine ⟨r, h9, fun {ρ u v w} xo yo _ h1 h2 => ?_⟩
      cases h1 with
      | lin _ _ _ _ n hn hb =>
        cases h2
        obtain ⟨q, e1, e2⟩ := hr ρ n b w hn (by simp [Lin.val]) hb
        exact ⟨q, by rw [eqGuard_at_int]; simp [e1], e2⟩
    · rename_i kd' c1 l1 bs1
      obtain ⟨r, h9, hr⟩ := binL_true (P := P) (t := t) h
      refine ⟨r, h9, fun {ρ u v w} xo yo _ h1 h2 => ?_⟩
      cases h1 with
      | lin _ _ _ _ n hn hb =>
        cases h2 with
        | lin _ _ _ _ n' hn' hb' =>
          obtain ⟨q, e1, e2⟩ := hr ρ n n' w hn hn' hb
          exact ⟨q, by rw [eqGuard_at_int]; simp [e1], e2⟩
    · cases h
  · rename_i kd' c1 l1 bs _
    split at h
    · rename_i kd a _
      obtain ⟨r, h9, hr⟩ := binL_true (P := P) (t := t) h
      refine ⟨r, h9, fun {ρ u v w} xo yo _ h1 h2 => ?_⟩
      cases h1
      cases h2 with
      | lin _ _ _ _ n hn hb =>
        obtain ⟨q, e1, e2⟩ := hr ρ a n w (by simp [Lin.val]) hn hb
        exact ⟨q, by rw [eqGuard_at_int]; simp [e1], e2⟩
    · cases h
  · rename_i kd c l _
    split at h
    · split at h
      · rename_i kd' c' l' _
        obtain ⟨hk, h9⟩ := guardB_true h
        have hk := kbeq_true hk; subst hk
        rw [fN_eq, fL_eq] at h9
        refine ⟨_, h9, fun {ρ u v w} xo yo _ h1 h2 => ?_⟩
        cases h1 with
        | bts _ _ _ n hn =>
          cases h2 with
          | bts _ _ _ n' hn' =>
            subst hn hn'
            refine ⟨_, by rw [eqGuard_at_int]; rw [Sem.run_bind]; exact binOp_or _ _ w, .bts _ _ _ _ ?_⟩
            rw [ofInt_wrap, ofInt_wrap, btsV_or]
      · rename_i kd' b
        obtain ⟨hk, h9⟩ := guardB_true h
        have hk := kbeq_true hk; subst hk
        obtain ⟨m, hm, h8⟩ := opt_true h9
        have := nonneg_some hm; subst this
        rw [fN_eq] at h8
        refine ⟨_, h8, fun {ρ u v w} xo yo _ h1 h2 => ?_⟩
        cases h1 with
        | bts _ _ _ n hn =>
          cases h2
          subst hn
          refine ⟨_, by rw [eqGuard_at_int]; rw [Sem.run_bind]; exact binOp_or _ _ w, .bts _ _ _ _ ?_⟩
          rw [ofInt_wrap, btsV_c, btsV_c _ _ (Nat.lor c m), ← ofInt_lor]
          ac_rfl
      · cases h
    · cases h
  · rename_i kd c l _ _
    split at h
    · split at h
      · rename_i kd' a _ _ _
        obtain ⟨hk, h9⟩ := guardB_true h
        have hk := kbeq_true hk; subst hk
        obtain ⟨m, hm, h8⟩ := opt_true h9
        have := nonneg_some hm; subst this
        rw [fN_eq] at h8
        refine ⟨_, h8, fun {ρ u v w} xo yo _ h1 h2 => ?_⟩
        cases h2 with
        | bts _ _ _ n hn =>
          cases h1
          subst hn
          refine ⟨_, by rw [eqGuard_at_int]; rw [Sem.run_bind]; exact binOp_or _ _ w, .bts _ _ _ _ ?_⟩
          rw [ofInt_wrap, btsV_c, btsV_c _ _ (Nat.lor m c), ← ofInt_lor]
          ac_rfl
      · cases h
    · cases h
  · rename_i a b
    have key : ∀ {r : AV} {q : ByteArray → ByteArray → Value}, (∀ (ρ : Rho) (s s' : ByteArray), s.data.toList.map UInt8.toNat = a → s'.data.toList.map UInt8.toNat = b → VR ρ r (q s s')) →
        (∀ (s s' : ByteArray) w, s.data.toList.map UInt8.toNat = a → s'.data.toList.map UInt8.toNat = b → (binOp op t (.string s) (.string s')).run P w = .ok (q s s') w) → BinRun P c op t (.str a) (.str b) r := by
      intro r q hq hr ρ u v w xo yo _ h1 h2
      cases h1 with
      | str _ s hs =>
        cases h2 with
        | str _ s' hs' => exact ⟨q s s', by rw [eqGuard_at_string]; simp [hr s s' w hs hs'], hq ρ s s' hs hs'⟩
    split at h
    · obtain ⟨hl, h9⟩ := guardB_true h
      clear h
      have hl := ble_true hl
      rw [len_eq, len_eq] at hl
      rw [appL_eq] at h9
      refine ⟨_, h9, key (q := fun s s' => .string (s ++ s')) (fun ρ s s' hs hs' => .str _ _ (by simp [hs, hs'])) fun s s' w hs hs' => ?_⟩
      rw [binOp_string_add]
      exact run_string_add_sum (P := P) w s s' (by rw [← size_bytes, ← size_bytes, hs, hs']; exact hl)
    · rw [fB_eq] at h
      exact ⟨_, h, key (q := fun s s' => .bool (s.toList == s'.toList)) (fun ρ s s' hs hs' => by subst hs hs'; rw [lbeq_bytes]; exact .bool _) fun s s' w hs hs' => by rw [binOp_string_eql]; rfl⟩
    · rw [fB_eq, nb_eq] at h
      exact ⟨_, h, key (q := fun s s' => .bool (!(s.toList == s'.toList))) (fun ρ s s' hs hs' => by subst hs hs'; rw [lbeq_bytes]; exact .bool _) fun s s' w hs hs' => by rw [binOp_string_neq]; rfl⟩
    · rw [fB_eq] at h
      exact ⟨_, h, key (q := fun s s' => .bool (Op.bytesLess s.toList s'.toList)) (fun ρ s s' hs hs' => by subst hs hs'; rw [bless_bytes, ByteArray.toList_eq, ByteArray.toList_eq]; exact .bool _) fun s s' w hs hs' => by rw [binOp_string_lss]; rfl⟩
    · cases h
  · rename_i hl1 hb1 hl2 hb2 hni hns
    split at h
    · obtain ⟨r, h, hr⟩ := eqTop_true h
      refine ⟨_, h, fun {ρ u v w} xo yo hc h1 h2 => ?_⟩
      obtain ⟨e1, e2⟩ := hr (w := w) .eql xo yo (.inl rfl) hc h1 h2
      refine ⟨.bool r, ?_, .bool r⟩
      have hb : binOp .eql t u v = (do let r ← Op.equal t u v; pure (.bool r)) := by
        clear hr e1 e2 h
        cases h1 <;> first
          | (exact (hl1 _ _ _ _ rfl).elim)
          | (exact (hb1 _ _ _ rfl).elim)
          | (refine (binOp_eql_other ?_ ?_ ?_ ?_).1 <;> (intros; simp; done))
          | (cases h2 <;> first | exact (hl2 _ _ _ _ rfl).elim | exact (hb2 _ _ _ rfl).elim | exact (hni _ _ _ _ rfl rfl).elim | exact (hns _ _ rfl rfl).elim | rfl)
      rw [Sem.run_bind, e1, Result.andThen_ok, hb]
      simp [e2]
    · obtain ⟨r, h, hr⟩ := eqTop_true h
      rw [fB_eq, nb_eq] at h
      refine ⟨_, h, fun {ρ u v w} xo yo hc h1 h2 => ?_⟩
      obtain ⟨e1, e2⟩ := hr (w := w) .neq xo yo (.inr rfl) hc h1 h2
      refine ⟨.bool (!r), ?_, .bool _⟩
      have hb : binOp .neq t u v = (do let r ← Op.equal t u v; pure (.bool (!r))) := by
        clear hr e1 e2 h
        cases h1 <;> first
          | (exact (hl1 _ _ _ _ rfl).elim)
          | (exact (hb1 _ _ _ rfl).elim)
          | (refine (binOp_eql_other ?_ ?_ ?_ ?_).2 <;> (intros; simp; done))
          | (cases h2 <;> first | exact (hl2 _ _ _ _ rfl).elim | exact (hb2 _ _ _ rfl).elim | exact (hni _ _ _ _ rfl rfl).elim | exact (hns _ _ rfl rfl).elim | rfl)
      rw [Sem.run_bind, e1, Result.andThen_ok, hb]
      simp [e2]
    · cases h
theorem oBin_snd (op : BinOp) (t : TypeId) (x y : Operand) (yt : TypeId) : OpSnd P G orc (.binOp op t x y yt) (oBin op t x y) := fun env H nx lo k h => by
  obtain ⟨a, ha, h⟩ := ov_true h
  obtain ⟨b, hb, h⟩ := ov_true h
  obtain ⟨r, h, hr⟩ := binK_true h
  refine ⟨_, _, _, h, OpOK.pure fun ρ N w n act o ho hI hE => ?_⟩
  obtain ⟨q, e1, e2⟩ := hr (w := w) x y (fun hc => by cases y <;> first | exact ⟨_, rfl⟩ | cases hc) (aev_sound hE ha) (aev_sound hE hb)
  refine ⟨q, ?_, e2⟩
  simp only [execOp, ho]
  rw [Sem.run_bind, e1]; rfl
theorem oUn_snd (op : UnOp) (t : TypeId) (x : Operand) : OpSnd P G orc (.unOp op t x) (oUn op x) := fun env H nx lo k h => by
  obtain ⟨a, ha, h⟩ := ov_true h
  unfold unK at h
  split at h
  · rw [awrapK_eq] at h
    refine ⟨_, _, _, h, OpOK.pure fun ρ N w n act o ho hI hE => ?_⟩
    have h1 := aev_sound hE ha
    generalize hx : act.eval x = u at h1
    cases h1
    exact ⟨_, by simp only [execOp, ho, hx]; rfl, .int _ _⟩
  · obtain ⟨p, hp, h⟩ := opt_true h
    obtain ⟨r, h, hr⟩ := linK_true h
    refine ⟨_, _, _, h, OpOK.pure fun ρ N w n act o ho hI hE => ?_⟩
    have h1 := aev_sound hE ha
    generalize hx : act.eval x = u at h1
    cases h1 with
    | lin _ c l bs m hm hb =>
      refine ⟨_, by simp only [execOp, ho, hx]; rfl, hr ρ _ ?_ hb⟩
      rw [← Lin.wrapF_true hp hb, Lin.val_smul, hm, Int.negSucc_eq]
      congr 1; omega
  · rw [fB_eq, nb_eq] at h
    refine ⟨_, _, _, h, OpOK.pure fun ρ N w n act o ho hI hE => ?_⟩
    have h1 := aev_sound hE ha
    generalize hx : act.eval x = u at h1
    cases h1
    exact ⟨_, by simp [execOp, ho, hx, Op.unary], .bool _⟩
  · obtain ⟨m, hm, h9⟩ := opt_true h
    clear h
    have := nonneg_some hm; subst this
    rw [awrapK_eq] at h9
    refine ⟨_, _, _, h9, OpOK.pure fun ρ N w n act o ho hI hE => ?_⟩
    have h1 := aev_sound hE ha
    generalize hx : act.eval x = u at h1
    cases h1
    refine ⟨.int .u32 _, ?_, .int _ _⟩
    have e := bits_lxor .u32 4294967295 m
    simp only [execOp, ho, hx]
    rw [Sem.run_bind]
    have e2 : (Op.unary .xor (.int .u32 (m : Int))).run P w = .ok (.int .u32 (IntKind.u32.wrap ((BitVec.ofInt IntKind.u32.bits ((4294967295 : Nat) : Int) ^^^ BitVec.ofInt IntKind.u32.bits (m : Int)).toNat : Nat))) w := by
      have e3 : (if IntKind.u32.signed = true then (-1 : Int) else IntKind.u32.max) = ((4294967295 : Nat) : Int) := by decide
      simp only [Op.unary, e3, Op.intBits, Sem.run_pure]
    rw [e2, e]
    rfl
  · cases h
end
end Go.Ev

