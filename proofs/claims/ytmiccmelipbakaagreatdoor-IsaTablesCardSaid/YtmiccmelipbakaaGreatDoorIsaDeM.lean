import Derived.Test.YtmiccmelipbakaaGreatDoorIsaCoAO
set_option linter.unusedSectionVars false
set_option linter.unusedVariables false
set_option linter.unusedSimpArgs false
/-
  isa.Decode: what it answers at any slice of bytes.
-/
namespace Go.Ev
open Go.RowKit Go.Proofs
def zIn : AV := .agg [.int .i64 (.ofNat 0), .int .i64 (.ofNat 0), .int .i64 (.ofNat 0), .int .i64 (.ofNat 0), .int .i64 (.ofNat 0), .int .i64 (.ofNat 0), .int .u32 (.ofNat 0)]
def orcDe (lg neg v : Bool) (bs : List (Int × Int)) (f : Nat) : Option Orc := match Nat.beq f 18 with
  | true => some (.given [([ya lg neg bs], .int .i64 (okV v))])
  | false => none
def deOk (lg v : Bool) (cls : Nat) : Bool := match v with
  | false => false
  | true => match cls with
    | 0 => false
    | 1 => false
    | 2 => (match lg with | true => false | false => true)
    | _ => true
def szOf (lg : Bool) : Int := match lg with | true => .ofNat 8 | false => .ofNat 4
def deRes (lg neg v : Bool) (cls : Nat) (bs : List (Int × Int)) : List AV := match deOk lg v cls with
  | true => [ya lg neg bs, .int .i64 (szOf lg), .int .i64 (.ofNat 0)]
  | false => [zIn, .int .i64 (.ofNat 0), .int .i64 (.ofNat 6)]
noncomputable def deRun (m : Int) (lg neg v : Bool) (cls : Nat) : Bool :=
  evalA Tryz.prog (G2 m (knownB cls) (cdB .inv lg neg cls)) (orcDe lg neg v (cdB .inv lg neg cls)) 100000 21 [.gsl 1000000 0 (.ofNat 0) (e1 21 (.ofNat 1)) (cdB .inv lg neg cls)] (isRetU (deRes lg neg v cls (cdB .inv lg neg cls)))
def orcNo (_ : Nat) : Option Orc := none
noncomputable def deNil (m : Int) : Bool := evalA Tryz.prog (G1 m) orcNo 100000 21 [.snil] (isRetU [zIn, .int .i64 (.ofNat 0), .int .i64 (.ofNat 6)])
set_option maxRecDepth 1000000 in
theorem de_nil (m : Int) : deNil m = true := by kernel_rfl
set_option maxRecDepth 1000000 in
theorem de_0 (m : Int) (lg neg v : Bool) : deRun m lg neg v 0 = true := by cases lg <;> cases neg <;> cases v <;> kernel_rfl
set_option maxRecDepth 1000000 in
theorem de_1 (m : Int) (lg neg v : Bool) : deRun m lg neg v 1 = true := by cases lg <;> cases neg <;> cases v <;> kernel_rfl
set_option maxRecDepth 1000000 in
theorem de_2 (m : Int) (lg neg v : Bool) : deRun m lg neg v 2 = true := by cases lg <;> cases neg <;> cases v <;> kernel_rfl
set_option maxRecDepth 1000000 in
theorem de_3 (m : Int) (lg neg v : Bool) : deRun m lg neg v 3 = true := by cases lg <;> cases neg <;> cases v <;> kernel_rfl
theorem de_all (m : Int) (lg neg v : Bool) {cls : Nat} (h : cls < 4) : deRun m lg neg v cls = true := by
  match cls, h with
  | 0, _ => exact de_0 m lg neg v
  | 1, _ => exact de_1 m lg neg v
  | 2, _ => exact de_2 m lg neg v
  | 3, _ => exact de_3 m lg neg v
theorem den_zIn [Unk] : Den zIn (insnV 0 0 0 0 0 0 0) := ⟨_, rfl, rfl, rfl, rfl, rfl, rfl, rfl, rfl, trivial⟩
def deU (lg neg v : Bool) (cls : Nat) (q0 q1 q2 q3 q4 q5 q6 q7 : Int) : List Value := match deOk lg v cls with
  | true => [insnV q0 (q1 % 16) (q1 / 16) (q2 % 16) (q2 / 16) (kOf neg q3) (iOf lg q4 q5 q6 q7), .int .i64 (szOf lg), .int .i64 0]
  | false => [insnV 0 0 0 0 0 0 0, .int .i64 0, .int .i64 6]
theorem orcDe_snd [Unk] {G : Nat → Nat → Option AV} {m : Int} (hGG : ∀ w, Globals G w → GlobU m w) {lg neg v : Bool} {bs : List (Int × Int)} {o' a' b' c' d' k' i' : Int} (h' : R7 o' a' b' c' d' k' i')
    (dy : Den (ya lg neg bs) (insnV o' a' b' c' d' k' i')) (hv : v = validB o' a' b' c' d' k' i') : OrcSound Tryz.prog G (orcDe lg neg v bs) := orcSound_given fun f oc hf => by
  unfold orcDe at hf
  split at hf
  · rename_i e
    have e := beqF e
    subst e
    cases hf
    refine ⟨_, rfl, hb18, fun pat v hm => ?_⟩
    simp only [List.mem_cons, List.not_mem_nil, or_false, Prod.mk.injEq] at hm
    obtain ⟨rfl, rfl⟩ := hm
    exact rowg_check hGG dy h' (okV_eq hv)
  · cases hf
theorem r7_of {q0 q1 q2 q3 q4 q5 q6 q7 : Int} {lg neg : Bool} (h0 : InB q0) (h1 : InB q1) (h2 : InB q2) (h3 : InB q3) (h4 : InB q4) (h5 : InB q5) (h6 : InB q6) (h7 : InB q7) : R7 q0 (q1 % 16) (q1 / 16) (q2 % 16) (q2 / 16) (kOf neg q3) (iOf lg q4 q5 q6 q7) := by
  unfold InB at *
  unfold R7 inI64 inU32
  refine ⟨?_, ?_, ?_, ?_, ?_, ?_, ?_⟩ <;> (try omega)
  · cases neg <;> simp only [kOf] <;> omega
  · cases lg <;> simp only [iOf] <;> omega
theorem isX_zero : IsX .inv 0 0 0 0 0 0 0 := ⟨by unfold inI64 inU32; decide, show validB 0 0 0 0 0 0 0 = false by kernel_rfl⟩
theorem de_main {m : Int} {w : World} {lg neg v : Bool} {cls : Nat} {q0 q1 q2 q3 q4 q5 q6 q7 len : Int} (hG : GlobU m w) (hc : cls < 4) {n cap blk off : Nat} (hn : (n : Int) = len) (hle : n ≤ cap)
    (h0 : InB q0) (h1 : InB q1) (h2 : InB q2) (h3 : InB q3) (h4 : InB q4) (h5 : InB q5) (h6 : InB q6) (h7 : InB q7) (hlg : lg = decide (64 ≤ q0)) (hneg : neg = decide (128 ≤ q3)) (hl : (lenB cls).1 ≤ len ∧ len ≤ (lenB cls).2)
    (hv : v = validB q0 (q1 % 16) (q1 / 16) (q2 % 16) (q2 / 16) (kOf neg q3) (iOf lg q4 q5 q6 q7))
    (hcell : ∀ j, j < knownB cls → blk < w.heap.size ∧ w.cell? ⟨blk, off + j, none⟩ = some (.int .u8 (nthI [q0, q1, q2, q3, q4, q5, q6, q7] j))) :
    Calls Tryz.prog 21 #[.slice (some ⟨blk, off, none⟩) n cap] w fun e w' => e = .returned (.tuple (deU lg neg v cls q0 q1 q2 q3 q4 q5 q6 q7).toArray) ∧ Below w.heap.size w w' := by
  obtain ⟨L, hL⟩ : ∃ L, L = xl .inv 0 0 0 0 0 0 0 ++ yL q0 q1 q2 q3 q4 q5 q6 q7 len := ⟨_, rfl⟩
  have hw : Ins L (cdB .inv lg neg cls) := by
    rw [hL]
    exact ins_append (by rw [xl_len, xb_len]) (ins_xl isX_zero) (ins_yL h0 h1 h2 h3 h4 h5 h6 h7 hlg hneg hl)
  have hin := within_unkL hw
  have hev := de_all m lg neg v hc
  have dy := den_y hL hw blk off cap
  have hby := fun {j : Nat} {p : AV} (hp : nth (byT (cdB .inv lg neg cls)) j = some p) => vr_byT hL hw blk off cap hp
  have y10 : nthI L 21 = len := yAt hL 10
  have h' : R7 q0 (q1 % 16) (q1 / 16) (q2 % 16) (q2 / 16) (kOf neg q3) (iOf lg q4 q5 q6 q7) := r7_of h0 h1 h2 h3 h4 h5 h6 h7
  letI : Unk := unkB (nthI L) blk off cap
  have hGG : ∀ w, Globals (G2 m (knownB cls) (cdB .inv lg neg cls)) w → GlobU m w := fun w h => globU_of (fun g off a e => h g off a (by
    have hg := (G1_int e).1
    unfold G2
    rw [show Nat.beq g 1000000 = false from beq_none (by omega)]
    exact e))
  have hO := orcDe_snd hGG h' dy hv
  have hG2 : Globals (G2 m (knownB cls) (cdB .inv lg neg cls)) w := fun g off' p e => by
    unfold G2 at e
    split at e
    · rename_i hg
      have hg := beqF hg
      subst hg
      split at e
      · rename_i hlt
        have hlt := blt_true hlt
        obtain ⟨k1, k2⟩ := hcell off' hlt
        exact ⟨k1, _, k2, hby e⟩
      · cases e
    · exact hG _ g off' p e
  have vs : VR (fun _ => none) (.gsl 1000000 0 (.ofNat 0) (e1 21 (.ofNat 1)) (cdB .inv lg neg cls)) (.slice (some ⟨blk, off, none⟩) n cap) :=
    .gsl 1000000 0 _ _ _ n (by show (n : Int) = (0 : Int) + Lin.val (nthI L) (e1 21 1) 0; rw [val_u, y10, hn]; omega) hin hle
  refine pair_of_eval hO hev (.cons _ _ _ _ vs .nil) ?_ hG2
  unfold deRes deU
  cases deOk lg v cls
  · exact ⟨den_zIn, rfl, rfl, trivial⟩
  · exact ⟨dy, rfl, rfl, trivial⟩

/-! ### In plain words -/
/-- Does a slice of n bytes that begins with these begin with an instruction? -/
def dOk (n : Nat) (q : Nat → Int) : Bool := decide (1 ≤ n) && (decide ((if 64 ≤ q 0 then 8 else 4) ≤ n) && validB (q 0) (q 1 % 16) (q 1 / 16) (q 2 % 16) (q 2 / 16) (kOf (decide (128 ≤ q 3)) (q 3)) (iOf (decide (64 ≤ q 0)) (q 4) (q 5) (q 6) (q 7)))
def dIn (q : Nat → Int) : Value := insnV (q 0) (q 1 % 16) (q 1 / 16) (q 2 % 16) (q 2 / 16) (kOf (decide (128 ≤ q 3)) (q 3)) (iOf (decide (64 ≤ q 0)) (q 4) (q 5) (q 6) (q 7))
def dSz (q : Nat → Int) : Nat := if 64 ≤ q 0 then 8 else 4
theorem decode_any {m : Int} {w : World} (hG : GlobU m w) {n cap blk off : Nat} {q : Nat → Int} (hle : n ≤ cap) (hcap : cap ≤ 9223372036854775807)
    (hcell : ∀ j, j < n → w.cell? ⟨blk, off + j, none⟩ = some (.int .u8 (q j))) (hb : ∀ j, InB (q j)) :
    Calls Tryz.prog 21 #[.slice (some ⟨blk, off, none⟩) n cap] w fun e w' => e = .returned (.tuple (match dOk n q with
      | true => #[dIn q, .int .i64 (dSz q : Int), .int .i64 0]
      | false => #[insnV 0 0 0 0 0 0 0, .int .i64 0, .int .i64 6])) ∧ Below w.heap.size w w' := by
  have hlow : ∀ {j : Nat} {z : Value}, w.cell? ⟨blk, j, none⟩ = some z → blk < w.heap.size := fun h => low_of_cell h
  obtain ⟨cls, hc, hl, hkn, hcls⟩ : ∃ cls, cls < 4 ∧ ((lenB cls).1 ≤ (n : Int) ∧ (n : Int) ≤ (lenB cls).2) ∧ knownB cls ≤ n ∧ (cls = 0 ∧ n = 0 ∨ cls = 1 ∧ 1 ≤ n ∧ n < 4 ∨ cls = 2 ∧ 4 ≤ n ∧ n < 8 ∨ cls = 3 ∧ 8 ≤ n) := by
    by_cases h0 : n = 0
    · exact ⟨0, by omega, by subst h0; exact ⟨Int.le_refl _, Int.le_refl _⟩, Nat.zero_le _, .inl ⟨rfl, h0⟩⟩
    · by_cases h1 : n < 4
      · exact ⟨1, by omega, by show (1 : Int) ≤ (n : Int) ∧ (n : Int) ≤ (3 : Int); omega, by show 1 ≤ n; omega, .inr (.inl ⟨rfl, by omega, h1⟩)⟩
      · by_cases h2 : n < 8
        · exact ⟨2, by omega, by show (4 : Int) ≤ (n : Int) ∧ (n : Int) ≤ (7 : Int); omega, by show 4 ≤ n; omega, .inr (.inr (.inl ⟨rfl, by omega, h2⟩))⟩
        · exact ⟨3, by omega, by show (8 : Int) ≤ (n : Int) ∧ (n : Int) ≤ (9223372036854775807 : Int); omega, by show 8 ≤ n; omega, .inr (.inr (.inr ⟨rfl, by omega⟩))⟩
  have hmain := de_main (lg := decide (64 ≤ q 0)) (neg := decide (128 ≤ q 3)) hG hc rfl hle (hb 0) (hb 1) (hb 2) (hb 3) (hb 4) (hb 5) (hb 6) (hb 7) rfl rfl hl rfl (blk := blk) (off := off) (fun j hj => by
    have hc := hcell j (by omega)
    refine ⟨hlow hc, ?_⟩
    rw [hc]
    have hj8 : j < 8 := by rcases hcls with ⟨rfl, h⟩ | ⟨rfl, h⟩ | ⟨rfl, h⟩ | ⟨rfl, h⟩ <;> simp only [knownB] at hj <;> omega
    match j, hj8 with
    | 0, _ => rfl
    | 1, _ => rfl
    | 2, _ => rfl
    | 3, _ => rfl
    | 4, _ => rfl
    | 5, _ => rfl
    | 6, _ => rfl
    | 7, _ => rfl)
  refine hmain.mono fun e w' h => ⟨?_, h.2⟩
  rw [h.1]
  congr 2
  unfold deU dOk dIn dSz
  cases hv : validB (q 0) (q 1 % 16) (q 1 / 16) (q 2 % 16) (q 2 / 16) (kOf (decide (128 ≤ q 3)) (q 3)) (iOf (decide (64 ≤ q 0)) (q 4) (q 5) (q 6) (q 7))
  · simp [deOk]
  · by_cases hq : 64 ≤ q 0
    · rcases hcls with ⟨rfl, hk⟩ | ⟨rfl, hk⟩ | ⟨rfl, hk⟩ | ⟨rfl, hk⟩
      · subst hk; simp [deOk]
      · simp [deOk, hq, show ¬ 8 ≤ n by omega]
      · simp [deOk, hq, show ¬ 8 ≤ n by omega]
      · simp [deOk, hq, show 8 ≤ n by omega, show 1 ≤ n by omega, szOf]
    · rcases hcls with ⟨rfl, hk⟩ | ⟨rfl, hk⟩ | ⟨rfl, hk⟩ | ⟨rfl, hk⟩
      · subst hk; simp [deOk]
      · simp [deOk, hq, show ¬ 4 ≤ n by omega]
      · simp [deOk, hq, show 4 ≤ n by omega, show 1 ≤ n by omega, szOf]
      · simp [deOk, hq, show 4 ≤ n by omega, show 1 ≤ n by omega, szOf]
theorem decode_nil {m : Int} {w : World} (hG : GlobU m w) :
    Calls Tryz.prog 21 #[.slice none 0 0] w fun e w' => e = .returned (.tuple #[insnV 0 0 0 0 0 0 0, .int .i64 0, .int .i64 6]) ∧ Below w.heap.size w w' := by
  letI : Unk := Unk.mk (nthI [])
  have hO : OrcSound Tryz.prog (G1 m) orcNo := orcSound_given fun f oc hf => by cases hf
  exact pair_of_eval hO (de_nil m) (us := [insnV 0 0 0 0 0 0 0, .int .i64 0, .int .i64 6]) (.cons _ _ _ _ .snil .nil) ⟨den_zIn, rfl, rfl, trivial⟩ (hG _)
end Go.Ev

/-
  isa.Encode: what it answers at any instruction.
-/
namespace Go.Ev
open Go.RowKit Go.Proofs
/-- The end is a return of a slice with these cells, and of a plain value. -/
noncomputable def isSl (l : List AV) (r : AV) (e : AEnd) (H : Heap) : Bool := match e with
  | .ret (.tup [.slice id off n _, v]) => match avEq v r with
    | true => match Nat.beq n (len l) with
      | true => opt (H.get id) fun o => match o with
        | .cells c _ _ _ => getMany c off n fun m => avEqL m l
        | _ => false
      | false => false
    | false => false
  | _ => false
def isNo (r : AV) (e : AEnd) (_ : Heap) : Bool := match e with
  | .ret (.tup [.snil, v]) => avEq v r
  | _ => false
noncomputable def evalS (P : Program) (G : Nat → Nat → Option AV) (orc : Nat → Option Orc) (fuel f : Nat) (args : List AV) (fin : AEnd → Heap → Bool) : Bool :=
  enterK P f args .normal fun fr => run P G orc fuel 0 fr [] .lf 0 fun e H _ => fin e H
section
variable [Unk] {P : Program} {G : Nat → Nat → Option AV} {orc : Nat → Option Orc}
theorem evalS_true (hO : OrcSound P G orc) (hNG : NoNG P) (hmix : P.follows .mixedOrders = true) {fuel f : Nat} {args : List AV} {fin : AEnd → Heap → Bool} (h : evalS P G orc fuel f args fin = true) {vs : List Value} (hv : VRs (fun _ => none) args vs)
    {w : World} (hG : Globals G w) : ∃ e H nx, fin e H = true ∧ Calls P f vs.toArray w fun e' w' => Below w.heap.size w w' ∧ ∃ ρ' lo N, Inv G ρ' H nx lo N w' ∧ EndR ρ' e e' := by
  obtain ⟨e, H', nx', h1, h2, h3, _, h4⟩ := ec_snd (run_sound hO hNG hmix fuel) 0 f args .lf 0 _ h
  refine ⟨e, H', nx', h1, Calls.mono (h4 _ _ w vs (Inv.init hG) hv) fun e' w' he => ?_⟩
  obtain ⟨ρ', k1, k2, k3, k4⟩ := he
  exact ⟨k3, ρ', _, _, k2, k4⟩
/-- What a slice that is returned reads as. -/
def SlR (l : List AV) (r : AV) (w : World) (e : Ending) (w' : World) : Prop := ∃ (blk off cap : Nat) (us : List Value) (u : Value), e = .returned (.tuple #[.slice (some ⟨blk, off, none⟩) l.length cap, u]) ∧ l.length ≤ cap ∧ DenL l us ∧ (∀ j v, us[j]? = some v → w'.cell? ⟨blk, off + j, none⟩ = some v) ∧ Den r u ∧ Below w.heap.size w w'
theorem sl_of_eval (hO : OrcSound P G orc) (hNG : NoNG P) (hmix : P.follows .mixedOrders = true) {fuel f : Nat} {args l : List AV} {r : AV} (h : evalS P G orc fuel f args (isSl l r) = true) {vs : List Value} (hv : VRs (fun _ => none) args vs)
    {w : World} (hG : Globals G w) : Calls P f vs.toArray w (SlR l r w) := by
  obtain ⟨e, H, nx, he, hc⟩ := evalS_true hO hNG hmix h hv hG
  unfold isSl at he
  split at he
  · rename_i id off n cap v
    split at he
    · rename_i hr
      split at he
      · rename_i hn
        have hn := beq_true hn
        rw [len_eq] at hn
        obtain ⟨o, ho, he⟩ := opt_true he
        split at he
        · rename_i c n' e' tl
          obtain ⟨m, hm1, hm2, he⟩ := getMany_true _ he
          refine Calls.mono hc fun e' w' hh => ?_
          obtain ⟨hb, ρ', lo, N, hI, hend⟩ := hh
          cases e' with
          | returned u =>
            cases hend with
            | tup _ cs hs =>
              obtain ⟨csl⟩ := cs
              match csl, hs with
              | [a, b], .cons _ _ _ _ ha (.cons _ _ _ _ hb' .nil) =>
                have hd := avEq_den hr hb'
                cases ha with
                | sliceK _ _ _ cp bl sz hρ hl =>
                  obtain ⟨us, k1, k2, k3⟩ := getMany_vrs hI ho hm1 hm2 hρ
                  exact ⟨bl, off, cp, us, b, by rw [← hn], by rw [← hn]; exact hl, avEqL_den he k1, k3, hd, hb⟩
                | sliceU _ _ _ _ cp bl sz hρ hl hs' =>
                  obtain ⟨us, k1, k2, k3⟩ := getMany_vrs hI ho hm1 hm2 hρ
                  exact ⟨bl, off, cp, us, b, by rw [← hn], by rw [← hn]; exact hl, avEqL_den he k1, k3, hd, hb⟩
          | panicked c => exact hend.elim
          | outgrown => exact hend.elim
        · cases he
      · cases he
    · cases he
  · cases he
theorem no_of_eval (hO : OrcSound P G orc) (hNG : NoNG P) (hmix : P.follows .mixedOrders = true) {fuel f : Nat} {args : List AV} {r : AV} (h : evalS P G orc fuel f args (isNo r) = true) {vs : List Value} (hv : VRs (fun _ => none) args vs)
    {w : World} (hG : Globals G w) : Calls P f vs.toArray w fun e w' => (∃ u, e = .returned (.tuple #[.slice none 0 0, u]) ∧ Den r u) ∧ Below w.heap.size w w' := by
  obtain ⟨e, H, nx, he, hc⟩ := evalS_true hO hNG hmix h hv hG
  unfold isNo at he
  split at he
  · rename_i v
    refine Calls.mono hc fun e' w' hh => ?_
    obtain ⟨hb, ρ', lo, N, hI, hend⟩ := hh
    cases e' with
    | returned u =>
      cases hend with
      | tup _ cs hs =>
        obtain ⟨csl⟩ := cs
        match csl, hs with
        | [a, b], .cons _ _ _ _ ha (.cons _ _ _ _ hb' .nil) =>
          have hd := avEq_den he hb'
          cases ha
          exact ⟨⟨b, rfl, hd⟩, hb⟩
    | panicked c => exact hend.elim
    | outgrown => exact hend.elim
  · cases he
end
def enB (x : XK) : List AV := match x with
  | .lg => [lf .u8 (xb x) 0, sum2 .u8 (xb x) 1 (.ofNat 16) 2, sum2 .u8 (xb x) 3 (.ofNat 16) 4, lf .u8 (xb x) 5, lf .u8 (xb x) 7, lf .u8 (xb x) 8, lf .u8 (xb x) 9, lf .u8 (xb x) 10]
  | _ => [lf .u8 (xb x) 0, sum2 .u8 (xb x) 1 (.ofNat 16) 2, sum2 .u8 (xb x) 3 (.ofNat 16) 4, lf .u8 (xb x) 5]
def orcEn (x : XK) (f : Nat) : Option Orc := match Nat.beq f 18 with
  | true => some (.given [([xa 0 x (xb x)], .int .i64 (xret x))])
  | false => none
noncomputable def enRun (m : Int) (x : XK) : Bool := evalS Tryz.prog (G1 m) (orcEn x) 100000 16 [xa 0 x (xb x)] (isSl (enB x) (.int .i64 (.ofNat 0)))
set_option maxRecDepth 1000000 in
theorem en_sh (m : Int) : enRun m .sh = true := by kernel_rfl
set_option maxRecDepth 1000000 in
theorem en_lg (m : Int) : enRun m .lg = true := by kernel_rfl
set_option maxRecDepth 1000000 in
theorem en_inv (m : Int) : evalS Tryz.prog (G1 m) (orcEn .inv) 100000 16 [xa 0 .inv (xb .inv)] (isNo (.int .i64 (.ofNat 6))) = true := by kernel_rfl
/-- The bytes of an instruction. -/
def eB (op a b c d k i : Int) (j : Nat) : Int := match j with
  | 0 => op
  | 1 => a + 16 * b
  | 2 => c + 16 * d
  | 3 => k % 256
  | 4 => i % 256
  | 5 => i / 256 % 256
  | 6 => i / 65536 % 256
  | _ => i / 16777216
theorem orcEn_snd {m : Int} {x : XK} {op a b c d k i : Int} (hx : IsX x op a b c d k i) : @OrcSound (Unk.mk (nthI (xl x op a b c d k i))) Tryz.prog (G1 m) (orcEn x) := by
  have hw := ins_xl hx
  have rc := row_check (m := m) (o := 0) hw hx (fun j _ => by rw [Nat.zero_add])
  letI : Unk := Unk.mk (nthI (xl x op a b c d k i))
  refine orcSound_given fun f oc hf => ?_
  unfold orcEn at hf
  split at hf
  · rename_i h'
    have h' := beqF h'
    subst h'
    cases hf
    refine ⟨_, rfl, hb18, fun pat v hm => ?_⟩
    simp only [List.mem_cons, List.not_mem_nil, or_false, Prod.mk.injEq] at hm
    obtain ⟨rfl, rfl⟩ := hm
    exact rc
  · cases hf
theorem encode_no {m : Int} {w : World} (hG : GlobU m w) {op a b c d k i : Int} (hx : IsX .inv op a b c d k i) :
    Calls Tryz.prog 16 #[insnV op a b c d k i] w fun e w' => e = .returned (.tuple #[.slice none 0 0, .int .i64 6]) ∧ Below w.heap.size w w' := by
  have hw := ins_xl hx
  have hO := orcEn_snd (m := m) hx
  have vx := vr_xa (o := 0) hw hx (fun j _ => by rw [Nat.zero_add]) (fun _ => none)
  letI : Unk := Unk.mk (nthI (xl .inv op a b c d k i))
  refine (no_of_eval hO noNG1 mix1 (en_inv m) (.cons _ _ _ _ vx .nil) (hG _)).mono fun e w' ⟨⟨u, he, hd⟩, hb⟩ => ⟨?_, hb⟩
  rw [he, show u = .int .i64 6 from hd]
theorem val_s (L : List Int) (kd : IntKind) (bs : List (Int × Int)) (j l : Nat) (c : Int) {v : Value} (h : @Den1 (Unk.mk (nthI L)) (sum2 kd bs j c l) v) : v = .int kd (nthI L j + c * nthI L l) := by
  letI : Unk := Unk.mk (nthI L)
  have h : v = .int kd ((0 : Int) + Lin.val (nthI L) (Lin.add (e1 j (.ofNat 1)) (e1 l c)) 0) := h
  rw [h, Lin.val_add, val_u, val_u]
  congr 1
  show 0 + ((1 : Int) * nthI L j + c * nthI L l) = _
  omega
theorem val_l (L : List Int) (kd : IntKind) (bs : List (Int × Int)) (j : Nat) {v : Value} (h : @Den1 (Unk.mk (nthI L)) (lf kd bs j) v) : v = .int kd (nthI L j) := by
  letI : Unk := Unk.mk (nthI L)
  have h : v = .int kd ((0 : Int) + Lin.val (nthI L) (e1 j (.ofNat 1)) 0) := h
  rw [h, val_u]
  congr 1
  show 0 + ((1 : Int) * nthI L j) = _
  omega
/-- What Encode answers at an instruction. -/
def EnR (n : Nat) (q : Nat → Int) (w : World) (e : Ending) (w' : World) : Prop := ∃ blk off cap : Nat, e = .returned (.tuple #[.slice (some ⟨blk, off, none⟩) n cap, .int .i64 0]) ∧ n ≤ cap ∧ (∀ j, j < n → w'.cell? ⟨blk, off + j, none⟩ = some (.int .u8 (q j))) ∧ Below w.heap.size w w'
theorem encode_ok {m : Int} {w : World} (hG : GlobU m w) {x : XK} {op a b c d k i : Int} (hx : IsX x op a b c d k i) (hv : xlen x ≠ 0) :
    Calls Tryz.prog 16 #[insnV op a b c d k i] w (EnR (xlen x) (eB op a b c d k i) w) := by
  have hw := ins_xl hx
  have hO := orcEn_snd (m := m) hx
  have vx := vr_xa (o := 0) hw hx (fun j _ => by rw [Nat.zero_add]) (fun _ => none)
  cases x with
  | inv => exact absurd rfl hv
  | sh =>
    letI : Unk := Unk.mk (nthI (xl .sh op a b c d k i))
    refine (sl_of_eval hO noNG1 mix1 (en_sh m) (.cons _ _ _ _ vx .nil) (hG _)).mono fun e w' h => ?_
    obtain ⟨blk, off, cap, us, u, h1, h2, h3, h4, h5, h6⟩ := h
    refine ⟨blk, off, cap, by rw [h1, show u = .int .i64 0 from h5]; rfl, h2, fun j hj => ?_, h6⟩
    match us, h3 with
    | [u0, u1, u2, u3], ⟨d0, d1, d2, d3, _⟩ =>
      have d0 := val_l (xl .sh op a b c d k i) .u8 (xb .sh) 0 d0
      have d1 := val_s (xl .sh op a b c d k i) .u8 (xb .sh) 1 2 (.ofNat 16) d1
      have d2 := val_s (xl .sh op a b c d k i) .u8 (xb .sh) 3 4 (.ofNat 16) d2
      have d3 := val_l (xl .sh op a b c d k i) .u8 (xb .sh) 5 d3
      match j, hj with
      | 0, _ => rw [h4 0 _ rfl, d0]; rfl
      | 1, _ => rw [h4 1 _ rfl, d1]; rfl
      | 2, _ => rw [h4 2 _ rfl, d2]; rfl
      | 3, _ => rw [h4 3 _ rfl, d3]; rfl
  | lg =>
    letI : Unk := Unk.mk (nthI (xl .lg op a b c d k i))
    refine (sl_of_eval hO noNG1 mix1 (en_lg m) (.cons _ _ _ _ vx .nil) (hG _)).mono fun e w' h => ?_
    obtain ⟨blk, off, cap, us, u, h1, h2, h3, h4, h5, h6⟩ := h
    refine ⟨blk, off, cap, by rw [h1, show u = .int .i64 0 from h5]; rfl, h2, fun j hj => ?_, h6⟩
    match us, h3 with
    | [u0, u1, u2, u3, u4, u5, u6, u7], ⟨d0, d1, d2, d3, d4, d5, d6, d7, _⟩ =>
      have d0 := val_l (xl .lg op a b c d k i) .u8 (xb .lg) 0 d0
      have d1 := val_s (xl .lg op a b c d k i) .u8 (xb .lg) 1 2 (.ofNat 16) d1
      have d2 := val_s (xl .lg op a b c d k i) .u8 (xb .lg) 3 4 (.ofNat 16) d2
      have d3 := val_l (xl .lg op a b c d k i) .u8 (xb .lg) 5 d3
      have d4 := val_l (xl .lg op a b c d k i) .u8 (xb .lg) 7 d4
      have d5 := val_l (xl .lg op a b c d k i) .u8 (xb .lg) 8 d5
      have d6 := val_l (xl .lg op a b c d k i) .u8 (xb .lg) 9 d6
      have d7 := val_l (xl .lg op a b c d k i) .u8 (xb .lg) 10 d7
      match j, hj with
      | 0, _ => rw [h4 0 _ rfl, d0]; rfl
      | 1, _ => rw [h4 1 _ rfl, d1]; rfl
      | 2, _ => rw [h4 2 _ rfl, d2]; rfl
      | 3, _ => rw [h4 3 _ rfl, d3]; rfl
      | 4, _ => rw [h4 4 _ rfl, d4]; rfl
      | 5, _ => rw [h4 5 _ rfl, d5]; rfl
      | 6, _ => rw [h4 6 _ rfl, d6]; rfl
      | 7, _ => rw [h4 7 _ rfl, d7]; rfl
end Go.Ev

/-
  Plain facts: the bytes of an instruction are read as it; what is read has these bytes.
-/
namespace Go.Ev
open Go.RowKit Go.Proofs
def zeroI : List (Int × Int) → Bool
  | [_, _, _, _, _, (_, b)] => decide (b = 0)
  | _ => false
def zI (i : Nat) : Bool := match Nat.beq i 0 with | true => true | false => zeroI (rt i)
theorem zI_all : uptoB zI 62 = true := by kernel_rfl
theorem i_zero {op a b c d k i : Int} (h : validB op a b c d k i = true) (ho : op ≤ 61) : i = 0 := by
  have hop : isOpB op = true := by
    unfold validB at h
    simp only [Bool.and_eq_true] at h
    exact h.1
  have hop' := hop
  simp only [isOpB, Bool.or_eq_true, Bool.and_eq_true, decide_eq_true_eq] at hop'
  obtain ⟨a4, b0, b1, b2, b3, b4, b5, hr, k1, k2, g0, g1, g2, g3, g4, g5⟩ := spans_of (show op.toNat < 73 by omega)
  have hv := (valid_iff hop hr).1 h
  have hz := @uptoB_true (Unk.mk (nthI [])) _ _ zI_all op.toNat (by omega)
  unfold zI at hz
  have hne : Nat.beq op.toNat 0 = false := beq_none (by omega)
  rw [hne, hr] at hz
  have hz : decide (b5 = 0) = true := hz
  have hz : b5 = 0 := of_decide_eq_true hz
  omega
/-- What Decode reads is an instruction, and these are its bytes. -/
theorem dec_is {n : Nat} {q : Nat → Int} (hb : ∀ j, InB (q j)) (h : dOk n q = true) :
    ∃ x op a b c d k i, dIn q = insnV op a b c d k i ∧ IsX x op a b c d k i ∧ xlen x = dSz q ∧ xlen x ≠ 0 ∧ dSz q ≤ n ∧ ∀ j, j < xlen x → eB op a b c d k i j = q j := by
  unfold dOk at h
  simp only [Bool.and_eq_true, decide_eq_true_eq] at h
  obtain ⟨h1, h2, hv⟩ := h
  have h0 := hb 0
  have h1' := hb 1
  have h2' := hb 2
  have h3 := hb 3
  have h4 := hb 4
  have h5 := hb 5
  have h6 := hb 6
  have h7 := hb 7
  unfold InB at h0 h1' h2' h3 h4 h5 h6 h7
  have r7 := @r7_of (q 0) (q 1) (q 2) (q 3) (q 4) (q 5) (q 6) (q 7) (decide (64 ≤ q 0)) (decide (128 ≤ q 3)) (hb 0) (hb 1) (hb 2) (hb 3) (hb 4) (hb 5) (hb 6) (hb 7)
  have hrg := valid_ranges hv
  by_cases hq : 64 ≤ q 0
  · have hsz : dSz q = 8 := by unfold dSz; rw [if_pos hq]
    refine ⟨.lg, _, _, _, _, _, _, _, rfl, ⟨r7, hv, by omega⟩, hsz.symm, by decide, by rw [hsz]; rw [if_pos hq] at h2; exact h2, fun j hj => ?_⟩
    have hj : j < 8 := hj
    rw [decide_eq_true hq]
    match j, hj with
    | 0, _ => rfl
    | 1, _ => show q 1 % 16 + 16 * (q 1 / 16) = q 1; omega
    | 2, _ => show q 2 % 16 + 16 * (q 2 / 16) = q 2; omega
    | 3, _ => show kOf (decide (128 ≤ q 3)) (q 3) % 256 = q 3; cases decide (128 ≤ q 3) <;> simp only [kOf] <;> omega
    | 4, _ => show (q 4 + 256 * q 5 + 65536 * q 6 + 16777216 * q 7) % 256 = q 4; omega
    | 5, _ => show (q 4 + 256 * q 5 + 65536 * q 6 + 16777216 * q 7) / 256 % 256 = q 5; omega
    | 6, _ => show (q 4 + 256 * q 5 + 65536 * q 6 + 16777216 * q 7) / 65536 % 256 = q 6; omega
    | 7, _ => show (q 4 + 256 * q 5 + 65536 * q 6 + 16777216 * q 7) / 16777216 = q 7; omega
  · have hsz : dSz q = 4 := by unfold dSz; rw [if_neg hq]
    refine ⟨.sh, _, _, _, _, _, _, _, rfl, ⟨r7, hv, by omega⟩, hsz.symm, by decide, by rw [hsz]; rw [if_neg hq] at h2; exact h2, fun j hj => ?_⟩
    have hj : j < 4 := hj
    match j, hj with
    | 0, _ => rfl
    | 1, _ => show q 1 % 16 + 16 * (q 1 / 16) = q 1; omega
    | 2, _ => show q 2 % 16 + 16 * (q 2 / 16) = q 2; omega
    | 3, _ => show kOf (decide (128 ≤ q 3)) (q 3) % 256 = q 3; cases decide (128 ≤ q 3) <;> simp only [kOf] <;> omega
theorem eB_in {x : XK} {op a b c d k i : Int} (hx : IsX x op a b c d k i) (hn : xlen x ≠ 0) (j : Nat) : InB (eB op a b c d k i j) := by
  have hv : validB op a b c d k i = true := by
    obtain ⟨_, hx⟩ := hx
    cases x
    · exact absurd rfl hn
    · exact hx.1
    · exact hx.1
  have hrg := valid_ranges hv
  unfold InB
  match j with
  | 0 => show 0 ≤ op ∧ op ≤ 255; omega
  | 1 => show 0 ≤ a + 16 * b ∧ a + 16 * b ≤ 255; omega
  | 2 => show 0 ≤ c + 16 * d ∧ c + 16 * d ≤ 255; omega
  | 3 => show 0 ≤ k % 256 ∧ k % 256 ≤ 255; omega
  | 4 => show 0 ≤ i % 256 ∧ i % 256 ≤ 255; omega
  | 5 => show 0 ≤ i / 256 % 256 ∧ i / 256 % 256 ≤ 255; omega
  | 6 => show 0 ≤ i / 65536 % 256 ∧ i / 65536 % 256 ≤ 255; omega
  | j + 7 => show 0 ≤ i / 16777216 ∧ i / 16777216 ≤ 255; omega
/-- The bytes of an instruction, with anything behind them. -/
theorem dec_enc {x : XK} {op a b c d k i : Int} (hx : IsX x op a b c d k i) (hn : xlen x ≠ 0) {n : Nat} {q : Nat → Int} (hq : ∀ j, j < xlen x → q j = eB op a b c d k i j) (hle : xlen x ≤ n) :
    dOk n q = true ∧ dIn q = insnV op a b c d k i ∧ dSz q = xlen x := by
  have hx' := hx
  obtain ⟨hr, hx⟩ := hx
  have key : ∀ (lg : Bool), (validB op a b c d k i = true) → decide (64 ≤ q 0) = lg → q 0 = op → q 1 = a + 16 * b → q 2 = c + 16 * d → q 3 = k % 256 → iOf lg (q 4) (q 5) (q 6) (q 7) = i → (if 64 ≤ q 0 then 8 else 4) ≤ n → (if 64 ≤ q 0 then 8 else 4) = xlen x →
      dOk n q = true ∧ dIn q = insnV op a b c d k i ∧ dSz q = xlen x := by
    intro lg hv hlg q0 q1 q2 q3 qi hs hs'
    have hrg := valid_ranges hv
    have ea : q 1 % 16 = a := by omega
    have eb : q 1 / 16 = b := by omega
    have ec : q 2 % 16 = c := by omega
    have ed : q 2 / 16 = d := by omega
    have ek : kOf (decide (128 ≤ q 3)) (q 3) = k := by
      by_cases h : 128 ≤ q 3
      · rw [decide_eq_true h]; show q 3 - 256 = k; omega
      · rw [decide_eq_false h]; show q 3 = k; omega
    refine ⟨?_, ?_, hs'⟩
    · unfold dOk
      rw [hlg, qi, ea, eb, ec, ed, ek, q0, hv]
      rw [q0] at hs
      have : 1 ≤ n := by by_cases h : 64 ≤ op <;> simp only [h, if_true, if_false] at hs <;> omega
      simp [this, hs]
    · unfold dIn
      rw [hlg, qi, ea, eb, ec, ed, ek, q0]
  cases x with
  | inv => exact absurd rfl hn
  | sh =>
    have q0 : q 0 = op := hq 0 (by decide)
    have q1 : q 1 = a + 16 * b := hq 1 (by decide)
    have q2 : q 2 = c + 16 * d := hq 2 (by decide)
    have q3 : q 3 = k % 256 := hq 3 (by decide)
    have hi := i_zero hx.1 hx.2
    have ho := hx.2
    have hne : ¬ 64 ≤ q 0 := by omega
    exact key false hx.1 (decide_eq_false hne) q0 q1 q2 q3 hi.symm (by rw [if_neg hne]; exact hle) (by rw [if_neg hne]; rfl)
  | lg =>
    have q0 : q 0 = op := hq 0 (by decide)
    have q1 : q 1 = a + 16 * b := hq 1 (by decide)
    have q2 : q 2 = c + 16 * d := hq 2 (by decide)
    have q3 : q 3 = k % 256 := hq 3 (by decide)
    have q4 : q 4 = i % 256 := hq 4 (by decide)
    have q5 : q 5 = i / 256 % 256 := hq 5 (by decide)
    have q6 : q 6 = i / 65536 % 256 := hq 6 (by decide)
    have q7 : q 7 = i / 16777216 := hq 7 (by decide)
    have ho := hx.2
    have hrg := valid_ranges hx.1
    have hne : 64 ≤ q 0 := by omega
    exact key true hx.1 (decide_eq_true hne) q0 q1 q2 q3 (by show q 4 + 256 * q 5 + 65536 * q 6 + 16777216 * q 7 = i; rw [q4, q5, q6, q7]; omega) (by rw [if_pos hne]; exact hle) (by rw [if_pos hne]; rfl)
end Go.Ev

