import Derived.Test.YtmiccmelipbakaaGreatDoorIsaDeM
import Derived.Test.YtmiccmelipbakaaGreatDoorIsaCuEo
import Derived.Test.YtmiccmelipbakaaGreatDoorIsaNmF
import Derived.Test.YtmiccmelipbakaaGreatDoorIsaOpq
set_option linter.unusedSectionVars false
set_option linter.unusedVariables false
set_option linter.unusedSimpArgs false
/-
  The specification's Decode: what it answers at any slice of bytes.
-/
namespace Go.Ev
open Go.RowKit Go.Proofs
def orcDeR (lg neg v : Bool) (bs : List (Int × Int)) (f : Nat) : Option Orc := match Nat.beq f 56 with
  | true => some (.given [([ya lg neg bs], .bool v)])
  | false => none
noncomputable def deRunR (m : Int) (lg neg v : Bool) (cls : Nat) : Bool :=
  evalA Tryz.prog (G2 m (knownB cls) (cdB .inv lg neg cls)) (orcDeR lg neg v (cdB .inv lg neg cls)) 100000 22 [.gsl 1000000 0 (.ofNat 0) (e1 21 (.ofNat 1)) (cdB .inv lg neg cls)] (isRetU (deRes lg neg v cls (cdB .inv lg neg cls)))
def orcNoR (_ : Nat) : Option Orc := none
noncomputable def deNilR (m : Int) : Bool := evalA Tryz.prog (G1 m) orcNoR 100000 22 [.snil] (isRetU [zIn, .int .i64 (.ofNat 0), .int .i64 (.ofNat 6)])
set_option maxRecDepth 1000000 in
theorem de_nilR (m : Int) : deNilR m = true := by kernel_rfl
set_option maxRecDepth 1000000 in
theorem de_0R (m : Int) (lg neg v : Bool) : deRunR m lg neg v 0 = true := by cases lg <;> cases neg <;> cases v <;> kernel_rfl
set_option maxRecDepth 1000000 in
theorem de_1R (m : Int) (lg neg v : Bool) : deRunR m lg neg v 1 = true := by cases lg <;> cases neg <;> cases v <;> kernel_rfl
set_option maxRecDepth 1000000 in
theorem de_2R (m : Int) (lg neg v : Bool) : deRunR m lg neg v 2 = true := by cases lg <;> cases neg <;> cases v <;> kernel_rfl
set_option maxRecDepth 1000000 in
theorem de_3R (m : Int) (lg neg v : Bool) : deRunR m lg neg v 3 = true := by cases lg <;> cases neg <;> cases v <;> kernel_rfl
theorem de_allR (m : Int) (lg neg v : Bool) {cls : Nat} (h : cls < 4) : deRunR m lg neg v cls = true := by
  match cls, h with
  | 0, _ => exact de_0R m lg neg v
  | 1, _ => exact de_1R m lg neg v
  | 2, _ => exact de_2R m lg neg v
  | 3, _ => exact de_3R m lg neg v
theorem orcDe_sndR [Unk] {G : Nat → Nat → Option AV} {m : Int} (hGG : ∀ w, Globals G w → GlobU m w) {lg neg v : Bool} {bs : List (Int × Int)} {o' a' b' c' d' k' i' : Int} (h' : R7 o' a' b' c' d' k' i')
    (dy : Den (ya lg neg bs) (insnV o' a' b' c' d' k' i')) (hv : v = validB o' a' b' c' d' k' i') : OrcSound Tryz.prog G (orcDeR lg neg v bs) := orcSound_given fun f oc hf => by
  unfold orcDeR at hf
  split at hf
  · rename_i e
    have e := beqF e
    subst e
    cases hf
    refine ⟨_, rfl, hb56, fun pat v hm => ?_⟩
    simp only [List.mem_cons, List.not_mem_nil, or_false, Prod.mk.injEq] at hm
    obtain ⟨rfl, rfl⟩ := hm
    exact rowg_is hGG dy h' hv
  · cases hf
theorem de_mainR {m : Int} {w : World} {lg neg v : Bool} {cls : Nat} {q0 q1 q2 q3 q4 q5 q6 q7 len : Int} (hG : GlobU m w) (hc : cls < 4) {n cap blk off : Nat} (hn : (n : Int) = len) (hle : n ≤ cap)
    (h0 : InB q0) (h1 : InB q1) (h2 : InB q2) (h3 : InB q3) (h4 : InB q4) (h5 : InB q5) (h6 : InB q6) (h7 : InB q7) (hlg : lg = decide (64 ≤ q0)) (hneg : neg = decide (128 ≤ q3)) (hl : (lenB cls).1 ≤ len ∧ len ≤ (lenB cls).2)
    (hv : v = validB q0 (q1 % 16) (q1 / 16) (q2 % 16) (q2 / 16) (kOf neg q3) (iOf lg q4 q5 q6 q7))
    (hcell : ∀ j, j < knownB cls → blk < w.heap.size ∧ w.cell? ⟨blk, off + j, none⟩ = some (.int .u8 (nthI [q0, q1, q2, q3, q4, q5, q6, q7] j))) :
    Calls Tryz.prog 22 #[.slice (some ⟨blk, off, none⟩) n cap] w fun e w' => e = .returned (.tuple (deU lg neg v cls q0 q1 q2 q3 q4 q5 q6 q7).toArray) ∧ Below w.heap.size w w' := by
  obtain ⟨L, hL⟩ : ∃ L, L = xl .inv 0 0 0 0 0 0 0 ++ yL q0 q1 q2 q3 q4 q5 q6 q7 len := ⟨_, rfl⟩
  have hw : Ins L (cdB .inv lg neg cls) := by
    rw [hL]
    exact ins_append (by rw [xl_len, xb_len]) (ins_xl isX_zero) (ins_yL h0 h1 h2 h3 h4 h5 h6 h7 hlg hneg hl)
  have hin := within_unkL hw
  have hev := de_allR m lg neg v hc
  have dy := den_y hL hw blk off cap
  have hby := fun {j : Nat} {p : AV} (hp : nth (byT (cdB .inv lg neg cls)) j = some p) => vr_byT hL hw blk off cap hp
  have y10 : nthI L 21 = len := yAt hL 10
  have h' : R7 q0 (q1 % 16) (q1 / 16) (q2 % 16) (q2 / 16) (kOf neg q3) (iOf lg q4 q5 q6 q7) := r7_of h0 h1 h2 h3 h4 h5 h6 h7
  letI : Unk := unkB (nthI L) blk off cap
  have hGG : ∀ w, Globals (G2 m (knownB cls) (cdB .inv lg neg cls)) w → GlobU m w := fun w h => globU_of (fun g off a e => h g off a (by
    have hg := (G1_int e).1
    unfold G2
    rw [show Nat.beq g 1000000 = false from beq_none (by omega)]
    exact e))
  have hO := orcDe_sndR hGG h' dy hv
  have hG2 : Globals (G2 m (knownB cls) (cdB .inv lg neg cls)) w := fun g off' p e => by
    unfold G2 at e
    split at e
    · rename_i hg
      have hg := beqF hg
      subst hg
      split at e
      · rename_i hlt
        have hlt := blt_true hlt
        obtain ⟨k1, k2⟩ := hcell off' hlt
        exact ⟨k1, _, k2, hby e⟩
      · cases e
    · exact hG _ g off' p e
  have vs : VR (fun _ => none) (.gsl 1000000 0 (.ofNat 0) (e1 21 (.ofNat 1)) (cdB .inv lg neg cls)) (.slice (some ⟨blk, off, none⟩) n cap) :=
    .gsl 1000000 0 _ _ _ n (by show (n : Int) = (0 : Int) + Lin.val (nthI L) (e1 21 1) 0; rw [val_u, y10, hn]; omega) hin hle
  refine pair_of_eval hO hev (.cons _ _ _ _ vs .nil) ?_ hG2
  unfold deRes deU
  cases deOk lg v cls
  · exact ⟨den_zIn, rfl, rfl, trivial⟩
  · exact ⟨dy, rfl, rfl, trivial⟩

theorem decode_anyR {m : Int} {w : World} (hG : GlobU m w) {n cap blk off : Nat} {q : Nat → Int} (hle : n ≤ cap) (hcap : cap ≤ 9223372036854775807)
    (hcell : ∀ j, j < n → w.cell? ⟨blk, off + j, none⟩ = some (.int .u8 (q j))) (hb : ∀ j, InB (q j)) :
    Calls Tryz.prog 22 #[.slice (some ⟨blk, off, none⟩) n cap] w fun e w' => e = .returned (.tuple (match dOk n q with
      | true => #[dIn q, .int .i64 (dSz q : Int), .int .i64 0]
      | false => #[insnV 0 0 0 0 0 0 0, .int .i64 0, .int .i64 6])) ∧ Below w.heap.size w w' := by
  have hlow : ∀ {j : Nat} {z : Value}, w.cell? ⟨blk, j, none⟩ = some z → blk < w.heap.size := fun h => low_of_cell h
  obtain ⟨cls, hc, hl, hkn, hcls⟩ : ∃ cls, cls < 4 ∧ ((lenB cls).1 ≤ (n : Int) ∧ (n : Int) ≤ (lenB cls).2) ∧ knownB cls ≤ n ∧ (cls = 0 ∧ n = 0 ∨ cls = 1 ∧ 1 ≤ n ∧ n < 4 ∨ cls = 2 ∧ 4 ≤ n ∧ n < 8 ∨ cls = 3 ∧ 8 ≤ n) := by
    by_cases h0 : n = 0
    · exact ⟨0, by omega, by subst h0; exact ⟨Int.le_refl _, Int.le_refl _⟩, Nat.zero_le _, .inl ⟨rfl, h0⟩⟩
    · by_cases h1 : n < 4
      · exact ⟨1, by omega, by show (1 : Int) ≤ (n : Int) ∧ (n : Int) ≤ (3 : Int); omega, by show 1 ≤ n; omega, .inr (.inl ⟨rfl, by omega, h1⟩)⟩
      · by_cases h2 : n < 8
        · exact ⟨2, by omega, by show (4 : Int) ≤ (n : Int) ∧ (n : Int) ≤ (7 : Int); omega, by show 4 ≤ n; omega, .inr (.inr (.inl ⟨rfl, by omega, h2⟩))⟩
        · exact ⟨3, by omega, by show (8 : Int) ≤ (n : Int) ∧ (n : Int) ≤ (9223372036854775807 : Int); omega, by show 8 ≤ n; omega, .inr (.inr (.inr ⟨rfl, by omega⟩))⟩
  have hmain := de_mainR (lg := decide (64 ≤ q 0)) (neg := decide (128 ≤ q 3)) hG hc rfl hle (hb 0) (hb 1) (hb 2) (hb 3) (hb 4) (hb 5) (hb 6) (hb 7) rfl rfl hl rfl (blk := blk) (off := off) (fun j hj => by
    have hc := hcell j (by omega)
    refine ⟨hlow hc, ?_⟩
    rw [hc]
    have hj8 : j < 8 := by rcases hcls with ⟨rfl, h⟩ | ⟨rfl, h⟩ | ⟨rfl, h⟩ | ⟨rfl, h⟩ <;> simp only [knownB] at hj <;> omega
    match j, hj8 with
    | 0, _ => rfl
    | 1, _ => rfl
    | 2, _ => rfl
    | 3, _ => rfl
    | 4, _ => rfl
    | 5, _ => rfl
    | 6, _ => rfl
    | 7, _ => rfl)
  refine hmain.mono fun e w' h => ⟨?_, h.2⟩
  rw [h.1]
  congr 2
  unfold deU dOk dIn dSz
  cases hv : validB (q 0) (q 1 % 16) (q 1 / 16) (q 2 % 16) (q 2 / 16) (kOf (decide (128 ≤ q 3)) (q 3)) (iOf (decide (64 ≤ q 0)) (q 4) (q 5) (q 6) (q 7))
  · simp [deOk]
  · by_cases hq : 64 ≤ q 0
    · rcases hcls with ⟨rfl, hk⟩ | ⟨rfl, hk⟩ | ⟨rfl, hk⟩ | ⟨rfl, hk⟩
      · subst hk; simp [deOk]
      · simp [deOk, hq, show ¬ 8 ≤ n by omega]
      · simp [deOk, hq, show ¬ 8 ≤ n by omega]
      · simp [deOk, hq, show 8 ≤ n by omega, show 1 ≤ n by omega, szOf]
    · rcases hcls with ⟨rfl, hk⟩ | ⟨rfl, hk⟩ | ⟨rfl, hk⟩ | ⟨rfl, hk⟩
      · subst hk; simp [deOk]
      · simp [deOk, hq, show ¬ 4 ≤ n by omega]
      · simp [deOk, hq, show 4 ≤ n by omega, show 1 ≤ n by omega, szOf]
      · simp [deOk, hq, show 4 ≤ n by omega, show 1 ≤ n by omega, szOf]
theorem decode_nilR {m : Int} {w : World} (hG : GlobU m w) :
    Calls Tryz.prog 22 #[.slice none 0 0] w fun e w' => e = .returned (.tuple #[insnV 0 0 0 0 0 0 0, .int .i64 0, .int .i64 6]) ∧ Below w.heap.size w w' := by
  letI : Unk := Unk.mk (nthI [])
  have hO : OrcSound Tryz.prog (G1 m) orcNoR := orcSound_given fun f oc hf => by cases hf
  exact pair_of_eval hO (de_nilR m) (us := [insnV 0 0 0 0 0 0 0, .int .i64 0, .int .i64 6]) (.cons _ _ _ _ .snil .nil) ⟨den_zIn, rfl, rfl, trivial⟩ (hG _)
end Go.Ev

/-
  The specification's List: what it answers at any slice of bytes.
-/
namespace Go.Ev
open Go.RowKit Go.Proofs
theorem own_grown' {w w' : World} {b e z n : Nat} {v : Value} {xs : List Value} (h : w.ownsRow b e z v n xs) (hg : w.grownBy w' none) : w'.ownsRow b e z v n xs := by
  refine h.kept hg ?_
  rcases h.2 with ⟨rfl, _⟩ | ⟨g, c, u, rfl, _⟩
  · exact .inl rfl
  · exact .inr (by simp [Value.ownBlock])
theorem src_new2 {w : World} {o : Obj} {t : TypeId} {size : Nat} (cs : List Value) (hl : cs.length = size) (h1 : ∀ u ∈ cs, u.oneCell' = true) : SrcAt ((w.alloc o).alloc (.cells cs.toArray t)) (.slice (some ⟨w.heap.size + 1, 0, none⟩) 1 1) 1 cs size :=
  ⟨_, 1, rfl, .inr ⟨w.heap.size + 1, 0, rfl, by omega, fun j u hj => by have := cells_new (w.alloc o) cs t j u hj; rw [cell_add, World.size_alloc] at this; exact this⟩, h1⟩
set_option maxRecDepth 100000 in
set_option maxHeartbeats 2000000 in
theorem rlist_any {m : Int} {w : World} (hG : GlobU m w) {a : Option Addr} {len cap : Nat} {q : Nat → Int} (hb : BytesW w a len cap q) (hlen : len ≤ 1000000) : Calls Tryz.prog 24 #[.slice a len cap] w (LiR len q w) := by
  obtain ⟨i0, hi, hz0, hz1, hz2⟩ := info_parts infoI
  go_enter Tryz.func24, Tryz.ntmps24
  go_wp2
  obtain ⟨hbs, hle, hcap, hin⟩ := hb
  go_loopw [5, 6] (fun v i wr => ∃ k : Nat, (∀ j, j < k → okAt len q j = true) ∧ i = .int .i64 (posN q k : Int) ∧ wr.ownsRow w.heap.size 24 7 v k ((items q k).flatMap I7.cells) ∧ (v = .slice none 0 0 ↔ k = 0) ∧ Below w.heap.size w wr)
    (fun _ i _ => len - (intOf i).toNat)
  case atStart => exact ⟨0, fun j hj => absurd hj (by omega), rfl, World.ownsRow_nil _ _ _ _, by simp, Below.refl _ _⟩
  case round =>
    obtain ⟨k, hok, rfl, hrow, hnil, hbl⟩ := hrel
    have hp := pos_le hok
    have hsz := hbl.size
    by_cases hlt : posN q k < len
    · obtain ⟨bb, bo, rfl, hcs⟩ : ∃ bb bo, a = some ⟨bb, bo, none⟩ ∧ ∀ j, j < len → w.cell? ⟨bb, bo + j, none⟩ = some (.int .u8 (q j)) := by
        rcases hbs with ⟨_, h, _⟩ | h
        · omega
        · exact h
      have hcr : ∀ j, j < len - posN q k → wr.cell? ⟨bb, bo + posN q k + j, none⟩ = some (.int .u8 (shf q (posN q k) j)) := fun j hj => by
        have := hcs (posN q k + j) (by omega)
        rw [Nat.add_assoc]
        exact (hbl.cell (low_of_cell this)).trans this
      have hdec := decode_anyR (globU_below hG hbl) (n := len - posN q k) (cap := cap - posN q k) (blk := bb) (off := bo + posN q k) (q := shf q (posN q k)) (by omega) (by omega) hcr (fun j => hin _)
      have hkl : 4 * k ≤ len := by have := pos_ge q k; omega
      clear hbs hcs hcr
      cases hd : okAt len q k with
      | false =>
        rw [show dOk (len - posN q k) (shf q (posN q k)) = false from hd] at hdec
        have hz : insnV 0 0 0 0 0 0 0 = agI 0 0 0 0 0 0 0 := rfl
        simp only [hz] at hdec
        clear hz
        go_wp2_with (go_at_call 22; refine hdec.mono ?_; clear hdec; rintro e w1 ⟨rfl, hb1⟩)
        refine bodyPost_ret (v := .tuple #[.slice none 0 0, .int .i64 (posN q k : Int), .int .i64 6]) (by simp [results, Tryz.f24, go_sem]) rfl ?_
        exact ⟨k, ⟨hok, hd⟩, hp, (bel_then hbl (Nat.le_refl _) hb1).alloc (by have := hb1.size; omega) _, .inl ⟨hlt, rfl⟩⟩
      | true =>
        rw [show dOk (len - posN q k) (shf q (posN q k)) = true from hd] at hdec
        obtain ⟨xo, xa, xb, xc, xd, xk, xi, hit⟩ : ∃ xo xa xb xc xd xk xi, itm q k = ⟨xo, xa, xb, xc, xd, xk, xi⟩ := ⟨_, _, _, _, _, _, _, rfl⟩
        have hin' : dIn (shf q (posN q k)) = agI xo xa xb xc xd xk xi := congrArg I7.v hit
        rw [hin'] at hdec
        have hp1 : posN q (k + 1) = posN q k + dSz (shf q (posN q k)) := rfl
        have hp2 := (okAt_lt hd).2
        have hs4 := dSz_pos (shf q (posN q k))
        rw [hp1] at hp2
        have hit := Lib.hid hit
        have hp1 := Lib.hid hp1
        clear hin'
        generalize dSz (shf q (posN q k)) = s at hdec hp1 hp2 hs4
        have hsum : (posN q k : Int) + (s : Int) ≤ (len : Int) := by omega
        go_wp2_with fail
        refine hdec.mono ?_
        clear hdec
        rintro e w1 ⟨rfl, hb1⟩
        have hrow1 := own_grown' hrow (grown_of hb1)
        have hw1 := hb1.size
        have hk1 : k + 1 ≤ maxLen := by unfold maxLen; omega
        have hk2 : (k + 1) * 56 ≤ 140737488355328 := by omega
        have hs1 : SrcAt ((w1.alloc (.cells #[.int .i64 xo, .int .i64 xa, .int .i64 xb, .int .i64 xc, .int .i64 xd, .int .i64 xk, .int .u32 xi] 24)).alloc (.cells #[.int .i64 xo, .int .i64 xa, .int .i64 xb, .int .i64 xc, .int .i64 xd, .int .i64 xk, .int .u32 xi] 24)) (.slice (some ⟨w1.heap.size + 1, 0, none⟩) 1 1) 1 (I7.mk xo xa xb xc xd xk xi).cells 7 := src_new2 (I7.mk xo xa xb xc xd xk xi).cells rfl (cells_one _)
        have hs2 : w.heap.size ≤ ((w1.alloc (.cells #[.int .i64 xo, .int .i64 xa, .int .i64 xb, .int .i64 xc, .int .i64 xd, .int .i64 xk, .int .u32 xi] 24)).alloc (.cells #[.int .i64 xo, .int .i64 xa, .int .i64 xb, .int .i64 xc, .int .i64 xd, .int .i64 xk, .int .u32 xi] 24)).heap.size := by rw [World.size_alloc, World.size_alloc]; omega
        have hs3 := (hrow1.alloc (.cells #[.int .i64 xo, .int .i64 xa, .int .i64 xb, .int .i64 xc, .int .i64 xd, .int .i64 xk, .int .u32 xi] 24)).alloc (.cells #[.int .i64 xo, .int .i64 xa, .int .i64 xb, .int .i64 xc, .int .i64 xd, .int .i64 xk, .int .u32 xi] 24)
        go_wp2_with (at_builtin; refine wpList_append_src rfl _ _ 35 rfl w.heap.size 24 i0 _ 7 56 Tryz.underlying35 hi hz0 hz1 hz2 rfl (by decide) _ _ _ rfl hs3 _ 1 (I7.mk xo xa xb xc xd xk xi).cells rfl hs1 hk1 hk2 hs2 ?_; intro v' w2 hown' hgrow; obtain ⟨g', cap', rfl⟩ := ownsRow_succ hown')
        have hb2 : Below w.heap.size w ((w1.alloc (.cells #[.int .i64 xo, .int .i64 xa, .int .i64 xb, .int .i64 xc, .int .i64 xd, .int .i64 xk, .int .u32 xi] 24)).alloc (.cells #[.int .i64 xo, .int .i64 xa, .int .i64 xb, .int .i64 xc, .int .i64 xd, .int .i64 xk, .int .u32 xi] 24)) :=
          ((bel_then hbl (Nat.le_refl _) hb1).alloc (by omega) _).alloc (by simp; omega) _
        refine ⟨⟨k + 1, fun j hj => ?_, by rw [hp1.out, Int.natCast_add], ?_, by simp, hb2.grown hgrow hb2.size (fun k e => (hrow.lt k e).1)⟩, by simp [intOf]; omega⟩
        · by_cases hjk : j < k
          · exact hok j hjk
          · obtain rfl : j = k := by omega
            exact hd
        · rw [items_succ, List.flatMap_append, hit.out]
          simpa using hown'
    · have hpe : posN q k = len := by omega
      go_wp2
      refine bodyPost_ret (v := .tuple #[_, .int .i64 0, .int .i64 0]) (by simp [results, Tryz.f24, go_sem]; rfl) rfl ?_
      exact ⟨k, ⟨hok, by unfold okAt dOk; rw [hpe, Nat.sub_self]; simp⟩, hp, hbl, .inr ⟨hpe, _, rfl, hrow, hnil⟩⟩
end Go.Ev

/-
  The law IsaTables, walked.
-/
namespace Go.Ev
open Go.RowKit Go.Proofs
theorem run_ex' (n : Nat) (q : Nat → Int) : ∃ K, RunK n q K := by
  have h : ∀ m, (∀ k, k < m → okAt n q k = true) ∨ ∃ K, RunK n q K := by
    intro m
    induction m with
    | zero => exact .inl fun k hk => absurd hk (by omega)
    | succ m ih =>
      rcases ih with ih | ih
      · cases hm : okAt n q m with
        | true =>
          refine .inl fun k hk => ?_
          by_cases hkm : k < m
          · exact ih k hkm
          · obtain rfl : k = m := by omega
            exact hm
        | false => exact .inr ⟨m, ih, hm⟩
      · exact .inr ih
  rcases h (n + 1) with h | h
  · have h1 := pos_le h
    have h2 := pos_ge q (n + 1)
    omega
  · exact h
theorem insAt_own' {w : World} {base : Nat} {v : Value} {K : Nat} {l : List I7} (h : w.ownsRow base 24 7 v K (l.flatMap I7.cells)) (hK : K = l.length) : InsAt w v l := by
  subst hK
  exact SrcAt.of_own h (flat_one l)
/-- What List and the specification's List answer alike. -/
theorem lists_alike {w : World} {len : Nat} {q : Nat → Int} {K : Nat} (hR : RunK len q K) {e : Ending} {w' : World} (h : LiR len q w e w') :
    ∃ (v : Value) (p k : Int), e = .returned (.tuple #[v, .int .i64 p, .int .i64 k]) ∧ p = (if posN q K < len then (posN q K : Int) else 0) ∧ k = (if posN q K < len then 6 else 0) ∧ InsAt w' v (if posN q K < len then [] else items q K) ∧ Below w.heap.size w w' := by
  obtain ⟨K', hR', _, hbl, ⟨hlt, he⟩ | ⟨hpe, v, he, hown, _⟩⟩ := h
  · obtain rfl := hR.unique hR'
    rw [if_pos hlt, if_pos hlt, if_pos hlt]
    exact ⟨_, _, _, he, rfl, rfl, ⟨none, 0, rfl, .inl ⟨rfl, rfl, rfl, rfl⟩, fun u hu => by simp at hu⟩, hbl⟩
  · obtain rfl := hR.unique hR'
    rw [if_neg (by omega), if_neg (by omega), if_neg (by omega)]
    exact ⟨v, _, _, he, rfl, rfl, insAt_own' hown (items_len _ _).symm, hbl⟩
theorem small_fd : (fdT.all fun l => Nat.ble l.length 10) = true := by kernel_rfl
theorem fdI_len (op : Int) : (fdI op).length ≤ 10000000 := by
  unfold fdI
  split
  · unfold fdB
    split
    · rename_i l h
      have : ∀ {t : List (List Nat)} {n : Nat} {l : List Nat}, nth t n = some l → l ∈ t := by
        intro t
        induction t with
        | nil => intro n l h; cases h
        | cons x t ih =>
          intro n l h
          cases n with
          | zero => cases h; exact List.mem_cons_self ..
          | succ n => exact List.mem_cons_of_mem _ (ih h)
      have := List.all_eq_true.1 small_fd l (this h)
      have := Nat.le_of_ble_eq_true this
      omega
    · simp
  · simp
set_option maxRecDepth 100000 in
set_option maxHeartbeats 4000000 in
theorem tables_long {m : Int} {w : World} (hG : GlobU m w) {aa : Option Addr} {na ca : Nat} {op : Int} (hop : inI64 op) (s : ByteArray) (hn : 100000 < (na : Int)) :
    Calls Tryz.prog 4 #[.slice aa na ca, .int .i64 op, .string s] w fun e w' => e = .returned (.bool true) ∧ Below w.heap.size w w' := by
  have hc26 : ∀ v, Below w.heap.size w v → Calls Tryz.prog 26 #[.int .i64 op] v fun e w' => e = .returned (.tuple #[.string (nmI op), .bool (okI op)]) ∧ Below v.heap.size v w' := fun v h => name_p (globU_below hG h) hop
  have hc27 : ∀ v, Below w.heap.size w v → Calls Tryz.prog 27 #[.int .i64 op] v fun e w' => e = .returned (.tuple #[.string (nmI op), .bool (okI op)]) ∧ Below v.heap.size v w' := fun v h => name_r (globU_below hG h) hop
  have hc30 : ∀ v, Below w.heap.size w v → Calls Tryz.prog 30 #[.int .i64 op] v fun e w' => ∃ s, e = .returned (.tuple #[s, .bool (okI op)]) ∧ IntsAt w' s (fdI op) ∧ Below v.heap.size v w' := fun v h => fields_p (globU_below hG h) hop
  have hc31 : ∀ v, Below w.heap.size w v → Calls Tryz.prog 31 #[.int .i64 op] v fun e w' => ∃ s, e = .returned (.tuple #[s, .bool (okI op)]) ∧ IntsAt w' s (fdI op) ∧ Below v.heap.size v w' := fun v h => fields_r (globU_below hG h) hop
  have hfl := fdI_len op
  go_enter Tryz.func4, Tryz.ntmps4
  go_wp2_with fail
  refine (sane_b hG).mono ?_
  rintro e w1 ⟨rfl, hA⟩
  generalize nmI op = nm at hc26 hc27
  generalize okI op = ok at hc26 hc27 hc30 hc31
  generalize fdI op = fl at hc30 hc31 hfl
  go_wp2_with fail
  refine (hc26 _ hA).mono ?_
  clear hc26
  rintro e v1 ⟨rfl, hd⟩
  have hA := bel_then hA (Nat.le_refl _) hd
  clear hd
  go_wp2_with fail
  refine (hc27 _ hA).mono ?_
  clear hc27
  rintro e v2 ⟨rfl, hd⟩
  have hA := bel_then hA (Nat.le_refl _) hd
  clear hd
  go_wp2_with fail
  refine (op_p (globU_below hG hA) s).mono ?_
  rintro e v3 ⟨n1, o1, hr1, rfl, hd⟩
  have hA := bel_then hA (Nat.le_refl _) hd
  clear hd
  go_wp2_with fail
  refine (op_r (globU_below hG hA) s).mono ?_
  rintro e v4 ⟨n2, o2, hr2, rfl, hd⟩
  obtain ⟨rfl, rfl⟩ := hr1.unique hr2
  have hA := bel_then hA (Nat.le_refl _) hd
  clear hd hr1 hr2
  go_wp2_with fail
  refine (hc30 _ hA).mono ?_
  clear hc30
  rintro e v5 ⟨s1, rfl, hi1, hd⟩
  have hA := bel_then hA (Nat.le_refl _) hd
  clear hd
  go_wp2_with fail
  refine (hc31 _ hA).mono ?_
  clear hc31
  rintro e v6 ⟨s2, rfl, hi2, hd⟩
  have hA := bel_then hA (Nat.le_refl _) hd
  have hi1 := hi1.below hd
  clear hd
  go_wp2_with fail
  refine (equal_ints hfl hi1 hi2).mono ?_
  rintro e v7 ⟨rfl, hd⟩
  have hA := bel_then hA (Nat.le_refl _) hd
  clear hd hi1 hi2
  go_wp2
  go_ret
  exact ⟨rfl, hA⟩
set_option maxRecDepth 100000 in
set_option maxHeartbeats 4000000 in
theorem tables_calls {m : Int} {w : World} (hG : GlobU m w) {aa : Option Addr} {na ca : Nat} {q : Nat → Int} (hB : BytesAt w aa na ca q) {op : Int} (hop : inI64 op) (s : ByteArray) :
    Calls Tryz.prog 4 #[.slice aa na ca, .int .i64 op, .string s] w fun e w' => e = .returned (.bool true) ∧ Below w.heap.size w w' := by
  by_cases hn : 100000 < (na : Int)
  · exact tables_long hG hop s hn
  have hn : (na : Int) ≤ 100000 := by omega
  obtain ⟨K, hK⟩ := run_ex' na q
  have hK4 := pos_ge q K
  have hKn := pos_le hK.1
  have hc26 : ∀ v, Below w.heap.size w v → Calls Tryz.prog 26 #[.int .i64 op] v fun e w' => e = .returned (.tuple #[.string (nmI op), .bool (okI op)]) ∧ Below v.heap.size v w' := fun v h => name_p (globU_below hG h) hop
  have hc27 : ∀ v, Below w.heap.size w v → Calls Tryz.prog 27 #[.int .i64 op] v fun e w' => e = .returned (.tuple #[.string (nmI op), .bool (okI op)]) ∧ Below v.heap.size v w' := fun v h => name_r (globU_below hG h) hop
  have hc30 : ∀ v, Below w.heap.size w v → Calls Tryz.prog 30 #[.int .i64 op] v fun e w' => ∃ s, e = .returned (.tuple #[s, .bool (okI op)]) ∧ IntsAt w' s (fdI op) ∧ Below v.heap.size v w' := fun v h => fields_p (globU_below hG h) hop
  have hc31 : ∀ v, Below w.heap.size w v → Calls Tryz.prog 31 #[.int .i64 op] v fun e w' => ∃ s, e = .returned (.tuple #[s, .bool (okI op)]) ∧ IntsAt w' s (fdI op) ∧ Below v.heap.size v w' := fun v h => fields_r (globU_below hG h) hop
  have hfl := fdI_len op
  go_enter Tryz.func4, Tryz.ntmps4
  go_wp2_with fail
  refine (sane_b hG).mono ?_
  rintro e w1 ⟨rfl, hA⟩
  go_wp2_with fail
  refine (list_any (globU_below hG hA) (hB.below hA).wide (by omega)).mono ?_
  intro e w2 hl
  obtain ⟨x1, p1, k1, rfl, hp1, hk1, i1, hd⟩ := lists_alike hK hl
  have Hp1 := Lib.hid hp1
  have Hk1 := Lib.hid hk1
  clear hp1 hk1
  have hA := bel_then hA (Nat.le_refl _) hd
  clear hd hl
  go_wp2_with fail
  refine (rlist_any (globU_below hG hA) (hB.below hA).wide (by omega)).mono ?_
  intro e w3 hl
  obtain ⟨x2, p2, k2, rfl, hp2, hk2, i2, hd⟩ := lists_alike hK hl
  have hA := bel_then hA (Nat.le_refl _) hd
  have i1 := SrcAt.below i1 hd
  obtain rfl : p1 = p2 := Hp1.out.trans hp2.symm
  obtain rfl : k1 = k2 := Hk1.out.trans hk2.symm
  have hll : (if posN q K < na then ([] : List I7) else items q K).length ≤ 10000000 := by
    by_cases h : posN q K < na
    · rw [if_pos h]; simp
    · rw [if_neg h, items_len]; omega
  clear hd hl Hp1 hp2 Hk1 hk2 hKn hK4
  go_wp2_with fail
  refine (equal_insns hll i1 i2).mono ?_
  rintro e w4 ⟨rfl, hd⟩
  have hA := bel_then hA (Nat.le_refl _) hd
  clear hd i1 i2 hll
  generalize nmI op = nm at hc26 hc27
  generalize okI op = ok at hc26 hc27 hc30 hc31
  generalize fdI op = fl at hc30 hc31 hfl
  go_wp2_with fail
  refine (hc26 _ hA).mono ?_
  clear hc26
  rintro e v1 ⟨rfl, hd⟩
  have hA := bel_then hA (Nat.le_refl _) hd
  clear hd
  go_wp2_with fail
  refine (hc27 _ hA).mono ?_
  clear hc27
  rintro e v2 ⟨rfl, hd⟩
  have hA := bel_then hA (Nat.le_refl _) hd
  clear hd
  go_wp2_with fail
  refine (op_p (globU_below hG hA) s).mono ?_
  rintro e v3 ⟨n1, o1, hr1, rfl, hd⟩
  have hA := bel_then hA (Nat.le_refl _) hd
  clear hd
  go_wp2_with fail
  refine (op_r (globU_below hG hA) s).mono ?_
  rintro e v4 ⟨n2, o2, hr2, rfl, hd⟩
  obtain ⟨rfl, rfl⟩ := hr1.unique hr2
  have hA := bel_then hA (Nat.le_refl _) hd
  clear hd hr1 hr2
  go_wp2_with fail
  refine (hc30 _ hA).mono ?_
  clear hc30
  rintro e v5 ⟨s1, rfl, hi1, hd⟩
  have hA := bel_then hA (Nat.le_refl _) hd
  clear hd
  go_wp2_with fail
  refine (hc31 _ hA).mono ?_
  clear hc31
  rintro e v6 ⟨s2, rfl, hi2, hd⟩
  have hA := bel_then hA (Nat.le_refl _) hd
  have hi1 := hi1.below hd
  clear hd
  go_wp2_with fail
  refine (equal_ints hfl hi1 hi2).mono ?_
  rintro e v7 ⟨rfl, hd⟩
  have hA := bel_then hA (Nat.le_refl _) hd
  clear hd hi1 hi2
  go_wp2
  go_ret
  exact ⟨rfl, hA⟩
end Go.Ev

