import Derived.Test.YtmiccmelipbakaaGreatDoorIsaDeM
import Derived.Test.YtmiccmelipbakaaGreatDoorIsaCtx
set_option linter.unusedSectionVars false
set_option linter.unusedVariables false
set_option linter.unusedSimpArgs false
/-
  The mnemonics: what Name answers at any number, in the program and in the specification; the program's table of them.
-/
namespace Go.Ev
open Go.RowKit Go.Proofs
/-- The bytes of the mnemonics by operation; of what is none there are none. -/
def nmT : List (List Nat) := [[], [110, 111, 112], [109, 111, 118], [97, 100, 100], [115, 117, 98], [97, 110, 100], [111, 114], [120, 111, 114], [115, 104, 108], [115, 104, 114], [115, 97, 114], [109, 117, 108], [109, 117, 108, 104], [100, 105, 118], [114, 101, 109], [100, 105, 118, 115], [97, 100, 99], [115, 98, 98], [97, 100, 100, 107], [110, 101, 103], [110, 111, 116], [101, 120, 116], [99, 109, 112], [116, 101, 115, 116], [99, 109, 112, 107], [115, 101, 108], [115, 101, 116, 99], [108, 111, 97, 100, 56], [108, 111, 97, 100, 49, 54], [108, 111, 97, 100, 51, 50], [108, 111, 97, 100, 56, 115], [115, 116, 111, 114, 101, 56], [115, 116, 111, 114, 101, 49, 54], [115, 116, 111, 114, 101, 51, 50], [112, 117, 115, 104], [112, 111, 112], [115, 119, 97, 112], [99, 97, 115], [102, 97, 100, 100], [102, 101, 110, 99, 101], [106, 109, 112, 114], [99, 97, 108, 108, 114], [114, 101, 116], [115, 121, 115], [114, 101, 113], [98, 114, 107], [103, 101, 116, 102], [115, 101, 116, 102], [118, 108, 111, 97, 100], [118, 115, 116, 111, 114, 101], [118, 109, 111, 118], [118, 97, 100, 100], [118, 115, 117, 98], [118, 101, 113], [118, 97, 110, 100], [118, 111, 114], [118, 120, 111, 114], [118, 115, 104, 117, 102], [118, 105, 110], [118, 111, 117, 116], [118, 115, 112, 108, 97, 116], [118, 109, 97, 115, 107], [], [], [115, 101, 116], [97, 100, 100, 105], [106, 109, 112], [106, 99, 99], [99, 97, 108, 108], [108, 111, 97, 100, 105], [115, 116, 111, 114, 101, 105], [108, 101, 97], [99, 109, 112, 105]]
def nmB (n : Nat) : List Nat := match nth nmT n with | some l => l | none => []
def nmS (n : Nat) : ByteArray := ⟨((nmB n).map UInt8.ofNat).toArray⟩
def isOpN (n : Nat) : Bool := match Nat.ble 1 n with | true => (match Nat.ble n 61 with | true => true | false => (match Nat.ble 64 n with | true => Nat.ble n 72 | false => false)) | false => false
noncomputable def nmRun (m : Int) (f n : Nat) : Bool := evalA Tryz.prog (G1 m) orcNo 100000 f [.int .i64 (.ofNat n)] (isRetU [.str (nmB n), .bool (isOpN n)])
noncomputable def nmFar (m : Int) (f : Nat) (bs : Int × Int) : Bool := evalA Tryz.prog (G1 m) orcNo 100000 f [lf .i64 [bs] 0] (isRetU [.str [], .bool false])
def loB : Int × Int := (.negSucc 9223372036854775807, .negSucc 0)
def hiB : Int × Int := (.ofNat 73, .ofNat 9223372036854775807)
set_option maxRecDepth 1000000 in
theorem nm_26 (m : Int) : uptoB (nmRun m 26) 73 = true := by kernel_rfl
set_option maxRecDepth 1000000 in
theorem nm_27 (m : Int) : uptoB (nmRun m 27) 73 = true := by kernel_rfl
set_option maxRecDepth 1000000 in
theorem nm_26l (m : Int) : nmFar m 26 loB = true := by kernel_rfl
set_option maxRecDepth 1000000 in
theorem nm_27l (m : Int) : nmFar m 27 loB = true := by kernel_rfl
set_option maxRecDepth 1000000 in
theorem nm_26h (m : Int) : nmFar m 26 hiB = true := by kernel_rfl
set_option maxRecDepth 1000000 in
theorem nm_27h (m : Int) : nmFar m 27 hiB = true := by kernel_rfl
def smallB : List (List Nat) → Bool
  | [] => true
  | l :: t => l.all (fun x => Nat.blt x 256) && smallB t
end Go.Ev

/-
  What Name answers, in plain words.
-/
namespace Go.Ev
open Go.RowKit Go.Proofs
theorem small_nm : smallB nmT = true := by kernel_rfl
theorem small_at : ∀ {t : List (List Nat)} {n : Nat} {l : List Nat}, smallB t = true → nth t n = some l → l.all (fun x => Nat.blt x 256) = true
  | [], _, _, _, h => by cases h
  | x :: t, 0, l, h, h' => by
    cases h'
    simp only [smallB, Bool.and_eq_true] at h
    exact h.1
  | x :: t, n + 1, l, h, h' => by
    simp only [smallB, Bool.and_eq_true] at h
    exact small_at h.2 h'
theorem nmS_map (n : Nat) : (nmS n).data.toList.map UInt8.toNat = nmB n := by
  have hs : (nmB n).all (fun x => Nat.blt x 256) = true := by
    unfold nmB
    split
    · rename_i l h
      exact small_at small_nm h
    · rfl
  show ((nmB n).map UInt8.ofNat).map UInt8.toNat = nmB n
  rw [List.map_map]
  conv => rhs; rw [← List.map_id (nmB n)]
  apply List.map_congr_left
  intro x hx
  have := List.all_eq_true.1 hs x hx
  have hx : x < 256 := blt_true this
  simp [UInt8.toNat_ofNat, Nat.mod_eq_of_lt hx]
def nmI (op : Int) : ByteArray := if 0 ≤ op ∧ op < 73 then nmS op.toNat else ⟨#[]⟩
def okI (op : Int) : Bool := if 0 ≤ op ∧ op < 73 then isOpN op.toNat else false
theorem name_of {m : Int} {w : World} (hG : GlobU m w) {f : Nat} (h1 : uptoB (nmRun m f) 73 = true) (h2 : nmFar m f loB = true) (h3 : nmFar m f hiB = true) {op : Int} (hop : inI64 op) :
    Calls Tryz.prog f #[.int .i64 op] w fun e w' => e = .returned (.tuple #[.string (nmI op), .bool (okI op)]) ∧ Below w.heap.size w w' := by
  unfold inI64 at hop
  by_cases h : 0 ≤ op ∧ op < 73
  · obtain ⟨n, rfl⟩ : ∃ n : Nat, op = n := ⟨op.toNat, by omega⟩
    unfold nmI okI
    rw [if_pos h, if_pos h, show ((n : Int)).toNat = n from rfl]
    letI : Unk := Unk.mk (nthI [])
    have hO : OrcSound Tryz.prog (G1 m) orcNo := orcSound_given fun f oc hf => by cases hf
    exact pair_of_eval hO (uptoB_true h1 n (by omega)) (us := [.string (nmS n), .bool (isOpN n)]) (.cons _ _ _ _ (.int _ _) .nil) ⟨⟨_, rfl, nmS_map n⟩, rfl, trivial⟩ (hG _)
  · unfold nmI okI
    rw [if_neg h, if_neg h]
    have far : ∀ bs : Int × Int, nmFar m f bs = true → bs.1 ≤ op ∧ op ≤ bs.2 → Calls Tryz.prog f #[.int .i64 op] w fun e w' => e = .returned (.tuple #[.string ⟨#[]⟩, .bool false]) ∧ Below w.heap.size w w' := fun bs hev hb => by
      have hw : Ins [op] [bs] := ⟨hb, trivial⟩
      have hin := within_unkL hw
      letI : Unk := Unk.mk (nthI [op])
      have hO : OrcSound Tryz.prog (G1 m) orcNo := orcSound_given fun f oc hf => by cases hf
      have vx : VR (fun _ => none) (lf .i64 [bs] 0) (.int .i64 op) := .lin _ _ _ _ _ (by show op = (0 : Int) + Lin.val (nthI [op]) (e1 0 1) 0; rw [val_u]; show op = 0 + 1 * op; omega) hin
      exact pair_of_eval hO hev (us := [.string ⟨#[]⟩, .bool false]) (.cons _ _ _ _ vx .nil) ⟨⟨_, rfl, rfl⟩, rfl, trivial⟩ (hG _)
    by_cases h0 : op < 0
    · exact far loB h2 ⟨by show (-9223372036854775808 : Int) ≤ op; omega, by show op ≤ (-1 : Int); omega⟩
    · exact far hiB h3 ⟨by show (73 : Int) ≤ op; omega, by show op ≤ (9223372036854775807 : Int); omega⟩
theorem name_p {m : Int} {w : World} (hG : GlobU m w) {op : Int} (hop : inI64 op) : Calls Tryz.prog 26 #[.int .i64 op] w fun e w' => e = .returned (.tuple #[.string (nmI op), .bool (okI op)]) ∧ Below w.heap.size w w' := name_of hG (nm_26 m) (nm_26l m) (nm_26h m) hop
theorem name_r {m : Int} {w : World} (hG : GlobU m w) {op : Int} (hop : inI64 op) : Calls Tryz.prog 27 #[.int .i64 op] w fun e w' => e = .returned (.tuple #[.string (nmI op), .bool (okI op)]) ∧ Below w.heap.size w w' := name_of hG (nm_27 m) (nm_27l m) (nm_27h m) hop
end Go.Ev

/-
  What Fields answers at any number, in the program and in the specification.
-/
namespace Go.Ev
open Go.RowKit Go.Proofs
/-- The kinds of the operands by operation. -/
def fdT : List (List Nat) := [[], [], [1, 2], [1, 2, 3], [1, 2, 3], [1, 2, 3], [1, 2, 3], [1, 2, 3], [1, 2, 3], [1, 2, 3], [1, 2, 3], [1, 2, 3], [1, 2, 3], [1, 2, 3], [1, 2, 3], [1, 2, 3], [1, 2, 3], [1, 2, 3], [1, 2, 12], [1, 2], [1, 2], [1, 2, 8], [2, 3], [2, 3], [2, 12], [1, 2, 3, 7], [1, 7], [1, 14], [1, 14], [1, 14], [1, 14], [1, 14], [1, 14], [1, 14], [1], [1], [1, 14], [1, 3, 14], [1, 14], [], [2], [2], [], [], [], [], [1], [2], [4, 14], [4, 14], [4, 5], [4, 5, 6, 9], [4, 5, 6, 9], [4, 5, 6, 9], [4, 5, 6], [4, 5, 6], [4, 5, 6], [4, 5, 6], [4, 2, 10], [1, 5, 10], [4, 2], [1, 5], [], [], [1, 13], [1, 2, 13], [13], [7, 13], [13], [1, 15], [1, 15], [1, 2, 3, 11, 13], [2, 13]]
def fdB (n : Nat) : List Nat := match nth fdT n with | some l => l | none => []
def fdA (n : Nat) : List AV := (fdB n).map fun k => .int .i64 (.ofNat k)
noncomputable def isSN (l : List AV) (r : AV) (e : AEnd) (H : Heap) : Bool := match l with
  | [] => (match e with
    | .ret (.tup [.snil, v]) => avEq v r
    | .ret (.tup [.slice id off n _, v]) => (match avEq v r with | true => Nat.beq n 0 | false => false)
    | _ => false)
  | l => isSl l r e H
noncomputable def fdRun (m : Int) (f n : Nat) : Bool := evalS Tryz.prog (G1 m) orcNo 100000 f [.int .i64 (.ofNat n)] (isSN (fdA n) (.bool (isOpN n)))
noncomputable def fdFar (m : Int) (f : Nat) (bs : Int × Int) : Bool := evalS Tryz.prog (G1 m) orcNo 100000 f [lf .i64 [bs] 0] (isSN [] (.bool false))
set_option maxRecDepth 1000000 in
theorem fd_30 (m : Int) : uptoB (fdRun m 30) 73 = true := by kernel_rfl
set_option maxRecDepth 1000000 in
theorem fd_31 (m : Int) : uptoB (fdRun m 31) 73 = true := by kernel_rfl
set_option maxRecDepth 1000000 in
theorem fd_30l (m : Int) : fdFar m 30 loB = true := by kernel_rfl
set_option maxRecDepth 1000000 in
theorem fd_31l (m : Int) : fdFar m 31 loB = true := by kernel_rfl
set_option maxRecDepth 1000000 in
theorem fd_30h (m : Int) : fdFar m 30 hiB = true := by kernel_rfl
set_option maxRecDepth 1000000 in
theorem fd_31h (m : Int) : fdFar m 31 hiB = true := by kernel_rfl
end Go.Ev

/-
  What Fields answers, in plain words; slices.Equal of numbers.
-/
namespace Go.Ev
open Go.RowKit Go.Proofs
section
variable [Unk] {P : Program} {G : Nat → Nat → Option AV} {orc : Nat → Option Orc}
theorem sn_of_eval (hO : OrcSound P G orc) (hNG : NoNG P) (hmix : P.follows .mixedOrders = true) {fuel f : Nat} {args : List AV} {r : AV} (h : evalS P G orc fuel f args (isSN [] r) = true) {vs : List Value} (hv : VRs (fun _ => none) args vs)
    {w : World} (hG : Globals G w) : Calls P f vs.toArray w fun e w' => (∃ a c u, e = .returned (.tuple #[.slice a 0 c, u]) ∧ Den r u) ∧ Below w.heap.size w w' := by
  obtain ⟨e, H, nx, he, hc⟩ := evalS_true hO hNG hmix h hv hG
  unfold isSN at he
  simp only at he
  split at he
  · rename_i v
    refine Calls.mono hc fun e' w' hh => ?_
    obtain ⟨hb, ρ', lo, N, hI, hend⟩ := hh
    cases e' with
    | returned u =>
      cases hend with
      | tup _ cs hs =>
        obtain ⟨csl⟩ := cs
        match csl, hs with
        | [a, b], .cons _ _ _ _ ha (.cons _ _ _ _ hb' .nil) =>
          have hd := avEq_den he hb'
          cases ha
          exact ⟨⟨none, 0, b, rfl, hd⟩, hb⟩
    | panicked c => exact hend.elim
    | outgrown => exact hend.elim
  · rename_i id off n cap v
    split at he
    · rename_i hr
      have hn := beq_true he
      subst hn
      refine Calls.mono hc fun e' w' hh => ?_
      obtain ⟨hb, ρ', lo, N, hI, hend⟩ := hh
      cases e' with
      | returned u =>
        cases hend with
        | tup _ cs hs =>
          obtain ⟨csl⟩ := cs
          match csl, hs with
          | [a, b], .cons _ _ _ _ ha (.cons _ _ _ _ hb' .nil) =>
            have hd := avEq_den hr hb'
            cases ha with
            | sliceK _ _ _ cp bl sz hρ hl => exact ⟨⟨_, cp, b, rfl, hd⟩, hb⟩
            | sliceU _ _ _ _ cp bl sz hρ hl hs' => exact ⟨⟨_, cp, b, rfl, hd⟩, hb⟩
      | panicked c => exact hend.elim
      | outgrown => exact hend.elim
    · cases he
  · cases he
end
/-- A slice of numbers. -/
def IntsAt (w : World) (s : Value) (l : List Nat) : Prop :=
  ∃ a c, s = .slice a l.length c ∧ (l = [] ∨ ∃ b o, a = some ⟨b, o, none⟩ ∧ ∀ (j x : Nat), l[j]? = some x → w.cell? ⟨b, o + j, none⟩ = some (.int .i64 (x : Int)))
theorem IntsAt.below {w w' : World} {s : Value} {l : List Nat} (h : IntsAt w s l) (hb : Below w.heap.size w w') : IntsAt w' s l := by
  obtain ⟨a, c, rfl, h1⟩ := h
  refine ⟨a, c, rfl, ?_⟩
  rcases h1 with h1 | ⟨b, o, rfl, h4⟩
  · exact .inl h1
  · exact .inr ⟨b, o, rfl, fun j u hj => (hb.cell (low_of_cell (h4 j u hj))).trans (h4 j u hj)⟩
theorem denl_ints [Unk] : ∀ {l : List Nat} {us : List Value}, DenL (l.map fun k => AV.int .i64 (.ofNat k)) us → ∀ (j x : Nat), l[j]? = some x → us[j]? = some (.int .i64 (x : Int))
  | [], _, _, j, x, h => by simp at h
  | a :: l, [], h, _, _, _ => h.elim
  | a :: l, u :: us, h, j, x, hj => by
    obtain ⟨h1, h2⟩ := h
    have h1 : u = .int .i64 (Int.ofNat a) := h1
    match j, hj with
    | 0, hj => simp at hj; subst hj; rw [h1]; rfl
    | j + 1, hj => exact denl_ints h2 j x (by simpa using hj)
theorem sn_any {m : Int} [Unk] {w : World} {f : Nat} {l : List Nat} {b : Bool} {args : List AV} (h : evalS Tryz.prog (G1 m) orcNo 100000 f args (isSN (l.map fun k => AV.int .i64 (.ofNat k)) (.bool b)) = true) {vs : List Value} (hv : VRs (fun _ => none) args vs) (hG : GlobU m w) :
    Calls Tryz.prog f vs.toArray w fun e w' => ∃ s, e = .returned (.tuple #[s, .bool b]) ∧ IntsAt w' s l ∧ Below w.heap.size w w' := by
  have hO : OrcSound Tryz.prog (G1 m) orcNo := orcSound_given fun f oc hf => by cases hf
  cases l with
  | nil =>
    refine (sn_of_eval hO noNG1 mix1 h hv (hG _)).mono ?_
    rintro e w' ⟨⟨a, c, u, he, hd⟩, hb⟩
    have hd : u = .bool b := hd
    exact ⟨.slice a 0 c, by rw [he, hd], ⟨a, c, rfl, .inl rfl⟩, hb⟩
  | cons x l =>
    refine (sl_of_eval hO noNG1 mix1 (show evalS Tryz.prog (G1 m) orcNo 100000 f args (isSl ((x :: l).map fun k => AV.int .i64 (.ofNat k)) (.bool b)) = true from h) hv (hG _)).mono ?_
    rintro e w' ⟨blk, off, cap, us, u, he, hc, hd, hcell, hu, hb⟩
    have hu : u = .bool b := hu
    rw [List.length_map] at he
    exact ⟨_, by rw [he, hu], ⟨_, cap, rfl, .inr ⟨blk, off, rfl, fun j y hj => hcell j _ (denl_ints hd j y hj)⟩⟩, hb⟩
def fdI (op : Int) : List Nat := if 0 ≤ op ∧ op < 73 then fdB op.toNat else []
theorem fields_of {m : Int} {w : World} (hG : GlobU m w) {f : Nat} (h1 : uptoB (fdRun m f) 73 = true) (h2 : fdFar m f loB = true) (h3 : fdFar m f hiB = true) {op : Int} (hop : inI64 op) :
    Calls Tryz.prog f #[.int .i64 op] w fun e w' => ∃ s, e = .returned (.tuple #[s, .bool (okI op)]) ∧ IntsAt w' s (fdI op) ∧ Below w.heap.size w w' := by
  unfold inI64 at hop
  by_cases h : 0 ≤ op ∧ op < 73
  · obtain ⟨n, rfl⟩ : ∃ n : Nat, op = n := ⟨op.toNat, by omega⟩
    unfold fdI okI
    rw [if_pos h, if_pos h, show ((n : Int)).toNat = n from rfl]
    letI : Unk := Unk.mk (nthI [])
    exact sn_any (vs := [.int .i64 (n : Int)]) (uptoB_true h1 n (by omega)) (.cons _ _ _ _ (.int _ _) .nil) hG
  · unfold fdI okI
    rw [if_neg h, if_neg h]
    have far : ∀ bs : Int × Int, fdFar m f bs = true → bs.1 ≤ op ∧ op ≤ bs.2 → Calls Tryz.prog f #[.int .i64 op] w fun e w' => ∃ s, e = .returned (.tuple #[s, .bool false]) ∧ IntsAt w' s [] ∧ Below w.heap.size w w' := fun bs hev hb => by
      have hw : Ins [op] [bs] := ⟨hb, trivial⟩
      have hin := within_unkL hw
      letI : Unk := Unk.mk (nthI [op])
      have vx : VR (fun _ => none) (lf .i64 [bs] 0) (.int .i64 op) := .lin _ _ _ _ _ (by show op = (0 : Int) + Lin.val (nthI [op]) (e1 0 1) 0; rw [val_u]; show op = 0 + 1 * op; omega) hin
      exact sn_any (l := []) (vs := [.int .i64 op]) hev (.cons _ _ _ _ vx .nil) hG
    by_cases h0 : op < 0
    · exact far loB h2 ⟨by show (-9223372036854775808 : Int) ≤ op; omega, by show op ≤ (-1 : Int); omega⟩
    · exact far hiB h3 ⟨by show (73 : Int) ≤ op; omega, by show op ≤ (9223372036854775807 : Int); omega⟩
theorem fields_p {m : Int} {w : World} (hG : GlobU m w) {op : Int} (hop : inI64 op) : Calls Tryz.prog 30 #[.int .i64 op] w fun e w' => ∃ s, e = .returned (.tuple #[s, .bool (okI op)]) ∧ IntsAt w' s (fdI op) ∧ Below w.heap.size w w' := fields_of hG (fd_30 m) (fd_30l m) (fd_30h m) hop
theorem fields_r {m : Int} {w : World} (hG : GlobU m w) {op : Int} (hop : inI64 op) : Calls Tryz.prog 31 #[.int .i64 op] w fun e w' => ∃ s, e = .returned (.tuple #[s, .bool (okI op)]) ∧ IntsAt w' s (fdI op) ∧ Below w.heap.size w w' := fields_of hG (fd_31 m) (fd_31l m) (fd_31h m) hop
set_option maxRecDepth 100000 in
set_option maxHeartbeats 1000000 in
theorem equal_ints {w : World} {s1 s2 : Value} {l : List Nat} (hn : l.length ≤ 10000000) (h1 : IntsAt w s1 l) (h2 : IntsAt w s2 l) :
    Calls Tryz.prog 32 #[s1, s2] w fun e w' => e = .returned (.bool true) ∧ Below w.heap.size w w' := by
  obtain ⟨a1, c1, rfl, k1⟩ := h1
  obtain ⟨a2, c2, rfl, k2⟩ := h2
  go_enter Tryz.func32, Tryz.ntmps32
  go_wp2
  go_loopw [13] (fun i wr => ∃ k : Nat, k ≤ l.length ∧ i = .int .i64 k ∧ Below w.heap.size w wr) (fun i _ => l.length - (intOf i).toNat)
  case atStart => exact ⟨0, Nat.zero_le _, rfl, Below.refl _ _⟩
  case round =>
    obtain ⟨k, hk, rfl, hbl⟩ := hrel
    by_cases hlt : k < l.length
    · have hne : l ≠ [] := fun e => by rw [e] at hlt; simp at hlt
      obtain ⟨b1, o1, rfl, g1⟩ := k1.resolve_left hne
      obtain ⟨b2, o2, rfl, g2⟩ := k2.resolve_left hne
      have hB := hbl.size
      obtain ⟨x, hx⟩ : ∃ x, l[k]? = some x := ⟨l[k], by simp [hlt]⟩
      have e1 := (hbl.cell (low_of_cell (g1 k x hx))).trans (g1 k x hx)
      have e2 := (hbl.cell (low_of_cell (g2 k x hx))).trans (g2 k x hx)
      have hlt' : (k : Int) < (l.length : Int) := by omega
      clear hx k1 k2 g1 g2
      go_wp2
      go_quiet (fail)
      go_wp2
      go_roundw
      case rel => exact ⟨k + 1, by omega, by go_num, below_drewN hbl _⟩
      case measure => simp [intOf]; omega
    · have : k = l.length := by omega
      subst this
      go_wp2
      go_ret
      exact ⟨rfl, hbl⟩
end Go.Ev

