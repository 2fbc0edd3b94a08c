import Derived.Test.YtepopmplcjhfbaaGreatEvM
import Derived.Laws.Append
set_option linter.unusedSectionVars false
set_option linter.unusedVariables false
set_option linter.unusedSimpArgs false
set_option linter.unnecessarySimpa false
namespace Go.Ev
open Go.RowKit
variable [Unk]
section
variable {P : Program} {G : Nat → Nat → Option AV} {orc : Nat → Option Orc}
theorem Inv.inplace {ρ : Rho} {H H' : Heap} {nx lo N : Nat} {w w' : World} (h : Inv G ρ H nx lo N w) {id b sz : Nat} {o o' : AO} {ob' : Obj}
    (hid : H.get id = some o) (hlo : lo ≤ id) (hr : ρ id = some (b, sz)) (hH : ∀ m, H'.get m = if m = nx then some o' else if m = id then none else H.get m)
    (hw : w'.heap[b]? = some ob') (hother : ∀ k, k ≠ b → w'.heap[k]? = w.heap[k]?) (hsize : w'.heap.size = w.heap.size) (hos : w'.os = w.os) (htape : w'.tape = w.tape) (hout : w'.output = w.output)
    (ho : OR (ρ.put nx b sz) o' sz ob') : ρ.le (ρ.put nx b sz) ∧ Inv G (ρ.put nx b sz) H' (nx + 1) lo N w' ∧ Below N w w' := by
  have hn : ρ nx = none := by
    cases e : ρ nx with
    | none => rfl
    | some p => exact absurd (h.dom nx p e) (by omega)
  have hle := Rho.le_put (ρ := ρ) (i := nx) (b := b) (sz := sz) hn
  obtain ⟨b0, sz0, ob0, h1, h2, h3, h4⟩ := h.obj id o hid
  rw [hr] at h1; simp at h1
  obtain ⟨rfl, rfl⟩ := h1
  have hN := h2 hlo
  have hidn : id < nx := h.dom id _ hr
  have ne : ∀ i, i ≠ nx → ρ.put nx b sz i = ρ i := fun i hi => by simp [Rho.put, hi]
  refine ⟨hle, ?_, ⟨hos, htape, hout, by omega, fun k hk => hother k (by omega)⟩⟩
  constructor
  · intro i p e
    by_cases hi : i = nx
    · omega
    · rw [ne i hi] at e
      have := h.dom i p e
      omega
  · intro i hi
    rw [hH, if_neg (by omega), if_neg (by omega)]
    exact h.fresh i (by omega)
  · intro i oi e
    rw [hH] at e
    by_cases hi : i = nx
    · subst hi
      simp at e; subst e
      exact ⟨b, sz, ob', Rho.put_same _ _ _ _, fun _ => hN, hw, ho⟩
    · rw [if_neg hi] at e
      by_cases hj : i = id
      · rw [if_pos hj] at e; cases e
      · rw [if_neg hj] at e
        obtain ⟨b', sz', ob'', k1, k2, k3, k4⟩ := h.obj i oi e
        refine ⟨b', sz', ob'', (ne i hi).trans k1, k2, ?_, k4.mono hle⟩
        rw [hother b' ?_]
        · exact k3
        · intro eb; subst eb
          exact hj (h.inj i id oi o b' sz' sz e hid k1 hr)
  · have key : ∀ j o2 s1 s2, j ≠ nx → H'.get j = some o2 → ρ.put nx b sz nx = some (b, s1) → ρ.put nx b sz j = some (b, s2) → False := by
      intro j o2 s1 s2 hj e2 r1 r2
      rw [hH, if_neg hj] at e2
      by_cases hj' : j = id
      · rw [if_pos hj'] at e2; cases e2
      · rw [if_neg hj'] at e2
        rw [ne j hj] at r2
        exact hj' (h.inj j id o2 o b s2 sz e2 hid r2 hr)
    intro i j o1 o2 b' s1 s2 e1 e2 r1 r2
    by_cases hi : i = nx
    · by_cases hj : j = nx
      · rw [hi, hj]
      · subst hi
        have eb : b = b' := by
          rw [Rho.put_same] at r1; simp at r1; exact r1.1
        subst eb
        exact (key j o2 s1 s2 hj e2 r1 r2).elim
    · by_cases hj : j = nx
      · subst hj
        have eb : b = b' := by
          rw [Rho.put_same] at r2; simp at r2; exact r2.1
        subst eb
        exact (key i o1 s2 s1 hi e1 r2 r1).elim
      · rw [hH, if_neg hi] at e1
        rw [hH, if_neg hj] at e2
        rw [ne i hi] at r1
        rw [ne j hj] at r2
        by_cases hi' : i = id
        · rw [if_pos hi'] at e1; cases e1
        · by_cases hj' : j = id
          · rw [if_pos hj'] at e2; cases e2
          · rw [if_neg hi'] at e1
            rw [if_neg hj'] at e2
            exact h.inj i j _ _ b' s1 s2 e1 e2 r1 r2
  · intro g off a e
    obtain ⟨hg, v, k1, k2⟩ := h.glob g off a e
    refine ⟨hg, v, ?_, k2⟩
    rw [← k1]
    simp only [World.cell?]
    rw [hother (gp g off).block (by omega)]
  · rw [hsize]; exact h.size
theorem appNew_true {sz : Nat} {H : Heap} {nx : Nat} {e : TypeId} {all : List AV} {n : Nat} {k : KO} (h : appNew P sz H nx e all n k = true) :
    ∃ inf z t H', P.info? e = some inf ∧ (2 * n + 200) * inf.bytes ≤ 281474976710656 ∧ n ≤ 9223372036854775807 ∧ (∀ w, (zeroValue e).run P w = .ok z w) ∧ z.cells.size = sz ∧
      (∀ m, t.get m = all[m]?) ∧ (∀ m, H'.get m = if m = nx then some (.cells t all.length e true) else H.get m) ∧ k (.val (.slice nx 0 n (.un sz))) H' (nx + 1) = true := by
  unfold appNew at h
  split at h
  · cases h
  · rename_i inf hinf
    obtain ⟨g1, h⟩ := guardB_true h
    obtain ⟨g2, h⟩ := guardB_true h
    obtain ⟨a, z, h, hz, hzr⟩ := zeroK_true h
    obtain ⟨g3, h⟩ := guardB_true h
    obtain ⟨t, ht, h⟩ := mkCells_true h
    rw [fN_eq, len_eq] at h
    obtain ⟨H', hH, h⟩ := newK_true h
    rw [fN_eq] at h
    refine ⟨inf, z, t, H', hinf, ble_true g1, ble_true g2, hzr, ?_, ht, hH, h⟩
    have := (hz (fun _ => none)).cells.length
    rw [beq_true g3, len_eq, this]
    simp
theorem zeroCells_size (z : Array Value) (n : Nat) : (Builtin.zeroCells z n).size = n * z.size := by simp [Builtin.zeroCells]
theorem run_append_new {w : World} {ts : Array TypeId} {t u ty e e2 : TypeId} {inf : TypeInfo} {z : Value} (h0 : ts[0]? = some t) (h1 : ts[1]? = some u) (ht : P.underlying t = some (.slice e)) (hu : P.underlying u = some (.slice e2))
    (hinf : P.info? e = some inf) (hz : ∀ w, (zeroValue e).run P w = .ok z w) (base x : Option Addr) (m cap n nc : Nat) {old new : Array Value} (hg : cap < m + n) (h63 : m + n ≤ 9223372036854775807)
    (h48 : (2 * (m + n) + 200) * inf.bytes ≤ 281474976710656) (ho : (Builtin.firstCells inf.size m (.slice base m cap)).run P w.drew = .ok old w.drew) (hn : (Builtin.firstCells inf.size n (.slice x n nc)).run P w.drew = .ok new w.drew) :
    ∃ q, m + n ≤ q ∧ (Builtin.append_ ts ty #[.slice base m cap, .slice x n nc]).run P w = .ok (.slice (some ⟨w.heap.size, 0, none⟩) (m + n) q) (w.drew.alloc (.cells (old ++ new ++ Builtin.zeroCells z.cells (q - (m + n))) e)) := by
  refine ⟨m + n + w.tape w.drawn (.appendCap (m + n) cap e) % (2 ^ 63 - (m + n)), Nat.le_add_right _ _, ?_⟩
  have hng : ¬ (m + n ≤ cap) := by omega
  have h63' : ¬ (9223372036854775807 < ((m : Int) + (n : Int))) := by omega
  have h48' : ¬ (281474976710656 < Builtin.nextslicecap (m + n) cap * inf.bytes) := by
    have k1 := nextslicecap_le (need := m + n) (old := cap) hg
    have k2 : Builtin.nextslicecap (m + n) cap * inf.bytes ≤ (2 * (m + n) + 200) * inf.bytes := Nat.mul_le_mul_right _ (by omega)
    omega
  simp [Builtin.append_, h0, h1, run_underlying ht, run_underlying hu, sizeOf, typeInfo, hinf, Builtin.lenOf, hng, h63', h48', ho, hn, hz, newRow, Question.forced, Question.cut]
def Src (P : Program) (ρ : Rho) (w : World) (sz : Nat) (x : Option Addr) (n : Nat) (l : List AV) : Prop :=
  ∃ vs, VRs ρ l vs ∧ vs.length = n * sz ∧ ∀ nc, (Builtin.firstCells sz n (.slice x n nc)).run P w = .ok vs.toArray w
theorem Src.nil {ρ : Rho} {w : World} {sz : Nat} : Src P ρ w sz none 0 [] := ⟨[], .nil, by simp, fun _ => rfl⟩
theorem Src.of_getMany {ρ : Rho} {H : Heap} {nx lo N : Nat} {w : World} (hI : Inv G ρ H nx lo N w) {id off : Nat} {c : T AV} {m : Nat} {e : TypeId} {tail : Bool} {sz n : Nat}
    (h : H.get id = some (.cells c m e tail)) {l : List AV} (hl : l.length = n * sz) (hg : ∀ i, i < n * sz → c.get (off + i) = l[i]?) {b s : Nat} (hr : ρ id = some (b, s)) :
    Src P ρ w sz (some ⟨b, off, none⟩) n l := by
  obtain ⟨vs, k1, k2, k3⟩ := getMany_vrs hI h hl hg hr
  exact ⟨vs, k1, k2, fun _ => run_loadCells_of k2 k3⟩
theorem appGrow {ρ : Rho} {H1 H' : Heap} {nx lo N : Nat} {w : World} (hI : Inv G ρ H1 nx lo N w.drew) {t : T AV} {oldl newl : List AV} {ovs nvs : List Value} {e : TypeId} {m n sz q : Nat} {z : Value} (hz : z.cells.size = sz)
    (ht : ∀ i, t.get i = (oldl ++ newl)[i]?) (hH : ∀ i, H'.get i = if i = nx then some (.cells t (oldl ++ newl).length e true) else H1.get i) (ho : VRs ρ oldl ovs) (hn : VRs ρ newl nvs)
    (h1 : ovs.length = m * sz) (h2 : nvs.length = n * sz) (hq : m + n ≤ q) :
    ∃ ρ', ρ.le ρ' ∧ Inv G ρ' H' (nx + 1) lo N (w.drew.alloc (.cells (ovs.toArray ++ nvs.toArray ++ Builtin.zeroCells z.cells (q - (m + n))) e)) ∧
      Below w.heap.size w (w.drew.alloc (.cells (ovs.toArray ++ nvs.toArray ++ Builtin.zeroCells z.cells (q - (m + n))) e)) ∧
      VR ρ' (.slice nx 0 (m + n) (.un sz)) (.slice (some ⟨w.heap.size, 0, none⟩) (m + n) q) := by
  have hs : (ovs.toArray ++ nvs.toArray ++ Builtin.zeroCells z.cells (q - (m + n))).size = q * sz := by
    simp only [Array.size_append, List.size_toArray, zeroCells_size, h1, h2, hz, ← Nat.add_mul]
    congr 1; omega
  generalize hcs : ovs.toArray ++ nvs.toArray ++ Builtin.zeroCells z.cells (q - (m + n)) = cs at hs
  have hall := ho.append hn
  have hlen := hall.length
  have hle0 : (oldl ++ newl).length ≤ cs.size := by
    rw [hlen, ← hcs]; simp
  have hwd : w.drew.heap.size = w.heap.size := rfl
  have hor : OR (ρ.put nx w.drew.heap.size cs.size) (.cells t (oldl ++ newl).length e true) cs.size (.cells cs e (0, 0)) := by
    have hnone : ρ nx = none := by
      cases e : ρ nx with
      | none => rfl
      | some p => exact absurd (hI.dom nx p e) (by omega)
    have hle := Rho.le_put (ρ := ρ) (i := nx) (b := w.drew.heap.size) (sz := cs.size) hnone
    refine OR.of_tail ht hle0 (fun i a ea => ?_) ⟨Nat.le_refl _, fun i _ _ => Nat.zero_le i⟩
    obtain ⟨v, e1, e2⟩ := hall.get i a ea
    refine ⟨v, ?_, e2.mono hle⟩
    have hi : i < (ovs ++ nvs).length := (List.getElem?_eq_some_iff.1 e1).1
    rw [← hcs, Array.getElem?_append_left (by simpa using hi)]
    rw [List.append_toArray, List.getElem?_toArray]; exact e1
  obtain ⟨k1, k2, k3⟩ := hI.alloc hH hor
  refine ⟨_, k1, k2, ?_, ?_⟩
  · exact ((Below.refl _ _).drew).trans k3
  · exact .sliceU _ _ _ _ _ _ _ (Rho.put_same _ _ _ _) hq (by rw [hs]; simp)
theorem appTo_true {sz lo : Nat} {H : Heap} {nx : Nat} {e : TypeId} {s : AV} {new : List AV} {n : Nat} {k : KO} (h : appTo P sz lo H nx e s new n k = true) {inf : TypeInfo} (hinf : P.info? e = some inf) (hsz : inf.size = sz) (hsz0 : sz ≠ 0) :
    ∃ a H' nx', k (.val a) H' nx' = true ∧ (lo ≤ nx → HeapLo lo H H') ∧ nx ≤ nx' ∧ ∀ ρ N w sv x nc (ts : Array TypeId) (t u ty e2 : TypeId), ts[0]? = some t → ts[1]? = some u → P.underlying t = some (.slice e) → P.underlying u = some (.slice e2) →
      Inv G ρ H nx lo N w → VR ρ s sv → Src P ρ w sz x n new → Src P ρ w.drew sz x n new →
      ∃ ρ' w' v, ρ.le ρ' ∧ Inv G ρ' H' nx' lo N w' ∧ Below N w w' ∧ (Builtin.append_ ts ty #[sv, .slice x n nc]).run P w = .ok v w' ∧ VR ρ' a v := by
  unfold appTo at h
  split at h
  · -- nil
    split at h
    · refine ⟨_, _, _, h, fun _ => HeapLo.refl _ _, Nat.le_refl _, fun ρ N w sv x nc ts t u ty e2 h0 h1 ht hu hI hs hx hx' => ?_⟩
      cases hs
      obtain ⟨vs, k1, k2, k3⟩ := hx
      refine ⟨ρ, w, .slice none 0 0, Rho.le_refl ρ, hI, Below.refl _ _, ?_, .snil⟩
      subst hsz
      simp [Builtin.append_, h0, h1, run_underlying ht, run_underlying hu, sizeOf, typeInfo, hinf, Builtin.lenOf, k3]
    · rename_i n'
      obtain ⟨inf', z, t', H', hinf', g1, g2, hzr, hzs, ht', hH, h⟩ := appNew_true h
      rw [hinf] at hinf'; cases hinf'
      refine ⟨_, _, _, h, fun hl i hi => by rw [hH, if_neg (by omega)], by omega, fun ρ N w sv x nc ts t u ty e2 h0 h1 ht hu hI hs hx hx' => ?_⟩
      cases hs
      obtain ⟨vs, k1, k2, k3⟩ := hx'
      subst hsz
      obtain ⟨q, hq, hrun⟩ := run_append_new (P := P) (w := w) (ty := ty) h0 h1 ht hu hinf hzr none x 0 0 (n' + 1) nc (old := #[]) (by omega) (by omega) (by simpa using g1) rfl (k3 nc)
      obtain ⟨ρ', r1, r2, r3, r4⟩ := appGrow (m := 0) (e := e) (oldl := []) (ovs := []) (hI.more (Below.refl _ _).drew) hzs (by simpa using ht') (by simpa using hH) .nil k1 (by simp) k2 hq
      simp only [Nat.zero_add] at hrun r4 r2 r3
      exact ⟨ρ', _, _, r1, r2, r3.mono hI.size, hrun, r4⟩
  · rename_i id off m cap
    split at h
    · rename_i gn
      have gn := beq_true gn
      subst gn
      refine ⟨_, _, _, h, fun _ => HeapLo.refl _ _, Nat.le_refl _, fun ρ N w sv x nc ts t u ty e2 h0 h1 ht hu hI hs hx hx' => ?_⟩
      obtain ⟨vs, k1, k2, k3⟩ := hx
      have hvs : vs = [] := List.length_eq_zero_iff.1 (by simpa using k2)
      subst hvs
      subst hsz
      refine ⟨ρ, w, sv, Rho.le_refl ρ, hI, Below.refl _ _, ?_, hs⟩
      cases hs with
      | sliceK _ _ _ cap' b sz hr hlc => simp [Builtin.append_, h0, h1, run_underlying ht, run_underlying hu, sizeOf, typeInfo, hinf, Builtin.lenOf, k3, hlc, storeCells]
      | sliceU _ _ _ _ cap' b sz hr hlc hcs => simp [Builtin.append_, h0, h1, run_underlying ht, run_underlying hu, sizeOf, typeInfo, hinf, Builtin.lenOf, k3, hlc, storeCells]
    rename_i gn
    have gn := beq_false gn
    obtain ⟨o, ho, h⟩ := opt_true h
    split at h
    · rename_i c cn ce ctl
      obtain ⟨oldl, hl, hg, h⟩ := getMany_true _ h
      rw [appA_eq] at h
      split at h
      · rename_i s'
        obtain ⟨g1, h⟩ := guardB_true h
        obtain ⟨g2, h⟩ := guardB_true h
        obtain ⟨g3, h⟩ := guardB_true h
        obtain ⟨g4, h8⟩ := guardB_true h
        clear h
        have g1 := beq_true g1
        have g3 := ble_true g3
        have g4 := beq_true g4
        subst g1 g4
        obtain ⟨H1, hH1, h9⟩ := T.setK_true _ _ _ _ _ h8
        obtain ⟨inf', z, t', H', hinf', b1, b2, hzr, hzs, ht', hH, h⟩ := appNew_true h9
        rw [hinf] at hinf'; cases hinf'
        refine ⟨_, _, _, h, fun hl i hi => by rw [hH, if_neg (by omega), hH1, if_neg (by omega)], by omega, fun ρ N w sv x nc ts t u ty e2 h0 h1 ht hu hI hs hx hx' => ?_⟩
        subst hsz
        cases hs with
        | sliceU _ _ _ _ cap b sz hr hlc hcs =>
          by_cases hroom : m + n ≤ cap
          · -- in its place
            obtain ⟨vs, k1, k2, k3⟩ := hx
            obtain ⟨b', sz', cs, e', l0, h0', q1, q2, q3, q4, q5, q6, q7, q8⟩ := hI.cells ho
            rw [hr] at q1; simp at q1; obtain ⟨rfl, rfl⟩ := q1
            subst q4
            have hmn : m * inf.size + n * inf.size ≤ cap * inf.size := by rw [← Nat.add_mul]; exact Nat.mul_le_mul_right _ hroom
            obtain ⟨w', cs', r1, r2, r3, r4, r5, r6, r7, r8, r9⟩ := run_storeCells_blk (P := P) (off := m * inf.size) vs 0 cs w q3 (by omega) (fun j hj => q8.2 j (by omega)) (oneAll_sound k1 g2)
            have hnl := k1.length
            have hnone : ρ nx = none := by
              cases e : ρ nx with
              | none => rfl
              | some p => exact absurd (hI.dom nx p e) (by omega)
            have hle := Rho.le_put (ρ := ρ) (i := nx) (b := b) (sz := cs.size) hnone
            have hor : OR (ρ.put nx b cs.size) (.cells t' (oldl ++ new).length e true) cs.size (.cells cs' e' (l0, h0')) := by
              refine .cells t' _ e e' true cs' cs.size l0 h0' r3 ?_ (fun h => by cases h) (fun i a ea => ?_) q8
              · rw [List.length_append, hl, hnl, k2]; omega
              · rw [ht'] at ea
                rw [r4]
                by_cases hi : i < m * inf.size
                · rw [List.getElem?_append_left (by omega)] at ea
                  rw [if_neg (by omega)]
                  have := hg i hi
                  rw [Nat.zero_add] at this
                  obtain ⟨v, e1, e2⟩ := q7 i a (by rw [this]; exact ea)
                  exact ⟨v, e1, e2.mono hle⟩
                · rw [List.getElem?_append_right (by omega), hl] at ea
                  obtain ⟨v, e1, e2⟩ := k1.get _ _ ea
                  have hi2 : i - m * inf.size < vs.length := (List.getElem?_eq_some_iff.1 e1).1
                  refine ⟨v, ?_, e2.mono hle⟩
                  rw [if_pos (by omega)]
                  simpa using e1
            obtain ⟨i1, i2, i3⟩ := hI.inplace ho g3 hr (fun i => by rw [hH, hH1]) r2 r5 r6 r7 r8 r9 hor
            refine ⟨_, w', .slice (some ⟨b, 0, none⟩) (m + n) cap, i1, i2, i3, ?_, .sliceU _ _ _ _ _ _ _ (Rho.put_same _ _ _ _) hroom hcs⟩
            have hst : (storeCells ((⟨b, 0, none⟩ : Addr).add (m * inf.size)) vs).run P w = .ok () w' := by rw [add_none, Nat.zero_add]; exact r1
            simp [Builtin.append_, h0, h1, run_underlying ht, run_underlying hu, sizeOf, typeInfo, hinf, Builtin.lenOf, hroom, k3, hst]
          · obtain ⟨vs, k1, k2, k3⟩ := hx'
            have hI' := hI.more (Below.refl _ _).drew
            obtain ⟨ovs, p1, p2, p3⟩ := Src.of_getMany (P := P) (off := 0) hI' ho hl hg hr
            obtain ⟨q, hq, hrun⟩ := run_append_new (P := P) (w := w) (ty := ty) h0 h1 ht hu hinf hzr (some ⟨b, 0, none⟩) x m cap n nc (by omega) b2 b1 (p3 cap) (k3 nc)
            obtain ⟨ρ', r1, r2, r3, r4⟩ := appGrow (e := e) (hI'.drop hH1) hzs ht' hH p1 k1 p2 k2 hq
            exact ⟨ρ', _, _, r1, r2, r3.mono hI.size, hrun, r4⟩
      · rename_i cap
        obtain ⟨g1, h⟩ := guardB_true h
        have g1 := blt_true g1
        obtain ⟨inf', z, t', H', hinf', b1, b2, hzr, hzs, ht', hH, h⟩ := appNew_true h
        rw [hinf] at hinf'; cases hinf'
        refine ⟨_, _, _, h, fun hl i hi => by rw [hH, if_neg (by omega)], by omega, fun ρ N w sv x nc ts t u ty e2 h0 h1 ht hu hI hs hx hx' => ?_⟩
        subst hsz
        cases hs with
        | sliceK _ _ _ cap' b sz hr hlc =>
          obtain ⟨vs, k1, k2, k3⟩ := hx'
          have hI' := hI.more (Below.refl _ _).drew
          obtain ⟨ovs, p1, p2, p3⟩ := Src.of_getMany (P := P) hI' ho hl hg hr
          obtain ⟨q, hq, hrun⟩ := run_append_new (P := P) (w := w) (ty := ty) h0 h1 ht hu hinf hzr (some ⟨b, off, none⟩) x m _ n nc g1 b2 b1 (p3 _) (k3 nc)
          obtain ⟨ρ', r1, r2, r3, r4⟩ := appGrow (e := e) hI' hzs ht' hH p1 k1 p2 k2 hq
          exact ⟨ρ', _, _, r1, r2, r3.mono hI.size, hrun, r4⟩
    · cases h
  · cases h
theorem bAppend_snd (args : Array Operand) (ts : Array TypeId) : OpSnd P G orc (.call ⟨.builtin .append, args, ts⟩) (bAppend args.toList ts.toList) := fun env H nx lo k h => by
  unfold bAppend at h
  split at h
  · rename_i x y hargs
    split at h
    · rename_i t u ts' hts
      obtain ⟨a, ha, h⟩ := ov_true h
      obtain ⟨b, hb, h⟩ := ov_true h
      have ea : ∀ act : Act, args.map act.eval = #[act.eval x, act.eval y] := fun act => by
        apply Array.toList_inj.1; simp [hargs]
      have e0 : ts[0]? = some t := by
        have : ts.toList[0]? = some t := by rw [hts]; rfl
        simpa using this
      have e1 : ts[1]? = some u := by
        have : ts.toList[1]? = some u := by rw [hts]; rfl
        simpa using this
      split at h
      · rename_i e he
        split at h
        · rename_i e2 hu
          obtain ⟨inf, hinf, h, _⟩ := sizeK_true h
          obtain ⟨g1, h⟩ := guardB_true h
          have g1 := beq_false (nb_true g1)
          have fin : ∀ {s : AV} {l : List AV} {n : Nat}, appTo P inf.size lo H nx e s l n k = true →
              (∀ {ρ : Rho} {N : Nat} {w : World} {yv : Value}, Inv G ρ H nx lo N w → VR ρ b yv → ∃ x nc, yv = .slice x n nc ∧ Src P ρ w inf.size x n l) → a = s →
              ∃ out H' nx', k out H' nx' = true ∧ OpOK P G (.call ⟨.builtin .append, args, ts⟩) env H nx lo out H' nx' := by
            intro s l n h hsrc has
            subst has
            obtain ⟨r, H', nx', h, k1, k2, k3⟩ := appTo_true h hinf rfl g1
            refine ⟨_, _, _, h, k1, k2, fun ρ N w n' act o ho hI hE => ?_⟩
            have v1 := aev_sound hE ha
            have v2 := aev_sound hE hb
            obtain ⟨x', nc, ey, hs⟩ := hsrc hI v2
            obtain ⟨x'', nc', ey', hs'⟩ := hsrc (hI.more (Below.refl _ _).drew) v2
            rw [ey] at ey'; cases ey'
            obtain ⟨ρ', w', v, r1, r2, r3, r4, r5⟩ := k3 ρ N w _ x' nc ts t u o.type e2 e0 e1 he hu hI v1 hs hs'
            refine ⟨ρ', w', r1, r2, r3, (fun h => by cases h), v, ?_, r5⟩
            simp [execOp, ho, resolve, invoke, builtin, ea, ey, r4]
          split at h
          · refine fin h (fun {ρ N w yv} hI hv => ?_) rfl
            cases hv
            exact ⟨none, 0, rfl, Src.nil⟩
          · rename_i id off n _
            obtain ⟨ob, hob, h⟩ := opt_true h
            split at h
            · obtain ⟨l, hl, hg, h⟩ := getMany_true _ h
              refine fin h (fun {ρ N w yv} hI hv => ?_) rfl
              cases hv with
              | sliceK _ _ _ _ _ _ hr _ => exact ⟨_, _, rfl, Src.of_getMany hI hob hl hg hr⟩
              | sliceU _ _ _ _ _ _ _ hr _ _ => exact ⟨_, _, rfl, Src.of_getMany hI hob hl hg hr⟩
            · cases h
          · cases h
        · cases h
      · cases h
    · cases h
  · cases h
end
end Go.Ev

