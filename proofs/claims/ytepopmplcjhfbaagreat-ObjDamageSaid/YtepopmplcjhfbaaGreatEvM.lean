import Derived.Test.YtepopmplcjhfbaaGreatEvL
set_option linter.unusedSectionVars false
set_option linter.unusedVariables false
set_option linter.unusedSimpArgs false
set_option linter.unnecessarySimpa false
namespace Go.Ev
open Go.RowKit
variable [Unk]
section
variable {P : Program} {G : Nat → Nat → Option AV} {orc : Nat → Option Orc}
theorem push_modify {α : Type} (a : Array α) (x : α) (f : α → α) : (a.push x).modify a.size f = a.push (f x) := by
  apply Array.ext
  · simp
  · intro i h1 h2
    simp only [Array.getElem_modify, Array.getElem_push]
    by_cases h : a.size = i
    · subst h; simp
    · have hi : i < a.size := by simp at h1; omega
      simp [h, hi]
theorem freeze_new (w : World) (c : Array Value) (e : TypeId) (k : Nat) : (w.alloc (.cells c e)).freeze ⟨w.heap.size, k, none⟩ 1 = w.alloc (.cells c e (k, k + 1)) := by
  unfold World.freeze
  rw [if_neg (by decide)]
  show ({ w.alloc (.cells c e) with heap := (w.heap.push (.cells c e)).modify w.heap.size _ } : World) = _
  rw [push_modify]
  rfl
theorem run_markStringish_new (w : World) (c : Array Value) (e : TypeId) : (markStringish ⟨w.heap.size, 0, none⟩).run P (w.alloc (.cells c e)) = .ok () (w.alloc (.cells c e (c.size, c.size + 1))) := by
  have hsh : (w.alloc (.cells c e)).shape? w.heap.size = some (e, c.size) := by
    have : (w.alloc (.cells c e)).heap[w.heap.size]? = some (.cells c e) := by
      show (w.heap.push (.cells c e))[w.heap.size]? = _
      simp
    unfold World.shape?
    rw [this]
  simp [markStringish, hsh]
  exact freeze_new w c e c.size
theorem frz {sz l hh : Nat} (h : l ≤ hh ∧ ∀ i, i < sz → l ≤ i → hh ≤ i) : (if l == hh then (sz, sz + 1) else (min l sz, max hh (sz + 1))).1 ≤ (if l == hh then (sz, sz + 1) else (min l sz, max hh (sz + 1))).2 ∧
    ∀ i, i < sz → (if l == hh then (sz, sz + 1) else (min l sz, max hh (sz + 1))).1 ≤ i → (if l == hh then (sz, sz + 1) else (min l sz, max hh (sz + 1))).2 ≤ i := by
  cases hb : l == hh with
  | true => simp only [if_true]; exact ⟨by omega, fun i h1 h2 => by omega⟩
  | false =>
    have hlh : l ≠ hh := by simpa using hb
    have hl : sz ≤ l := by
      rcases Nat.lt_or_ge l sz with h' | h'
      · have := h.2 l h' (Nat.le_refl _)
        have := h.1
        omega
      · exact h'
    simp only [Bool.false_eq_true, if_false]
    exact ⟨by omega, fun i h1 h2 => by omega⟩
theorem freeze_heap {w : World} {b n : Nat} {cs : Array Value} {e : TypeId} {l h' : Nat} (hb : w.heap[b]? = some (.cells cs e (l, h'))) :
    (w.freeze ⟨b, n, none⟩ 1).heap[b]? = some (.cells cs e (if l == h' then (n, n + 1) else (min l n, max h' (n + 1)))) := by
  unfold World.freeze
  rw [if_neg (by decide)]
  simp only [Array.getElem?_modify, if_true, hb, Option.map_some]
theorem freeze_other {w : World} {b n k : Nat} (hk : k ≠ b) : (w.freeze ⟨b, n, none⟩ 1).heap[k]? = w.heap[k]? := by
  unfold World.freeze
  rw [if_neg (by decide)]
  simp only [Array.getElem?_modify]
  rw [if_neg (fun h => hk h.symm)]
theorem freeze_size (w : World) (b n : Nat) : (w.freeze ⟨b, n, none⟩ 1).heap.size = w.heap.size := by
  unfold World.freeze
  rw [if_neg (by decide)]
  simp
theorem freeze_rest (w : World) (b n : Nat) : (w.freeze ⟨b, n, none⟩ 1).os = w.os ∧ (w.freeze ⟨b, n, none⟩ 1).tape = w.tape ∧ (w.freeze ⟨b, n, none⟩ 1).output = w.output := by
  unfold World.freeze
  rw [if_neg (by decide)]
  exact ⟨rfl, rfl, rfl⟩
theorem run_markStringish_at {w : World} {b off : Nat} {cs : Array Value} {e : TypeId} {l h' : Nat} (hb : w.heap[b]? = some (.cells cs e (l, h'))) :
    (markStringish ⟨b, off, none⟩).run P w = .ok () (w.freeze ⟨b, cs.size, none⟩ 1) := by
  have hsh : w.shape? b = some (e, cs.size) := by
    unfold World.shape?
    rw [hb]
  simp [markStringish, hsh]
theorem OR.of_tail {ρ : Rho} {t : T AV} {l : List AV} {e e' : TypeId} {cs : Array Value} {lo hi : Nat} (ht : ∀ m, t.get m = l[m]?) (hl : l.length ≤ cs.size)
    (h : ∀ (i : Nat) (a : AV), l[i]? = some a → ∃ v, cs[i]? = some v ∧ VR ρ a v) (hf : lo ≤ hi ∧ ∀ i : Nat, i < cs.size → lo ≤ i → hi ≤ i) : OR ρ (.cells t l.length e true) cs.size (.cells cs e' (lo, hi)) :=
  .cells t l.length e e' true cs cs.size lo hi rfl hl (fun h => by cases h) (fun i a ea => h i a (by rw [← ht]; exact ea)) hf
theorem bytesK_true : ∀ {l : List AV} {k : List Nat → Bool}, bytesK l k = true → ∃ ns, k ns = true ∧ (∀ n ∈ ns, n < 256) ∧ l = ns.map fun n => AV.int .u8 (.ofNat n)
  | [], k, h => ⟨[], h, by simp, rfl⟩
  | a :: l, k, h => by
    unfold bytesK at h
    split at h
    · rename_i heq; cases heq
    · rename_i n l' heq
      cases heq
      obtain ⟨hn, h⟩ := guardB_true h
      obtain ⟨ns, hk, hall, rfl⟩ := bytesK_true h
      exact ⟨n :: ns, hk, fun m hm => by
        rcases List.mem_cons.1 hm with rfl | hm
        · exact blt_true hn
        · exact hall m hm, rfl⟩
    · cases h
theorem vrs_ints {ρ : Rho} : ∀ {ns : List Nat} {vs : List Value}, VRs ρ (ns.map fun n => AV.int .u8 (.ofNat n)) vs → vs = ns.map fun n : Nat => Value.int .u8 (n : Int)
  | [], _, h => by cases h; rfl
  | n :: ns, _, h => by
    cases h with
    | cons _ _ _ _ h1 h2 =>
      cases h1
      rw [vrs_ints h2]; rfl
theorem foldl_bytes : ∀ (ns : List Nat) (s : ByteArray), (∀ n ∈ ns, n < 256) →
    ((ns.map (fun n : Nat => (n : Int))).foldl (fun r n => r.push (UInt8.ofNat n.toNat)) s).data.toList.map UInt8.toNat = s.data.toList.map UInt8.toNat ++ ns
  | [], s, _ => by simp
  | n :: ns, s, h => by
    simp only [List.map_cons, List.foldl_cons]
    rw [foldl_bytes ns _ fun m hm => h m (by simp [hm])]
    have : n < 256 := h n (by simp)
    simp [ByteArray.push, Nat.mod_eq_of_lt this]
theorem oConvert_snd (s d : TypeId) (x : Operand) : OpSnd P G orc (.convert s d x) (oConvert s d x) := fun env H nx lo k h => by
  obtain ⟨a, ha, h⟩ := ov_true h
  split at h
  · rename_i e l hd
    split at h
    · rename_i ds hs he
      obtain ⟨tt, htt, h⟩ := mkCells_true h
      rw [fN_eq, len_eq] at h
      obtain ⟨H', hH, h⟩ := newK_true h
      refine ⟨_, _, _, h, OpOK.fresh hH fun ρ N w n act o ho hI hE => ?_⟩
      have h1 := aev_sound hE ha
      generalize hx : act.eval x = u at h1
      cases h1 with
      | str _ bs hbs =>
        subst hbs
        -- the capacity that the tape gives
        have hcap : ∃ cap, bs.size ≤ cap ∧ (choose (.appendCap bs.size 0 e)).run P w = .ok cap w.drew := by
          refine ⟨bs.size + w.tape w.drawn (.appendCap bs.size 0 e) % (2 ^ 63 - bs.size), Nat.le_add_right _ _, ?_⟩
          simp [Question.forced, Question.cut, World.drew_eq]
        obtain ⟨cap, hc1, hc2⟩ := hcap
        have hlen : (bs.data.toList.map UInt8.toNat).length = bs.size := size_bytes bs
        let cs : Array Value := bs.data.map (fun b => Value.int .u8 b.toNat) ++ Array.replicate (cap - bs.size) (.int .u8 0)
        have hcs : cs.size = cap := by
          have : bs.data.size = bs.size := rfl
          simp [cs, this]; omega
        refine ⟨.cells cs e (cs.size, cs.size + 1), cs.size, .slice (some ⟨w.heap.size, 0, none⟩) bs.size cap, w.drew, (Below.refl _ _).drew, rfl, ?_, fun hle => ⟨?_, ?_⟩⟩
        · have hm := run_markStringish_new (P := P) w.drew cs e
          simp only [World.size_drew] at hm
          simp only [execOp, ho, hx, convert, Sem.run_bind, run_underlying hs, run_underlying hd, run_underlying he, Result.andThen_ok, Conv.stringToBytes, hc2, newRow, run_newObj, Sem.run_pure]
          have e1 : ({ w.drew with heap := w.drew.heap.push (.cells cs e) } : World) = w.drew.alloc (.cells cs e) := rfl
          have e2 : w.drew.heap.size = w.heap.size := rfl
          simp only [e2, cs] at e1 hm ⊢
          rw [e1, hm]
          rfl
        · have := OR.of_tail (ρ := ρ.put nx w.heap.size cs.size) (e := e) (e' := e) (cs := cs) (lo := cs.size) (hi := cs.size + 1) htt (by rw [hcs]; simp [hlen]; rw [← hlen]; simpa using hc1) (fun i a ea => by
            rw [List.getElem?_map] at ea
            cases hq : (bs.data.toList.map UInt8.toNat)[i]? with
            | none => rw [hq] at ea; cases ea
            | some q =>
              rw [hq] at ea; simp at ea; subst ea
              have hi : i < bs.data.size := by
                have := (List.getElem?_eq_some_iff.1 hq).1
                simpa using this
              have hq' : bs.data[i].toNat = q := by
                have := (List.getElem?_eq_some_iff.1 hq).2
                simpa using this
              refine ⟨.int .u8 q, ?_, .int _ _⟩
              simp only [cs]
              rw [Array.getElem?_append_left (by simpa using hi)]
              simp only [Array.getElem?_map, Array.getElem?_eq_getElem (show i < bs.data.size from hi), Option.map_some, hq']) ⟨by omega, fun i h1 h2 => by omega⟩
          simpa using this
        · rw [hlen]
          exact .sliceU _ _ _ _ _ _ _ (Rho.put_same _ _ _ _) hc1 (by rw [hcs]; omega)
    · cases h
  · rename_i id off m cap hd
    split at h
    · rename_i e hs
      split at h
      · rename_i he
        obtain ⟨ob, hob, h⟩ := opt_true h
        split at h
        · obtain ⟨l, hl, hg, h⟩ := getMany_true _ h
          obtain ⟨ns, h9, hall, rfl⟩ := bytesK_true h
          clear h
          refine ⟨_, _, _, h9, OpOK.pure fun ρ N w n act o ho hI hE => ?_⟩
          have h1 := aev_sound hE ha
          generalize hx : act.eval x = u at h1
          have fin : ∀ {bl sz : Nat} (c : Nat), ρ id = some (bl, sz) → ∃ u, (convert s d (.slice (some ⟨bl, off, none⟩) m c)).run P w = .ok u w ∧ VR ρ (.str ns) u := by
            intro bl sz c hr
            obtain ⟨vs, k1, k2, k3⟩ := getMany_vrs hI hob hl hg hr
            have hvs := vrs_ints k1
            have hload := run_loadCells_of (P := P) k2 k3
            rw [hvs] at hload
            have hload' : (loadCells ⟨bl, off, none⟩ m).run P w = .ok ((ns.map (fun n : Nat => (n : Int))).map (Value.int .u8)).toArray w := by
              rw [hload]; simp [List.map_map]
            have e1 := (run_convert_bytes_string w s d e _ m c hs he hd).trans (run_bytesToString w _ m c _ hload')
            refine ⟨_, e1, .str ns _ ?_⟩
            · rw [foldl_bytes ns _ hall]; simp
          cases h1 with
          | sliceK _ _ _ c bl sz hr hl =>
            obtain ⟨u, e1, e2⟩ := fin c hr
            exact ⟨u, by simp [execOp, ho, hx, e1], e2⟩
          | sliceU _ _ _ _ c bl sz hr hl =>
            obtain ⟨u, e1, e2⟩ := fin c hr
            exact ⟨u, by simp [execOp, ho, hx, e1], e2⟩
        · cases h
      · cases h
    · cases h
  · rename_i e2 id off m cap hd
    split at h
    · rename_i e hs
      split at h
      · rename_i he
        obtain ⟨hsd, h7⟩ := guardB_true h
        obtain ⟨hlo, h8⟩ := guardB_true h7
        clear h h7
        have hsd := beq_true hsd
        have hlo := ble_true hlo
        subst hsd
        rw [hs] at hd
        cases hd
        obtain ⟨ob, hob, h⟩ := opt_true h8
        clear h8
        split at h
        · rename_i c n' e3 tl
          refine ⟨_, _, _, h, fun _ => HeapLo.refl _ _, Nat.le_refl _, fun ρ N w n act o ho hI hE => ?_⟩
          have h1 := aev_sound hE ha
          generalize hx : act.eval x = u at h1
          have fin : ∀ {bl sz : Nat} (cp : Nat), ρ id = some (bl, sz) → VR ρ (.slice id off m cap) (.slice (some ⟨bl, off, none⟩) m cp) → act.eval x = .slice (some ⟨bl, off, none⟩) m cp →
              ∃ ρ' w', ρ.le ρ' ∧ Inv G ρ' H nx lo N w' ∧ Below N w w' ∧ (keepF (.convert s s x) = true → Below w.heap.size w w') ∧ OutR P ρ ρ' w w' (.val (.slice id off m cap)) ((execOp act.eval o).run P w) := by
            intro bl sz cp hr hv hxe
            obtain ⟨b, sz', cs, e', l, hh, k1, k2, k3, k4, k5, k6, k7, k8⟩ := hI.cells hob
            rw [hr] at k1; simp at k1; obtain ⟨rfl, rfl⟩ := k1
            obtain ⟨f1, f2, f3⟩ := freeze_rest w bl cs.size
            obtain ⟨i1, i2⟩ := hI.set (H' := H) (o' := .cells c n' e3 tl) hob hlo hr (fun q => by by_cases hq : q = id <;> simp [hq, hob]) (freeze_heap (n := cs.size) k3) (fun q hq => freeze_other hq) (freeze_size _ _ _) f1 f2 f3
              (.cells c n' e3 e' tl cs sz _ _ k4 k5 k6 k7 (by rw [k4]; exact frz k8))
            refine ⟨ρ, _, Rho.le_refl ρ, i1, i2, fun hk => ?_, _, ?_, hv⟩
            · have hk : nb (Nat.beq s s) = true := hk
              rw [hsd] at hk
              cases hk
            · simp only [execOp, ho, hxe, convert, Sem.run_bind, run_underlying hs, run_underlying he, Result.andThen_ok, beq_self_eq_true, run_markStringish_at k3, Sem.run_pure]
          have h1' := h1
          cases h1 with
          | sliceK _ _ _ cp bl sz hr hl => exact fin cp hr h1' hx
          | sliceU _ _ _ _ cp bl sz hr hl hs' => exact fin cp hr h1' hx
        · cases h
      · cases h
    · cases h
  · rename_i hd
    split at h
    · rename_i e hs
      split at h
      · rename_i he
        refine ⟨_, _, _, h, OpOK.pure fun ρ N w n act o ho hI hE => ?_⟩
        have h1 := aev_sound hE ha
        generalize hx : act.eval x = u at h1
        cases h1
        refine ⟨.string .empty, ?_, .str _ _ (by simp)⟩
        simp [execOp, ho, hx, run_convert_bytes_string w s d e _ 0 0 hs he hd, Conv.bytesToString]
      · cases h
    · cases h
  · unfold convK at h
    split at h
    · rename_i sd kd kk m hs hd _ _ _ _
      rw [awrapK_eq] at h
      refine ⟨_, _, _, h, OpOK.pure fun ρ N w n act o ho hI hE => ?_⟩
      have h1 := aev_sound hE ha
      generalize hx : act.eval x = u at h1
      cases h1
      exact ⟨.int kd _, by simp [execOp, ho, hx, convert, run_underlying hs, run_underlying hd, Conv.intToInt], .int _ _⟩
    · rename_i sd kd kk c l bs hs hd _ _ _ _
      obtain ⟨p, hp, h1⟩ := opt_true h
      obtain ⟨r, h2, hr⟩ := linK_true h1
      refine ⟨_, _, _, h2, OpOK.pure fun ρ N w n act o ho hI hE => ?_⟩
      have h1 := aev_sound hE ha
      generalize hx : act.eval x = u at h1
      cases h1 with
      | lin _ _ _ _ m hm hb =>
        exact ⟨.int kd (kd.wrap m), by simp [execOp, ho, hx, convert, run_underlying hs, run_underlying hd, Conv.intToInt], hr ρ _ (by rw [hm]; exact Lin.wrapF_true hp hb) hb⟩
    · rename_i sd l hs hd _ _ _ _
      refine ⟨_, _, _, h, OpOK.pure fun ρ N w n act o ho hI hE => ?_⟩
      have h1 := aev_sound hE ha
      generalize hx : act.eval x = u at h1
      cases h1 with
      | str _ bs hbs =>
        exact ⟨.string bs, by simp [execOp, ho, hx, convert, run_underlying hs, run_underlying hd], .str _ _ hbs⟩
    · cases h
end
end Go.Ev

