import Derived.Test.YtepopmplcjhfbaaGreatEvZ
set_option linter.unusedSectionVars false
set_option linter.unusedVariables false
set_option linter.unusedSimpArgs false
set_option linter.unnecessarySimpa false
namespace Go.Ev
open Go.RowKit
variable [Unk]
section
variable {P : Program} {G : Nat → Nat → Option AV} {orc : Nat → Option Orc} {ec : Nat → Nat → List AV → Heap → Nat → (AEnd → Heap → Nat → Bool) → Bool}
inductive DOut where
  | norm (env : Env) (H : Heap) (nx : Nat)
  | pan (c : List APanic) (env : Env) (H : Heap) (nx : Nat)
def DOut.on (k : T AV → Heap → Nat → Bool) (kp : List APanic → T AV → Heap → Nat → Bool) : DOut → Bool
  | .norm env H nx => k env H nx
  | .pan c env H nx => kp c env H nx
def DOut.heap : DOut → Heap
  | .norm _ H _ => H
  | .pan _ _ H _ => H
def DOut.nx : DOut → Nat
  | .norm _ _ nx => nx
  | .pan _ _ _ nx => nx
def DK (G : Nat → Nat → Option AV) (lo n : Nat) (ρ : Rho) (N : Nat) (w : World) (ds : List Deferred) : DOut → Act → World → Prop
  | .norm env' H' nx', a', w' => ∃ ρ', ρ.le ρ' ∧ Inv G ρ' H' nx' lo N w' ∧ Below N w w' ∧ EnvR ρ' env' n a'.tmps ∧ a'.defers = ds
  | .pan .., _, _ => False
def DP (G : Nat → Nat → Option AV) (lo n : Nat) (ρ : Rho) (N : Nat) (w : World) (ds : List Deferred) : DOut → List PanicEntry → Act → World → Prop
  | .pan c env' H' nx', ps, a', w' => ∃ ρ', ρ.le ρ' ∧ Inv G ρ' H' nx' lo N w' ∧ Below N w w' ∧ EnvR ρ' env' n a'.tmps ∧ a'.defers = ds ∧ ChainR ρ' c ps
  | .norm .., _, _, _ => False
theorem DK_lift {lo n N : Nat} {ρ ρ1 : Rho} {w w1 : World} {ds : List Deferred} (hle : ρ.le ρ1) (hb : Below N w w1) : ∀ {out : DOut} {a' : Act} {w' : World}, DK G lo n ρ1 N w1 ds out a' w' → DK G lo n ρ N w ds out a' w'
  | .norm _ _ _, _, _, ⟨ρ', h1, h2, h3, h4, h5⟩ => ⟨ρ', Rho.le_trans hle h1, h2, hb.trans h3, h4, h5⟩
  | .pan .., _, _, h => h.elim
theorem DP_lift {lo n N : Nat} {ρ ρ1 : Rho} {w w1 : World} {ds : List Deferred} (hle : ρ.le ρ1) (hb : Below N w w1) : ∀ {out : DOut} {c : List PanicEntry} {a' : Act} {w' : World}, DP G lo n ρ1 N w1 ds out c a' w' → DP G lo n ρ N w ds out c a' w'
  | .pan .., _, _, _, ⟨ρ', h1, h2, h3, h4⟩ => ⟨ρ', Rho.le_trans hle h1, h2, hb.trans h3, h4⟩
  | .norm _ _ _, _, _, _, h => h.elim
theorem anyC_mono {ops : Array Oper} {kp : Nat → Bool} {K K' : Act → World → Prop} {Kp Kp' : List PanicEntry → Act → World → Prop} (h1 : ∀ a w, K a w → K' a w) (h2 : ∀ c a w, Kp c a w → Kp' c a w) : ∀ (fuel : Nat) (listed : Array Bool) (a : Act) (w : World),
    anyC P ops kp K Kp fuel listed a w → anyC P ops kp K' Kp' fuel listed a w
  | 0, _, _, _, h => ⟨h.1, fun w0 h0 => h1 _ _ (h.2 w0 h0)⟩
  | fuel + 1, listed, a, w, h => fun w0 h0 => ⟨fun hr => h1 _ _ ((h w0 h0).1 hr), fun i hi => by
      obtain ⟨o, k1, k2, k3⟩ := (h w0 h0).2 i hi
      exact ⟨o, k1, fun hw => does_mono (k2 hw) (fun u w' _ hk => anyC_mono h1 h2 fuel _ _ _ hk) (fun _ c w' hk => h2 _ _ _ hk), fun hw => anyC_mono h1 h2 fuel _ _ _ (k3 hw)⟩⟩
def Upto (ops : Array Oper) (i : Nat) (listed : Array Bool) : Prop := listed.size = ops.size ∧ ∀ j, j < ops.size → listed[j]? = some (decide (j < i))
theorem Upto.next {ops : Array Oper} {i : Nat} {listed : Array Bool} (h : Upto ops i listed) : Upto ops (i + 1) (listed.setIfInBounds i true) := by
  refine ⟨by simp [h.1], fun j hj => ?_⟩
  by_cases hij : i = j
  · subst hij
    have : i < listed.size := by rw [h.1]; exact hj
    simp [this]
  · rw [Array.getElem?_setIfInBounds_ne hij, h.2 j hj]
    congr 1
    simp; omega
theorem Upto.getD {ops : Array Oper} {i : Nat} {listed : Array Bool} (h : Upto ops i listed) {j : Nat} (hj : j < ops.size) (d : Bool) : listed.getD j d = decide (j < i) := by
  simp [h.2 j hj]
theorem Upto.ready {ops : Array Oper} {i : Nat} {listed : Array Bool} (h : Upto ops i listed) {o : Oper} (ho : ops[i]? = some o) (he : ∀ e ∈ o.after, Region.binds .any e = true → e.on < i) : i ∈ Region.ready .any ops listed := by
  have hi := getElem?_lt ho
  refine mem_ready.2 ⟨by rw [h.getD hi]; simp, o, ho, fun e hm hb => ?_⟩
  have := he e hm hb
  rw [h.getD (by omega)]; simpa using this
theorem take_true {ops : Array Oper} {B : List Nat} (hB : GoodB ops B) (hlen : ∀ (j : Nat) oj, ops[j]? = some oj → ∃ b, B[j]? = some b) {kp : Nat → Bool} {K : Act → World → Prop} {Kp : List PanicEntry → Act → World → Prop} {i : Nat} {o : Oper} {kq q : Bool}
    {r : List (Oper × Bool × Bool)} (hp : PlanOK ops B kp i ((o, kq, q) :: r)) {listed : Array Bool} (hu : Upto ops i listed) (hc : Closed ops listed) {a : Act} {w : World}
    (h : (q = true ∧ ∃ v, Qt P ops o v a w ∧ anyC P ops kp K Kp (ops.size - (i + 1)) (listed.setIfInBounds i true) (a.put o.dst v) w) ∨
      (q = false ∧ ∀ w0, Below w.heap.size w w0 → opC P ops kp i (anyC P ops kp K Kp (ops.size - (i + 1)) (listed.setIfInBounds i true)) Kp a w0)) :
    anyC P ops kp K Kp (ops.size - i) listed a w := by
  obtain ⟨ho, hk, hon, hwa, hkeep, hq, hnq, hrest⟩ := hp
  have hi := getElem?_lt ho
  have hsz : ops.size - i = (ops.size - (i + 1)) + 1 := by omega
  have hready := hu.ready ho hon
  rw [hsz]
  rcases h with ⟨rfl, v, h1, h2⟩ | ⟨rfl, h⟩
  · obtain ⟨k1, k2, k3⟩ := hq rfl
    refine anyC_first hB hlen ho (keepOp_select (quiet_keep k2)) _ listed a w (fun j oj b hoj hb hji hun hnb => ?_) hc hready h1 h2
    have hj := getElem?_lt hoj
    rw [hu.getD hj] at hun
    have hij : i < j := by simp at hun; omega
    obtain ⟨m1, m2⟩ := PlanOK.later hrest (by omega) hoj hb hij hnb
    exact ⟨m1, keepOp_select m2, k3 j oj b hij hoj hb hnb⟩
  · intro w0 h0
    refine ⟨fun hr => (by rw [hr] at hready; cases hready), fun j hj => ?_⟩
    have hji : j = i := by
      obtain ⟨hun, oj, hoj, _⟩ := mem_ready.1 hj
      have hjs := getElem?_lt hoj
      rw [hu.getD hjs] at hun
      simp at hun
      rcases Nat.lt_or_ge i j with hij | hij
      · obtain ⟨b, hb⟩ := hlen j oj hoj
        have := ready_waits hB hc hj hb (hnq rfl j b hij hb)
        rw [hu.getD hi] at this
        simp at this
      · omega
    subst hji
    exact h w0 h0
theorem drawK_true (hO : OrcSound P G orc) (hNG : NoNG P) (hec : EcSnd P G ec) {lo n : Nat} {ops : Array Oper} {B : List Nat} (hB : GoodB ops B) (hlen : ∀ (j : Nat) oj, ops[j]? = some oj → ∃ b, B[j]? = some b) {kp : Nat → Bool}
    {k : T AV → Heap → Nat → Bool} {kpn : List APanic → T AV → Heap → Nat → Bool} : ∀ (pl : List (Oper × Bool × Bool)) (i : Nat) (env : Env) (H : Heap) (nx : Nat), PlanOK ops B kp i pl → drawK P G orc ec lo n ops pl env H nx k kpn = true →
    ∃ out : DOut, out.on k kpn = true ∧ nx ≤ out.nx ∧ (lo ≤ nx → HeapLo lo H out.heap) ∧ ∀ ρ N w a listed, Upto ops i listed → Closed ops listed → Inv G ρ H nx lo N w → EnvR ρ env n a.tmps →
      anyC P ops kp (DK G lo n ρ N w a.defers out) (DP G lo n ρ N w a.defers out) (ops.size - i) listed a w
  | [], i, env, H, nx, hp, h => by
    refine ⟨.norm env H nx, h, Nat.le_refl _, fun _ => HeapLo.refl _ _, fun ρ N w a listed hu hc hI hE => ?_⟩
    have hp : ops.size ≤ i := hp
    have hz : ops.size - i = 0 := by omega
    rw [hz]
    refine ⟨?_, fun w0 h0 => ⟨ρ, Rho.le_refl ρ, hI.more h0, h0.mono hI.size, hE, rfl⟩⟩
    cases hr : Region.ready .any ops listed with
    | nil => rfl
    | cons x l =>
      have hx : x ∈ Region.ready .any ops listed := by rw [hr]; simp
      obtain ⟨hun, o, ho, _⟩ := mem_ready.1 hx
      have := getElem?_lt ho
      rw [hu.getD this] at hun
      simp at hun
      omega
  | (o, kq, q) :: r, i, env, H, nx, hp, h => by
    have hp' := hp
    obtain ⟨ho, hk, hon, hwa, hkeep, hq, hnq, hrest⟩ := hp
    unfold drawK at h
    obtain ⟨bw, h, hw⟩ := wantedK_true h
    -- the rest, from a world on that fits
    have step : ∀ {env1 H1 nx1 v}, nx ≤ nx1 → (lo ≤ nx → HeapLo lo H H1) → (∀ (ρ : Rho) (act : Act) (u : Value), EnvR ρ env n act.tmps → VR ρ v u → EnvR ρ env1 n (act.put o.dst u).tmps) → drawK P G orc ec lo n ops r env1 H1 nx1 k kpn = true →
        ∃ out : DOut, out.on k kpn = true ∧ nx ≤ out.nx ∧ (lo ≤ nx → HeapLo lo H out.heap) ∧ ∀ ρ ρ1 N w w1 (a : Act) (u : Value) listed, Upto ops i listed → Closed ops listed → ρ.le ρ1 → Below N w w1 → Inv G ρ1 H1 nx1 lo N w1 → EnvR ρ env n a.tmps → VR ρ1 v u →
          anyC P ops kp (DK G lo n ρ N w a.defers out) (DP G lo n ρ N w a.defers out) (ops.size - (i + 1)) (listed.setIfInBounds i true) (a.put o.dst u) w1 := by
      intro env1 H1 nx1 v h1 h2 h3 h4
      obtain ⟨out, k1, k2, k3, k4⟩ := drawK_true hO hNG hec hB hlen r (i + 1) env1 H1 nx1 hrest h4
      refine ⟨out, k1, Nat.le_trans h1 k2, fun hl => (h2 hl).trans (k3 (Nat.le_trans hl h1)), fun ρ ρ1 N w w1 a u listed hu hc hle hb hI hE hv => ?_⟩
      have := k4 ρ1 N w1 (a.put o.dst u) (listed.setIfInBounds i true) hu.next (hc.set (hu.ready ho hon)) hI (h3 ρ1 a u (hE.mono hle) hv)
      rw [Act.put_defers] at this
      exact anyC_mono (fun _ _ => DK_lift hle hb) (fun _ _ _ => DP_lift hle hb) _ _ _ _ this
    cases bw with
    | false =>
      simp only at h
      obtain ⟨env1, h, he⟩ := putK_true h
      obtain ⟨out, k1, k2, k3, k4⟩ := step (Nat.le_refl _) (fun _ => HeapLo.refl _ _) he h
      refine ⟨out, k1, k2, k3, fun ρ N w a listed hu hc hI hE => take_true hB hlen hp' hu hc ?_⟩
      have hww := hw ρ n a o rfl hE
      cases q with
      | true => exact .inl ⟨rfl, undef, fun w' _ => ⟨(fun hw' => by rw [hww] at hw'; cases hw'), fun _ => rfl⟩, k4 ρ ρ N w w a undef listed hu hc (Rho.le_refl ρ) (Below.refl _ _) hI hE VR.undef⟩
      | false => exact .inr ⟨rfl, fun w0 h0 => ⟨o, ho, (fun hw' => by rw [hww] at hw'; cases hw'), fun _ => k4 ρ ρ N w w0 a undef listed hu hc (Rho.le_refl ρ) (h0.mono hI.size) (hI.more h0) hE VR.undef⟩⟩
    | true =>
      simp only at h
      obtain ⟨out, H1, nx1, h, hlo, hnx, hok⟩ := aopF_snd hO hNG o.op env H nx lo _ h
      -- a call within
      have call : ∀ {f : Nat} {args : List AV} {lo' : Nat} {kk : AEnd → Heap → Nat → Bool}, ec lo' f args H1 nx1 kk = true → ∃ e H2 nx2, kk e H2 nx2 = true ∧ nx1 ≤ nx2 ∧ (lo' ≤ nx1 → HeapLo lo' H1 H2) ∧
          ∀ ρ N w (a : Act) (r : Result Next), Inv G ρ H1 nx1 lo' N w → OutR P ρ ρ w w (.enter f args) r → ∃ vs : List Value, r = .ok (.enter f vs.toArray) w ∧
            Calls P f vs.toArray w fun e' w' => ∃ ρ', ρ.le ρ' ∧ Inv G ρ' H2 nx2 lo' N w' ∧ Below N w w' ∧ EndR ρ' e e' := by
        intro f args lo' kk hk
        obtain ⟨e, H2, nx2, c1, c2, c3, ⟨fn, c, c4, c5⟩, c6⟩ := hec lo' f args H1 nx1 kk hk
        refine ⟨e, H2, nx2, c1, c2, c3, fun ρ N w a r hI hr => ?_⟩
        obtain ⟨vs, g1, _, _, g2⟩ := hr
        exact ⟨vs, g1 fn c c4 c5, c6 ρ N w vs hI g2⟩
      cases q with
      | true =>
        obtain ⟨hkq, hqq, _⟩ := hq rfl
        simp only at h
        -- the value is one alone: it is enough to have it in each world
        have fin : ∀ {v : AV}, exA H 4 v = true → (putK env n o.dst v fun env => drawK P G orc ec lo n ops r env H nx k kpn) = true →
            (∀ ρ N w (a : Act), Inv G ρ H nx lo N w → EnvR ρ env n a.tmps → does P true w (fun u _ => VR ρ v u) (fun _ _ => False) ((execOp a.eval o).run P w)) →
            (∀ ρ N w (a : Act), Inv G ρ H nx lo N w → EnvR ρ env n a.tmps → ∃ u, VR ρ v u) →
            ∃ out : DOut, out.on k kpn = true ∧ nx ≤ out.nx ∧ (lo ≤ nx → HeapLo lo H out.heap) ∧ ∀ ρ N w a listed, Upto ops i listed → Closed ops listed → Inv G ρ H nx lo N w → EnvR ρ env n a.tmps →
              anyC P ops kp (DK G lo n ρ N w a.defers out) (DP G lo n ρ N w a.defers out) (ops.size - i) listed a w := by
          intro v hex h hdo hval
          obtain ⟨env1, h, he⟩ := putK_true h
          obtain ⟨out, k1, k2, k3, k4⟩ := step (Nat.le_refl _) (fun _ => HeapLo.refl _ _) he h
          refine ⟨out, k1, k2, k3, fun ρ N w a listed hu hc hI hE => take_true hB hlen hp' hu hc (.inl ⟨rfl, ?_⟩)⟩
          obtain ⟨u, hu'⟩ := hval ρ N w a hI hE
          refine ⟨u, fun w' hb => ⟨fun _ => does_mono (hdo ρ N w' a (hI.more hb) hE) (fun u' _ _ hv => exA_uniq 4 v u' u hex hv hu') (fun _ _ _ h => h), (fun hw' => by rw [hw ρ n a o rfl hE] at hw'; cases hw')⟩, k4 ρ ρ N w w a u listed hu hc (Rho.le_refl ρ) (Below.refl _ _) hI hE hu'⟩
        -- a run yields a value
        have some' : ∀ {v : AV}, (∀ ρ N w (a : Act), Inv G ρ H nx lo N w → EnvR ρ env n a.tmps → does P true w (fun u _ => VR ρ v u) (fun _ _ => False) ((execOp a.eval o).run P w)) →
            ∀ ρ N w (a : Act), Inv G ρ H nx lo N w → EnvR ρ env n a.tmps → ∃ u, VR ρ v u := by
          intro v hdo ρ N w a hI hE
          have hd := hdo ρ N w a hI hE
          generalize (execOp a.eval o).run P w = rr at hd
          cases rr with
          | halt x w' => exact hd.elim
          | ok x w' =>
            cases x with
            | value u => exact ⟨_, hd.1⟩
            | skip => exact ⟨_, hd.1⟩
            | enter f args =>
              obtain ⟨e, w'', fr, he, _⟩ := hd []
              cases e with
              | returned u => exact ⟨_, he.1⟩
              | panicked c => exact he.2.elim
              | outgrown => exact he.elim
            | _ => exact hd.elim
        have hkf := keepOp_keepF (hkeep hkq)
        split at h
        · rename_i v
          obtain ⟨hex, h⟩ := guardB_true h
          have hdo : ∀ ρ N w (a : Act), Inv G ρ H nx lo N w → EnvR ρ env n a.tmps → does P true w (fun u _ => VR ρ v u) (fun _ _ => False) ((execOp a.eval o).run P w) := fun ρ N w a hI hE => by
            obtain ⟨ρ', w', q1, q2, q3, q4, u, q5, q6⟩ := hok ρ N w n a o rfl hI hE
            rw [q5]
            exact ⟨exA_back hI q1 hex q6, fun _ => q4 hkf⟩
          exact fin hex h hdo (some' hdo)
        · rename_i f as v
          obtain ⟨hex, h⟩ := guardB_true h
          have hdo : ∀ ρ N w (a : Act), Inv G ρ H nx lo N w → EnvR ρ env n a.tmps → does P true w (fun u _ => VR ρ v u) (fun _ _ => False) ((execOp a.eval o).run P w) := fun ρ N w a hI hE => by
            obtain ⟨ρ', w', q1, q2, q3, q4, q5, q6, q7⟩ := hok ρ N w n a o rfl hI hE
            subst q5 q6
            rcases q7 with ⟨u, g1, g2⟩ | ⟨vs, g1, g2⟩
            · rw [g1]; exact ⟨g2, fun _ => Below.refl _ _⟩
            · rw [g1]
              refine Calls.mono g2 fun e w'' he => ?_
              obtain ⟨u, rfl, j1, j2⟩ := he
              exact ⟨j1, fun _ => j2⟩
          exact fin hex h hdo (some' hdo)
        · have hdo : ∀ ρ N w (a : Act), Inv G ρ H nx lo N w → EnvR ρ env n a.tmps → does P true w (fun u _ => VR ρ (.tup []) u) (fun _ _ => False) ((execOp a.eval o).run P w) := fun ρ N w a hI hE => by
            obtain ⟨ρ', w', q1, q2, q3, q4, q5⟩ := hok ρ N w n a o rfl hI hE
            have q5 : (execOp a.eval o).run P w = .ok .skip w' := q5
            rw [q5]
            exact ⟨VR.undef, fun _ => q4 hkf⟩
          exact fin rfl h hdo (some' hdo)
        · rename_i f args
          obtain ⟨e, H2, nx2, c1, c2, c3, c4⟩ := call h
          split at c1
          · rename_i v
            obtain ⟨hex, c1⟩ := guardB_true c1
            have hdo : ∀ ρ N w (a : Act), Inv G ρ H nx lo N w → EnvR ρ env n a.tmps → does P true w (fun u _ => VR ρ v u) (fun _ _ => False) ((execOp a.eval o).run P w) := fun ρ N w a hI hE => by
              obtain ⟨ρ', w', q1, q2, q3, q4, q5⟩ := hok ρ N w n a o rfl hI hE
              have q6 := q5
              obtain ⟨vs0, _, e1, e2, _⟩ := q6
              subst e1 e2
              obtain ⟨vs, g1, g2⟩ := c4 ρ' w'.heap.size w' a _ q2.shut q5
              rw [g1]
              refine Calls.mono g2 fun e' w'' he => ?_
              obtain ⟨ρ2, j1, j2, j3, j4⟩ := he
              cases e' with
              | returned u => exact ⟨exA_back hI j1 hex j4, fun _ => j3⟩
              | panicked c => exact j4.elim
              | outgrown => exact j4.elim
            exact fin hex c1 hdo (some' hdo)
          · cases c1
        · cases h
      | false =>
        simp only at h
        -- what the operation does, in each world, leads on
        have fin : ∀ {v H2 nx2}, nx ≤ nx2 → (lo ≤ nx → HeapLo lo H H2) → (putK env n o.dst v fun env => drawK P G orc ec lo n ops r env H2 nx2 k kpn) = true →
            (∀ ρ N w (a : Act), Inv G ρ H nx lo N w → EnvR ρ env n a.tmps → does P kq w (fun u w' => ∃ ρ', ρ.le ρ' ∧ Inv G ρ' H2 nx2 lo N w' ∧ Below N w w' ∧ VR ρ' v u) (fun _ _ => False) ((execOp a.eval o).run P w)) →
            ∃ out : DOut, out.on k kpn = true ∧ nx ≤ out.nx ∧ (lo ≤ nx → HeapLo lo H out.heap) ∧ ∀ ρ N w a listed, Upto ops i listed → Closed ops listed → Inv G ρ H nx lo N w → EnvR ρ env n a.tmps →
              anyC P ops kp (DK G lo n ρ N w a.defers out) (DP G lo n ρ N w a.defers out) (ops.size - i) listed a w := by
          intro v H2 nx2 hn2 hl2 h hdo
          obtain ⟨env1, h, he⟩ := putK_true h
          obtain ⟨out, k1, k2, k3, k4⟩ := step hn2 hl2 he h
          refine ⟨out, k1, k2, k3, fun ρ N w a listed hu hc hI hE => take_true hB hlen hp' hu hc (.inr ⟨rfl, fun w0 h0 => ⟨o, ho, fun _ => ?_, (fun hw' => by rw [hw ρ n a o rfl hE] at hw'; cases hw')⟩⟩)⟩
          rw [hk]
          refine does_mono (hdo ρ N w0 a (hI.more h0) hE) (fun u w' _ hv => ?_) (fun _ _ _ h => h.elim)
          obtain ⟨ρ', j1, j2, j3, j4⟩ := hv
          exact k4 ρ ρ' N w w' a u listed hu hc j1 ((h0.mono hI.size).trans j3) j2 hE j4
        split at h
        · rename_i v
          refine fin hnx hlo h fun ρ N w a hI hE => ?_
          obtain ⟨ρ', w', q1, q2, q3, q4, u, q5, q6⟩ := hok ρ N w n a o rfl hI hE
          rw [q5]
          exact ⟨⟨ρ', q1, q2, q3, q6⟩, fun hkq => q4 (keepOp_keepF (hkeep hkq))⟩
        · rename_i f as v
          refine fin hnx hlo h fun ρ N w a hI hE => ?_
          obtain ⟨ρ', w', q1, q2, q3, q4, q5, q6, q7⟩ := hok ρ N w n a o rfl hI hE
          subst q5 q6
          rcases q7 with ⟨u, g1, g2⟩ | ⟨vs, g1, g2⟩
          · rw [g1]; exact ⟨⟨ρ', q1, q2, q3, g2⟩, fun _ => Below.refl _ _⟩
          · rw [g1]
            refine Calls.mono g2 fun e w'' he => ?_
            obtain ⟨u, rfl, j1, j2⟩ := he
            exact ⟨⟨ρ', q1, q2.more j2, j2.mono hI.size, j1⟩, fun _ => j2⟩
        · refine fin hnx hlo h fun ρ N w a hI hE => ?_
          obtain ⟨ρ', w', q1, q2, q3, q4, q5⟩ := hok ρ N w n a o rfl hI hE
          have q5 : (execOp a.eval o).run P w = .ok .skip w' := q5
          rw [q5]
          exact ⟨⟨ρ', q1, q2, q3, VR.undef⟩, fun hkq => q4 (keepOp_keepF (hkeep hkq))⟩
        · rename_i f args
          split at h
          · -- a call that keeps what is there
            obtain ⟨e, H2, nx2, c1, c2, c3, c4⟩ := call h
            split at c1
            · rename_i v
              obtain ⟨hex, c1⟩ := guardB_true c1
              refine fin (Nat.le_refl _) (fun _ => HeapLo.refl _ _) c1 fun ρ N w a hI hE => ?_
              obtain ⟨ρ', w', q1, q2, q3, q4, q5⟩ := hok ρ N w n a o rfl hI hE
              have q6 := q5
              obtain ⟨vs0, _, e1, e2, _⟩ := q6
              subst e1 e2
              obtain ⟨vs, g1, g2⟩ := c4 ρ' w'.heap.size w' a _ q2.shut q5
              rw [g1]
              refine Calls.mono g2 fun e' w'' he => ?_
              obtain ⟨ρ2, j1, j2, j3, j4⟩ := he
              cases e' with
              | returned u => exact ⟨⟨ρ', Rho.le_refl _, hI.more j3, j3.mono hI.size, exA_back hI j1 hex j4⟩, fun _ => j3⟩
              | panicked c => exact j4.elim
              | outgrown => exact j4.elim
            · cases c1
          · -- any call
            obtain ⟨e, H2, nx2, c1, c2, c3, c4⟩ := call h
            have hlo2 : lo ≤ nx → HeapLo lo H H2 := fun hl => (hlo hl).trans (c3 (Nat.le_trans hl hnx))
            split at c1
            · rename_i v
              refine fin (Nat.le_trans hnx c2) hlo2 c1 fun ρ N w a hI hE => ?_
              obtain ⟨ρ', w', q1, q2, q3, q4, q5⟩ := hok ρ N w n a o rfl hI hE
              have q6 := q5
              obtain ⟨vs0, _, e1, e2, _⟩ := q6
              subst e1 e2
              obtain ⟨vs, g1, g2⟩ := c4 ρ' N w' a _ q2 q5
              rw [g1]
              refine Calls.mono g2 fun e' w'' he => ?_
              obtain ⟨ρ2, j1, j2, j3, j4⟩ := he
              cases e' with
              | returned u => exact ⟨⟨ρ2, j1, j2, j3, j4⟩, fun hkq => by cases hkq⟩
              | panicked c => exact j4.elim
              | outgrown => exact j4.elim
            · rename_i chain
              refine ⟨.pan chain env H2 nx2, c1, Nat.le_trans hnx c2, hlo2, fun ρ N w a listed hu hc hI hE => take_true hB hlen hp' hu hc (.inr ⟨rfl, fun w0 h0 => ⟨o, ho, fun _ => ?_, (fun hw' => by rw [hw ρ n a o rfl hE] at hw'; cases hw')⟩⟩)⟩
              rw [hk]
              obtain ⟨ρ', w', q1, q2, q3, q4, q5⟩ := hok ρ N w0 n a o rfl (hI.more h0) hE
              have q6 := q5
              obtain ⟨vs0, _, e1, e2, _⟩ := q6
              subst e1 e2
              obtain ⟨vs, g1, g2⟩ := c4 ρ' N w' a _ q2 q5
              rw [g1]
              refine Calls.mono g2 fun e' w'' he => ?_
              obtain ⟨ρ2, j1, j2, j3, j4⟩ := he
              cases e' with
              | returned u => exact j4.elim
              | panicked c => exact ⟨rfl, ρ2, j1, j2, (h0.mono hI.size).trans j3, hE.mono j1, rfl, j4⟩
              | outgrown => exact j4.elim
        · cases h
end
end Go.Ev

