/- A machine that runs a Go text by reckoning: calls that are told because one like them was run, also those that make memory. Of no program. -/
import Derived.Test.YtjajcecenflejaaEwF
namespace Go.Ev
open Go.RowKit

noncomputable def renB (m : Km) : Nat → AV → Option AV
  | 0, _ => none
  | n + 1, v => match v with
    | .b x => some (.b x)
    | .i k x => some (.i k x)
    | .s l => some (.s l)
    | .p0 => some .p0
    | .l0 => some .l0
    | .m0 => some .m0
    | .nf => some .nf
    | .p b o => (match m.get b with | some b' => some (.p b' o) | none => none)
    | .l b o k c => (match m.get b with | some b' => some (.l b' o k c) | none => none)
    | .m b => (match m.get b with | some b' => some (.m b') | none => none)
    | .f g c => (match renL (renB m n) c with | some d => some (.f g d) | none => none)
    | .a c => (match renL (renB m n) c with | some d => some (.a d) | none => none)
    | .t c => (match renL (renB m n) c with | some d => some (.t d) | none => none)
    | _ => none
noncomputable def renEs (m : Km) (es : List (AV × AV × Nat)) : Option (List (AV × AV × Nat)) := List.rec (some []) (fun e _ ih => match renB m 8 e.1, renB m 8 e.2.1, ih with
  | some a, some b, some l => some ((a, b, e.2.2) :: l)
  | _, _, _ => none) es
noncomputable def renO (m : Km) (o : AO) : Option AO := match o with
  | .cells c e ex => (match renL (renB m 8) c with | some d => some (.cells d e ex) | none => none)
  | .ro c e => (match renL (renB m 8) c with | some d => some (.ro d e) | none => none)
  | .map es c => (match renEs m es with | some d => some (.map d c) | none => none)
  | _ => none
/-- blocks are made like those of L, whose keys they take in m -/
noncomputable def addN (L : Hl) : Km → S → Option (Km × S) := List.rec (fun m s => some (m, s)) (fun p _ ih m s => match m.get p.1 with
  | some _ => none
  | none => (match renO m p.2 with
    | some o => fO o fun o => (match newO o s with
      | some (q, s) => ih (m.set (some q) p.1) s
      | none => none)
    | none => none)) L
noncomputable def memNB (L L1 : Hl) (vs0 vs : List AV) (v1 : AV) (s : S) (m : Km) : Option (AV × S) :=
  bif eqL (rnA m 8) vs0 vs then (bif ckM m (invM m L) s.h L then (match addN L1 m s with
    | some (m, s) => (match renB m 8 v1 with
      | some v => some (v, s)
      | none => none)
    | none => none) else none) else none
/-- what a call comes to that is like one that was run: its blocks L, its arguments, its result, the blocks that it made -/
noncomputable def memN (L L1 : Hl) (vs0 : List AV) (v1 : AV) : List AV → S → Option (AV × S) := fun vs s =>
  memNB L L1 vs0 vs v1 s (cutM (mkM s.h L (adL (adA 8) vs0 vs .lf)) L)
section
variable {m : Km} {R R0 : Rf}
theorem renB_spec (hm : ∀ b b', m.get b = some b' → R0 b = R b') : ∀ (n : Nat) (v v' : AV), renB m n v = some v' → conc R0 v = conc R v'
  | 0, _, _, h => by cases h
  | n + 1, v, v', h => by
    have ih := renB_spec hm n
    unfold renB at h
    split at h
    · simp only [Option.some.injEq] at h; subst h; rfl
    · simp only [Option.some.injEq] at h; subst h; rfl
    · simp only [Option.some.injEq] at h; subst h; rfl
    · simp only [Option.some.injEq] at h; subst h; rfl
    · simp only [Option.some.injEq] at h; subst h; rfl
    · simp only [Option.some.injEq] at h; subst h; rfl
    · simp only [Option.some.injEq] at h; subst h; rfl
    · split at h
      · rename_i hb; simp only [Option.some.injEq] at h; subst h; simp only [conc, hm _ _ hb]
      · cases h
    · split at h
      · rename_i hb; simp only [Option.some.injEq] at h; subst h; simp only [conc, hm _ _ hb]
      · cases h
    · split at h
      · rename_i hb; simp only [Option.some.injEq] at h; subst h; simp only [conc, hm _ _ hb]
      · cases h
    · split at h
      · rename_i hb; simp only [Option.some.injEq] at h; subst h; simp only [conc, renL_conc ih hb]
      · cases h
    · split at h
      · rename_i hb; simp only [Option.some.injEq] at h; subst h; simp only [conc, renL_conc ih hb]
      · cases h
    · split at h
      · rename_i hb; simp only [Option.some.injEq] at h; subst h; simp only [conc, renL_conc ih hb]
      · cases h
    · cases h
theorem renEs_spec (hm : ∀ b b', m.get b = some b' → R0 b = R b') : ∀ {es es' : List (AV × AV × Nat)}, renEs m es = some es' → entC R0 es = entC R es'
  | [], es', h => by
    have h' : some [] = some es' := h
    simp only [Option.some.injEq] at h'; subst h'; rfl
  | (k, v, n) :: es, es', h => by
    have h' : (match renB m 8 k, renB m 8 v, renEs m es with
      | some a, some b, some l => some ((a, b, n) :: l)
      | _, _, _ => none) = some es' := h
    split at h'
    · rename_i a b l h1 h2 h3
      simp only [Option.some.injEq] at h'; subst h'
      simp only [entC, renB_spec hm 8 _ _ h1, renB_spec hm 8 _ _ h2, renEs_spec hm h3]
    · cases h'
theorem renO_spec (hm : ∀ b b', m.get b = some b' → R0 b = R b') {P : Program} {w : World} {k x : Nat} {o o' : AO} (h : renO m o = some o') : (HObj P R0 w k x o ↔ HObj P R w k x o') ∧ o.live = true ∧ o'.live = true := by
  unfold renO at h
  split at h
  · split at h
    · rename_i d hd
      simp only [Option.some.injEq] at h; subst h
      exact ⟨by simp only [HObj, renL_conc (renB_spec hm 8) hd], rfl, rfl⟩
    · cases h
  · split at h
    · rename_i d hd
      simp only [Option.some.injEq] at h; subst h
      exact ⟨by simp only [HObj, renL_conc (renB_spec hm 8) hd], rfl, rfl⟩
    · cases h
  · split at h
    · rename_i d hd
      simp only [Option.some.injEq] at h; subst h
      exact ⟨by simp only [HObj, renEs_spec hm hd], rfl, rfl⟩
    · cases h
  · cases h
end
/-- a block is taken in that a run made, under a key of ours -/
theorem Rel.taken {P : Program} {B : Nat → Prop} {W : World} {D : Dn} {R : Rf} {h : PT AO} {w : World} (r : Rel P B W D R h w) {p : Ps} (hp : h.get p = none) {o : AO} {k x : Nat} (hk : ¬ B k ∧ k < w.heap.size) (ho : HObj P (R.put p (k, x)) w k x o)
    (hfree : ∀ c oc y, h.get c = some oc → oc.live = true → R c = some (k, y) → False) : Rel P B W D (R.put p (k, x)) (h.set (some o) p) w ∧ R.le (R.put p (k, x)) := by
  have hn := r.new p hp
  have hle := Rf.le_put (k, x) hn
  refine ⟨⟨?_, ?_, r.nd, ?_, ?_, ?_, r.base, r.old⟩, hle⟩
  · intro b o' k' y e hk'
    by_cases hb : p = b
    · subst hb
      rw [PT.get_set] at e
      simp only [Option.some.injEq] at e; subst e
      rw [Rf.put_at] at hk'
      simp only [Option.some.injEq, Prod.mk.injEq] at hk'
      obtain ⟨rfl, rfl⟩ := hk'
      exact ho
    · rw [PT.get_set_ne _ _ _ _ hb] at e
      rw [Rf.put_ne R _ (fun e => hb e.symm)] at hk'
      exact (r.obj b o' k' y e hk').mono hle rfl
  · intro b o' hm
    obtain ⟨g1, g2⟩ := r.pend b o' hm
    have hne : p ≠ b := fun e => by subst e; rw [hp] at g1; cases g1
    exact ⟨by rw [PT.get_set_ne _ _ _ _ hne]; exact g1, by rw [Rf.put_ne R _ (fun e => hne e.symm)]; exact g2⟩
  · intro b b' o1 o2 k1 y y' e1 e2 l1 l2 r1 r2
    by_cases hb : p = b
    · subst hb
      by_cases hb' : p = b'
      · exact hb'
      · rw [Rf.put_at] at r1
        rw [Rf.put_ne R _ (fun e => hb' e.symm)] at r2
        rw [PT.get_set_ne _ _ _ _ hb'] at e2
        simp only [Option.some.injEq, Prod.mk.injEq] at r1
        obtain ⟨rfl, rfl⟩ := r1
        exact (hfree b' o2 y' e2 l2 r2).elim
    · rw [Rf.put_ne R _ (fun e => hb e.symm)] at r1
      rw [PT.get_set_ne _ _ _ _ hb] at e1
      by_cases hb' : p = b'
      · subst hb'
        rw [Rf.put_at] at r2
        simp only [Option.some.injEq, Prod.mk.injEq] at r2
        obtain ⟨rfl, rfl⟩ := r2
        exact (hfree b o1 y e1 l1 r1).elim
      · rw [Rf.put_ne R _ (fun e => hb' e.symm)] at r2
        rw [PT.get_set_ne _ _ _ _ hb'] at e2
        exact r.inj b b' o1 o2 k1 y y' e1 e2 l1 l2 r1 r2
  · intro b e
    by_cases hb : p = b
    · subst hb; rw [PT.get_set] at e; cases e
    · rw [PT.get_set_ne _ _ _ _ hb] at e
      rw [Rf.put_ne R _ (fun e => hb e.symm)]; exact r.new b e
  · intro b k1 y e
    by_cases hb : b = p
    · subst hb; rw [Rf.put_at] at e
      simp only [Option.some.injEq, Prod.mk.injEq] at e
      obtain ⟨rfl, rfl⟩ := e
      exact hk
    · rw [Rf.put_ne R _ hb] at e
      exact r.lo b k1 y e
/-- a key that lies nowhere gets what is told of it -/
theorem Rel.idle {P : Program} {B : Nat → Prop} {W : World} {D : Dn} {R : Rf} {h : PT AO} {w : World} (r : Rel P B W D R h w) {p : Ps} (hp : h.get p = none) (o : AO) : Rel P B W D R (h.set (some o) p) w := by
  have hn := r.new p hp
  refine ⟨?_, ?_, r.nd, ?_, ?_, r.lo, r.base, r.old⟩
  · intro b o' k' y e hk'
    by_cases hb : p = b
    · subst hb; rw [hn] at hk'; cases hk'
    · rw [PT.get_set_ne _ _ _ _ hb] at e
      exact r.obj b o' k' y e hk'
  · intro b o' hm
    obtain ⟨g1, g2⟩ := r.pend b o' hm
    have hne : p ≠ b := fun e => by subst e; rw [hp] at g1; cases g1
    exact ⟨by rw [PT.get_set_ne _ _ _ _ hne]; exact g1, g2⟩
  · intro b b' o1 o2 k1 y y' e1 e2 l1 l2 r1 r2
    by_cases hb : p = b
    · subst hb; rw [hn] at r1; cases r1
    · by_cases hb' : p = b'
      · subst hb'; rw [hn] at r2; cases r2
      · rw [PT.get_set_ne _ _ _ _ hb] at e1
        rw [PT.get_set_ne _ _ _ _ hb'] at e2
        exact r.inj b b' o1 o2 k1 y y' e1 e2 l1 l2 r1 r2
  · intro b e
    by_cases hb : p = b
    · subst hb; rw [PT.get_set] at e; cases e
    · rw [PT.get_set_ne _ _ _ _ hb] at e; exact r.new b e
/-- all blocks of L1 are taken in -/
theorem addN_spec {P : Program} {B B' : Nat → Prop} {W W' : World} {D D' : Dn} {R' : Rf} {h' : PT AO} {w : World} (g4 : Rel P B' W' D' R' h' w) (hBB : ∀ k, B k → B' k) :
    ∀ {L1 : Hl} {m : Km} {s : S} {R : Rf} {m2 : Km} {s2 : S}, addN L1 m s = some (m2, s2) → (∀ b o, (b, o) ∈ L1 → h'.get b = some o) → Rel P B W D R s.h w → (∀ b b', m.get b = some b' → R' b = R b') →
    (∀ c oc k y, s.h.get c = some oc → oc.live = true → R c = some (k, y) → B' k ∨ ∃ b ob, m.get b = some c ∧ h'.get b = some ob ∧ ob.live = true) → (∀ b b', m.get b = some b' → s.h.get b' ≠ none) →
    ∃ R2, R.le R2 ∧ Rel P B W D R2 s2.h w ∧ ∀ b b', m2.get b = some b' → R' b = R2 b'
  | [], m, s, R, m2, s2, h, _, hr, h2, _, _ => by
    have h0 : some (m, s) = some (m2, s2) := h
    simp only [Option.some.injEq, Prod.mk.injEq] at h0
    obtain ⟨rfl, rfl⟩ := h0
    exact ⟨R, R.le_refl, hr, h2⟩
  | p :: L1, m, s, R, m2, s2, h, hL, hr, h2, h3, h5 => by
    have h0 : (match m.get p.1 with
      | some _ => none
      | none => (match renO m p.2 with
        | some o => fO o fun o => (match newO o s with
          | some (q, s) => addN L1 (m.set (some q) p.1) s
          | none => none)
        | none => none)) = some (m2, s2) := h
    split at h0
    · cases h0
    rename_i hmn
    split at h0
    case h_2 => cases h0
    rename_i o' ho'
    rw [fO_eq] at h0
    split at h0
    case h_2 => cases h0
    rename_i q s1 hq
    obtain ⟨n1, n2⟩ := newO_spec hq
    have hp := hL p.1 p.2 List.mem_cons_self
    have hi := fun k x => renO_spec (R0 := R') (R := R) h2 (P := P) (w := w) (k := k) (x := x) ho'
    have i2 := (hi 0 0).2.1
    have hget : ∀ b b', (m.set (some q) p.1).get b = some b' → (b = p.1 ∧ b' = q) ∨ (b' ≠ q ∧ m.get b = some b') := fun b b' hb => by
      by_cases e : p.1 = b
      · subst e; rw [PT.get_set] at hb; simp only [Option.some.injEq] at hb; exact .inl ⟨rfl, hb.symm⟩
      · rw [PT.get_set_ne _ _ _ _ e] at hb; exact .inr ⟨fun e' => h5 b b' hb (e' ▸ n1), hb⟩
    have hput : ∀ b c, m.get b = some c → (m.set (some q) p.1).get b = some c := fun b c a1 => by
      have : p.1 ≠ b := fun e => by rw [← e, hmn] at a1; cases a1
      rw [PT.get_set_ne _ _ _ _ this]; exact a1
    have hqn := hr.new q n1
    have h5' : ∀ b b', (m.set (some q) p.1).get b = some b' → s1.h.get b' ≠ none := fun b b' hb => by
      rw [n2]
      rcases hget b b' hb with ⟨_, rfl⟩ | ⟨hne, hb⟩
      · rw [PT.get_set]; intro e; cases e
      · rw [PT.get_set_ne _ _ _ _ (fun e => hne e.symm)]; exact h5 b b' hb
    cases hk : R' p.1 with
    | none =>
      have r1 := hr.idle n1 o'
      rw [← n2] at r1
      exact addN_spec g4 hBB h0 (fun b o hb => hL b o (List.mem_cons_of_mem _ hb)) r1 (fun b b' hb => by
        rcases hget b b' hb with ⟨rfl, rfl⟩ | ⟨_, hb⟩
        · rw [hk, hqn]
        · exact h2 b b' hb) (fun c oc k y hc hl hR => by
        have hne : q ≠ c := fun e => by subst e; rw [hqn] at hR; cases hR
        rw [n2, PT.get_set_ne _ _ _ _ hne] at hc
        rcases h3 c oc k y hc hl hR with h | ⟨b, ob, a1, a2, a3⟩
        · exact .inl h
        · exact .inr ⟨b, ob, hput b c a1, a2, a3⟩) h5'
    | some y0 =>
      obtain ⟨k, x⟩ := y0
      have hobj : HObj P R w k x o' := (hi k x).1.1 (g4.obj p.1 p.2 k x hp hk)
      have hlo := g4.lo p.1 k x hk
      obtain ⟨r1, r2⟩ := hr.taken n1 (k := k) (x := x) (o := o') ⟨fun hB => hlo.1 (hBB k hB), hlo.2⟩ (hobj.mono (Rf.le_put (k, x) hqn) rfl) (fun c oc y hc hl hR => by
        rcases h3 c oc k y hc hl hR with h | ⟨b, ob, a1, a2, a3⟩
        · exact hlo.1 h
        · have hRb : R' b = some (k, y) := by rw [h2 b c a1]; exact hR
          have := g4.inj b p.1 ob p.2 k y x a2 hp a3 i2 hRb hk
          rw [this, hmn] at a1; cases a1)
      rw [← n2] at r1
      obtain ⟨R2, e1, e2, e3⟩ := addN_spec g4 hBB h0 (fun b o hb => hL b o (List.mem_cons_of_mem _ hb)) r1 (fun b b' hb => by
        rcases hget b b' hb with ⟨rfl, rfl⟩ | ⟨hne, hb⟩
        · rw [hk, Rf.put_at]
        · rw [h2 b b' hb, Rf.put_ne R _ hne]) (fun c oc k' y hc hl hR => by
        by_cases e : c = q
        · subst e
          exact .inr ⟨p.1, p.2, PT.get_set .., hp, i2⟩
        · have hne : q ≠ c := fun e' => e e'.symm
          rw [n2, PT.get_set_ne _ _ _ _ hne] at hc
          rw [Rf.put_ne R _ e] at hR
          rcases h3 c oc k' y hc hl hR with h | ⟨b, ob, a1, a2, a3⟩
          · exact .inl h
          · exact .inr ⟨b, ob, hput b c a1, a2, a3⟩) h5'
      exact ⟨R2, Rf.le_trans r2 e1, e2, e3⟩
/-- what was run tells of what is like it -/
theorem memN_ok {P : Program} {B : Nat → Prop} {W : World} {G : PT (List AV)} (hG : GOk B W G) {g : FuncId} {L L1 : Hl} {vs0 : List AV} {v1 : AV} {n0 : Ps}
    (hrun : ∀ (B' : Nat → Prop) (W' : World), GOk B' W' G → CallOk P B' W' g vs0 ⟨tabH L, n0⟩ fun v s' => v = v1 ∧ keepH L s'.h = true ∧ keepH L1 s'.h = true) : IntrOk P B W g (memN L L1 vs0 v1) := by
  intro vs s s' v h
  unfold memN memNB at h
  generalize hM : cutM (mkM s.h L (adL (adA 8) vs0 vs .lf)) L = m at h
  have hdom : ∀ {b c : Ps}, m.get b = some c → ∃ o, (tabH L).get b = some o := fun hb => by rw [← hM] at hb; exact cutM_dom hb
  cases h1 : eqL (rnA m 8) vs0 vs with
  | false => rw [h1] at h; cases h
  | true =>
  cases h2 : ckM m (invM m L) s.h L with
  | false => rw [h1, h2] at h; cases h
  | true =>
  rw [h1, h2, cond_true, cond_true] at h
  split at h
  case h_2 => cases h
  rename_i m2 s2 hadd
  split at h
  case h_2 => cases h
  rename_i v2 hv2
  simp only [Option.some.injEq, Prod.mk.injEq] at h
  obtain ⟨rfl, rfl⟩ := h
  have hck := ckM_spec h2
  intro D R w xs hrel hx
  let R0 : Rf := fun b => match m.get b with | some b' => R b' | none => none
  have hR0 : ∀ b b', m.get b = some b' → R0 b = R b' := fun b b' hb => by
    show (match m.get b with | some b' => R b' | none => none) = R b'
    rw [hb]
  have hR0' : ∀ b y, R0 b = some y → ∃ b' o o', m.get b = some b' ∧ R b' = some y ∧ (tabH L).get b = some o ∧ (b, o) ∈ L ∧ (invM m L).get b' = some b ∧ s.h.get b' = some o' ∧ rnO m o o' = true := fun b y hb => by
    cases hm : m.get b with
    | none =>
      have : (match m.get b with | some b' => R b' | none => none) = some y := hb
      rw [hm] at this; cases this
    | some b' =>
      obtain ⟨o, ho⟩ := hdom hm
      have hmem := tabH_mem ho
      obtain ⟨b2, o', q1, q2, q3, q4⟩ := hck b o hmem
      rw [hm] at q1; simp only [Option.some.injEq] at q1; subst q1
      exact ⟨b', o, o', rfl, by rw [← hR0 b b' hm]; exact hb, ho, hmem, q2, q3, q4⟩
  let B' : Nat → Prop := fun k => k < w.heap.size ∧ ∀ b y, R0 b = some y → y.1 ≠ k
  have hBB : ∀ k, B k → B' k := fun k hk => ⟨hrel.base k hk, fun b y hb e => by
    obtain ⟨b', o, o', _, q2, _⟩ := hR0' b y hb
    obtain ⟨y1, y2⟩ := y
    dsimp only at e
    subst e
    exact (hrel.lo b' _ _ q2).1 hk⟩
  have hG' : GOk B' w G := fun g' c hc => by
    obtain ⟨q1, q2, q3, q4, q5, q6, q7⟩ := hG g' c hc
    exact ⟨hBB g' q1, q2, q3, q4, q5, q6, (hrel.old.block g' q1).trans q7⟩
  obtain ⟨D', d1, d2, d3⟩ := pend_of (tabH L) R0 L (fun _ _ h => tabH_mem h)
  have hrel0 : Rel P B' w D' R0 (tabH L) w := by
    refine ⟨fun b o k x ho hk => ?_, d2, d1, fun b b' o o' k x x' e1 e2 l1 l2 r1 r2 => ?_, fun b hb => ?_, fun b k x hk => ?_, fun k hk => hk.1, Kept.refl _ _⟩
    · obtain ⟨b', o1, o', q1, q2, q3, q4, q5, q6, q7⟩ := hR0' b _ hk
      rw [ho] at q3; simp only [Option.some.injEq] at q3; subst q3
      exact (rnO_spec hR0 q7).2 (hrel.obj b' o' k x q6 q2)
    · obtain ⟨c, p1, p2, q1, q2, q3, q4, q5, q6, q7⟩ := hR0' b _ r1
      obtain ⟨c', p1', p2', q1', q2', q3', q4', q5', q6', q7'⟩ := hR0' b' _ r2
      have := hrel.inj c c' p2 p2' k x x' q6 q6' (rnO_live q7).2 (rnO_live q7').2 q2 q2'
      subst this
      rw [q5] at q5'
      simpa using q5'
    · cases hk : R0 b with
      | none => rfl
      | some y =>
        obtain ⟨b', o, o', q1, q2, q3, _⟩ := hR0' b y hk
        rw [hb] at q3; cases q3
    · obtain ⟨b', o, o', q1, q2, _⟩ := hR0' b _ hk
      exact ⟨fun hB => hB.2 b _ hk rfl, (hrel.lo b' k x q2).2⟩
  have hx0 : concL R0 vs0 = some xs := by rw [eqL_conc (rnA_spec hR0 8) h1]; exact hx
  obtain ⟨c1, c2⟩ := hrun B' w hG' D' R0 w xs hrel0 hx0
  refine ⟨c1, Calls.mono c2 ?_⟩
  rintro e w' ⟨X, rfl, v', t, R', ⟨rfl, hkeep, hkeep1⟩, g2, g3, g4, g5⟩
  have hsame : ∀ k, B' k → w'.heap[k]? = w.heap[k]? := g5.block
  have hsm : ∀ b b', m.get b = some b' → R' b = R b' := fun b b' hb => by
    rw [← hR0 b b' hb]
    cases hk : R0 b with
    | some y => exact g2 _ _ hk
    | none =>
      obtain ⟨o, ho⟩ := hdom hb
      obtain ⟨o', hD⟩ := d3 b o ho hk
      exact (g4.pend b o' hD).2
  have hrel2 : Rel P B W D R s.h w' := by
    refine ⟨fun b o k x ho hk => ?_, hrel.pend, hrel.nd, hrel.inj, hrel.new, fun b k x hk => ?_, fun k hk => Nat.lt_of_lt_of_le (hrel.base k hk) g5.size, ?_⟩
    · have hobj := hrel.obj b o k x ho hk
      by_cases hB : B' k
      · exact hobj.mono R.le_refl (hsame k hB)
      · have hlt := (hrel.lo b k x hk).2
        have hex : ∃ b0 y, R0 b0 = some y ∧ y.1 = k := by
          refine Classical.byContradiction fun hno => hB ⟨hlt, fun b0 y hb e => hno ⟨b0, y, hb, e⟩⟩
        obtain ⟨b0, y, hb0, e⟩ := hex
        obtain ⟨y1, y2⟩ := y
        dsimp only at e
        subst e
        obtain ⟨b', o0, o', q1, q2, q3, q4, q5, q6, q7⟩ := hR0' b0 _ hb0
        cases hl : o.live with
        | false => cases o <;> first | trivial | (cases hl)
        | true =>
          have := hrel.inj b b' o o' y1 x y2 ho q6 hl (rnO_live q7).2 hk q2
          subst this
          rw [ho] at q6; simp only [Option.some.injEq] at q6; subst q6
          rw [hk] at q2; simp only [Option.some.injEq, Prod.mk.injEq, true_and] at q2; subst q2
          have hnew := g4.obj b0 o0 y1 x (keepH_spec hkeep b0 o0 q4) (g2 _ _ hb0)
          have hold := (rnO_spec (P := P) (w := w) (k := y1) (x := x) hR0 q7).2 hobj
          -- the same content stands there
          have : HObj P R0 w' y1 x o0 := by
            cases o0 with
            | cells c ty ex =>
              obtain ⟨xs1, tl1, a1, a2, a3, a4⟩ := hold
              obtain ⟨xs2, tl2, b1, b2, b3, b4⟩ := hnew
              rw [concL_mono g2 _ _ a1] at b1; simp only [Option.some.injEq] at b1; subst b1
              exact ⟨xs1, tl2, a1, b2, b3, b4⟩
            | map es cl =>
              obtain ⟨ys1, a1, a2⟩ := hold
              obtain ⟨ys2, b1, b2⟩ := hnew
              rw [entC_mono g2 _ _ a1] at b1; simp only [Option.some.injEq] at b1; subst b1
              exact ⟨ys1, a1, b2⟩
            | ro c ty =>
              obtain ⟨xs1, tl1, fz1, a1, a2⟩ := hold
              obtain ⟨xs2, tl2, fz2, b1, b2⟩ := hnew
              rw [concL_mono g2 _ _ a1] at b1; simp only [Option.some.injEq] at b1; subst b1
              exact ⟨xs1, tl2, fz2, a1, b2⟩
            | iter a1 a2 a3 a4 => cases q7
            | iter0 => cases q7
            | loop => cases q7
            | dead => cases q7
          exact (rnO_spec hR0 q7).1 this
    · have := hrel.lo b k x hk
      exact ⟨this.1, Nat.lt_of_lt_of_le this.2 g5.size⟩
    · exact hrel.old.trans ⟨g5.os, g5.tape, g5.output, g5.size, fun k hk => g5.block k (hBB k hk)⟩
  obtain ⟨R2, e1, e2, e3⟩ := addN_spec g4 hBB hadd (keepH_spec hkeep1) hrel2 hsm (fun c oc k y hc hl hR => by
    by_cases hB : B' k
    · exact .inl hB
    · have hlt := (hrel.lo c k y hR).2
      have hex : ∃ b0 y, R0 b0 = some y ∧ y.1 = k := by
        refine Classical.byContradiction fun hno => hB ⟨hlt, fun b0 y hb e => hno ⟨b0, y, hb, e⟩⟩
      obtain ⟨b0, z, hb0, e⟩ := hex
      obtain ⟨z1, z2⟩ := z
      dsimp only at e
      subst e
      obtain ⟨b', o0, o', q1, q2, q3, q4, q5, q6, q7⟩ := hR0' b0 _ hb0
      have := hrel.inj c b' oc o' z1 y z2 hc q6 hl (rnO_live q7).2 hR q2
      subst this
      exact .inr ⟨b0, o0, q1, keepH_spec hkeep b0 o0 q4, (rnO_live q7).1⟩) (fun b b' hb => by
    obtain ⟨o, ho⟩ := hdom hb
    obtain ⟨b2, o', q1, _, q3, _⟩ := hck b o (tabH_mem ho)
    rw [hb] at q1; simp only [Option.some.injEq] at q1; subst q1
    rw [q3]; intro e; cases e)
  exact ⟨X, rfl, v2, s2, R2, ⟨rfl, rfl⟩, e1, by rw [← renB_spec e3 8 v' v2 hv2]; exact g3, e2, ⟨g5.os, g5.tape, g5.output, g5.size, fun k hk => g5.block k (hBB k hk)⟩⟩
end Go.Ev
