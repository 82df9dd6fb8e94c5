/- A machine that runs a Go text by reckoning: calls that are told because one like them was run. Of no program. -/
import Derived.Test.YtjajcecenflejaaEwE
namespace Go.Ev
open Go.RowKit

/-- keys to keys -/
abbrev Km := PT Ps
noncomputable def kOk (m : Km) (b b' : Ps) : Bool := Option.rec false (fun c => Ps.beq c b') (m.get b)
/-- the one is the other one, its keys as m has them -/
noncomputable def rnA (m : Km) : Nat → AV → AV → Bool
  | 0, _, _ => false
  | n + 1, v, v' => match v, v' with
    | .b x, .b y => bif x then y else !y
    | .i k a, .i k' b => bif kEq k k' then iEq a b else false
    | .s a, .s b => sEq a b
    | .p0, .p0 => true
    | .l0, .l0 => true
    | .m0, .m0 => true
    | .nf, .nf => true
    | .ni, .ni => true
    | .p b o, .p b' o' => bif Nat.beq o o' then kOk m b b' else false
    | .gp g o, .gp g' o' => bif Nat.beq o o' then Nat.beq g g' else false
    | .l b o k c, .l b' o' k' c' => bif Nat.beq o o' then (bif Nat.beq k k' then (bif Nat.beq c c' then kOk m b b' else false) else false) else false
    | .m b, .m b' => kOk m b b'
    | .a c, .a d => eqL (rnA m n) c d
    | .t c, .t d => eqL (rnA m n) c d
    | _, _ => false
noncomputable def rnE (m : Km) (e e' : AV × AV × Nat) : Bool := bif rnA m 8 e.1 e'.1 then (bif rnA m 8 e.2.1 e'.2.1 then Nat.beq e.2.2 e'.2.2 else false) else false
noncomputable def rnO (m : Km) (o o' : AO) : Bool := match o, o' with
  | .cells c e ex, .cells c' e' ex' => bif Nat.beq e e' then (bif (bif ex then ex' else !ex') then eqL (rnA m 8) c c' else false) else false
  | .map es c, .map es' c' => bif Nat.beq c c' then eqL (rnE m) es es' else false
  | .ro c e, .ro c' e' => bif Nat.beq e e' then eqL (rnA m 8) c c' else false
  | _, _ => false
/-- keys are met -/
noncomputable def adK (b b' : Ps) (m : Km) : Km := Option.rec (m.set (some b') b) (fun _ => m) (m.get b)
noncomputable def adL (f : AV → AV → Km → Km) (c : List AV) : List AV → Km → Km := List.rec (fun _ m => m) (fun x _ ih d m => List.rec m (fun y d' _ => ih d' (f x y m)) d) c
noncomputable def adA : Nat → AV → AV → Km → Km
  | 0, _, _, m => m
  | n + 1, v, v', m => match v, v' with
    | .p b _, .p b' _ => adK b b' m
    | .l b _ _ _, .l b' _ _ _ => adK b b' m
    | .m b, .m b' => adK b b' m
    | .a c, .a d => adL (adA n) c d m
    | .t c, .t d => adL (adA n) c d m
    | _, _ => m
noncomputable def adEs (c : List (AV × AV × Nat)) : List (AV × AV × Nat) → Km → Km := List.rec (fun _ m => m) (fun x _ ih d m => List.rec m (fun y d' _ => ih d' (adA 8 x.2.1 y.2.1 (adA 8 x.1 y.1 m))) d) c
noncomputable def adO (o o' : AO) (m : Km) : Km := match o, o' with
  | .cells c _ _, .cells c' _ _ => adL (adA 8) c c' m
  | .map es _, .map es' _ => adEs es es' m
  | .ro c _, .ro c' _ => adL (adA 8) c c' m
  | _, _ => m
abbrev Hl := List (Ps × AO)
noncomputable def mkM (h : PT AO) (L : Hl) : Km → Km := List.rec (fun m => m) (fun p _ ih m => ih (match m.get p.1 with
  | some b' => (match h.get b' with
    | some o' => adO p.2 o' m
    | none => m)
  | none => m)) L
noncomputable def tabH (L : Hl) : PT AO := List.rec .lf (fun p _ ih => ih.set (some p.2) p.1) L
noncomputable def cutM (m : Km) (L : Hl) : Km := List.rec .lf (fun p _ ih => ih.set (m.get p.1) p.1) L
noncomputable def invM (m : Km) (L : Hl) : Km := List.rec .lf (fun p _ ih => match m.get p.1 with | some c => ih.set (some p.1) c | none => ih) L
noncomputable def ckM (m i : Km) (h : PT AO) (L : Hl) : Bool := List.rec true (fun p _ ih => match m.get p.1 with
  | some b' => bif kOk i b' p.1 then (match h.get b' with
    | some o' => bif rnO m p.2 o' then ih else false
    | none => false) else false
  | none => false) L
/-- keys anew -/
noncomputable def renL (f : AV → Option AV) (c : List AV) : Option (List AV) := List.rec (some []) (fun x _ ih => match f x, ih with | some y, some l => some (y :: l) | _, _ => none) c
noncomputable def renA (m : Km) : Nat → AV → Option AV
  | 0, _ => none
  | n + 1, v => match v with
    | .b x => some (.b x)
    | .i k x => some (.i k x)
    | .s l => some (.s l)
    | .p0 => some .p0
    | .l0 => some .l0
    | .m0 => some .m0
    | .p b o => (match m.get b with | some b' => some (.p b' o) | none => none)
    | .l b o k c => (match m.get b with | some b' => some (.l b' o k c) | none => none)
    | .m b => (match m.get b with | some b' => some (.m b') | none => none)
    | .a c => (match renL (renA m n) c with | some d => some (.a d) | none => none)
    | .t c => (match renL (renA m n) c with | some d => some (.t d) | none => none)
    | _ => none
noncomputable def memB (L : Hl) (vs0 vs : List AV) (v1 : AV) (s : S) (m : Km) : Option (AV × S) :=
  bif eqL (rnA m 8) vs0 vs then (bif ckM m (invM m L) s.h L then (match renA m 8 v1 with
    | some v => some (v, s)
    | none => none) else none) else none
/-- what a call comes to that is like one that was run: its blocks L, its arguments, its result -/
noncomputable def memI (L : Hl) (vs0 : List AV) (v1 : AV) : List AV → S → Option (AV × S) := fun vs s =>
  memB L vs0 vs v1 s (cutM (mkM s.h L (adL (adA 8) vs0 vs .lf)) L)
noncomputable def aoEq (o o' : AO) : Bool := match o, o' with
  | .cells c e ex, .cells c' e' ex' => bif Nat.beq e e' then (bif (bif ex then ex' else !ex') then eqL (avEq 20) c c' else false) else false
  | .map es c, .map es' c' => bif Nat.beq c c' then eqL (fun (e e' : AV × AV × Nat) => bif avEq 20 e.1 e'.1 then (bif avEq 20 e.2.1 e'.2.1 then Nat.beq e.2.2 e'.2.2 else false) else false) es es' else false
  | .ro c e, .ro c' e' => bif Nat.beq e e' then eqL (avEq 20) c c' else false
  | _, _ => false
noncomputable def keepH (L : Hl) (h : PT AO) : Bool := List.rec true (fun p _ ih => match h.get p.1 with
  | some o' => bif aoEq p.2 o' then ih else false
  | none => false) L
/-! ## soundly -/
theorem bool_eq {x y : Bool} (h : (bif x then y else !y) = true) : x = y := by cases x <;> cases y <;> first | rfl | cases h
theorem bif2 {a b : Bool} (h : (bif a then b else false) = true) : a = true ∧ b = true := by cases a <;> first | exact ⟨rfl, h⟩ | cases h
theorem kOk_spec {m : Km} {b b' : Ps} (h : kOk m b b' = true) : m.get b = some b' := by
  unfold kOk at h
  cases hm : m.get b with
  | none => rw [hm] at h; cases h
  | some c => rw [hm] at h; rw [(Ps.beq_iff c b').1 h]
section
variable {m : Km} {R R0 : Rf}
theorem eqL_conc {f : AV → AV → Bool} (hf : ∀ x y, f x y = true → conc R0 x = conc R y) : ∀ {c d : List AV}, eqL f c d = true → concL R0 c = concL R d
  | [], [], _ => rfl
  | [], _ :: _, h => by cases h
  | _ :: _, [], h => by cases h
  | x :: c, y :: d, h => by
    have h' : (bif f x y then eqL f c d else false) = true := h
    obtain ⟨h1, h2⟩ := bif2 h'
    simp only [concL, hf x y h1, eqL_conc hf h2]
theorem rnA_spec (hm : ∀ b b', m.get b = some b' → R0 b = R b') : ∀ (n : Nat) (v v' : AV), rnA m n v v' = true → conc R0 v = conc R v'
  | 0, _, _, h => by cases h
  | n + 1, v, v', h => by
    have ih := rnA_spec hm n
    unfold rnA at h
    split at h
    · rw [bool_eq h]; rfl
    · obtain ⟨h1, h2⟩ := bif2 h
      rw [kEq_eq h1]
      rw [iEq_eq] at h2
      rw [eq_of_beq h2]; rfl
    · rw [sEq_eq] at h; rw [eq_of_beq h]; rfl
    · rfl
    · rfl
    · rfl
    · rfl
    · rfl
    · obtain ⟨h1, h2⟩ := bif2 h
      rw [Nat.eq_of_beq_eq_true h1]
      simp only [conc, hm _ _ (kOk_spec h2)]
    · obtain ⟨h1, h2⟩ := bif2 h
      rw [Nat.eq_of_beq_eq_true h1, Nat.eq_of_beq_eq_true h2]; rfl
    · obtain ⟨h1, h2⟩ := bif2 h
      obtain ⟨h3, h4⟩ := bif2 h2
      obtain ⟨h5, h6⟩ := bif2 h4
      rw [Nat.eq_of_beq_eq_true h1, Nat.eq_of_beq_eq_true h3, Nat.eq_of_beq_eq_true h5]
      simp only [conc, hm _ _ (kOk_spec h6)]
    · simp only [conc, hm _ _ (kOk_spec h)]
    · simp only [conc, eqL_conc ih h]
    · simp only [conc, eqL_conc ih h]
    · cases h
theorem rnE_spec (hm : ∀ b b', m.get b = some b' → R0 b = R b') : ∀ {es es' : List (AV × AV × Nat)}, eqL (rnE m) es es' = true → entC R0 es = entC R es'
  | [], [], _ => rfl
  | [], _ :: _, h => by cases h
  | _ :: _, [], h => by cases h
  | (k, v, n) :: es, (k', v', n') :: es', h => by
    have h' : (bif rnE m (k, v, n) (k', v', n') then eqL (rnE m) es es' else false) = true := h
    obtain ⟨h1, h2⟩ := bif2 h'
    obtain ⟨h3, h4⟩ := bif2 h1
    obtain ⟨h5, h6⟩ := bif2 h4
    simp only [entC, rnA_spec hm 8 _ _ h3, rnA_spec hm 8 _ _ h5, rnE_spec hm h2]
    have := Nat.eq_of_beq_eq_true h6
    dsimp only at this
    rw [this]
theorem rnO_spec (hm : ∀ b b', m.get b = some b' → R0 b = R b') {P : Program} {w : World} {k x : Nat} {o o' : AO} (h : rnO m o o' = true) : HObj P R0 w k x o ↔ HObj P R w k x o' := by
  unfold rnO at h
  split at h
  · obtain ⟨h1, h2⟩ := bif2 h
    obtain ⟨h3, h4⟩ := bif2 h2
    rw [Nat.eq_of_beq_eq_true h1, bool_eq h3]
    simp only [HObj, eqL_conc (rnA_spec hm 8) h4]
  · obtain ⟨h1, h2⟩ := bif2 h
    rw [Nat.eq_of_beq_eq_true h1]
    simp only [HObj, rnE_spec hm h2]
  · obtain ⟨h1, h2⟩ := bif2 h
    rw [Nat.eq_of_beq_eq_true h1]
    simp only [HObj, eqL_conc (rnA_spec hm 8) h2]
  · cases h
theorem rnO_live {o o' : AO} (h : rnO m o o' = true) : o.live = true ∧ o'.live = true := by
  cases o <;> cases o' <;> first | exact ⟨rfl, rfl⟩ | cases h
theorem renL_conc {f : AV → Option AV} (hf : ∀ x y, f x = some y → conc R0 x = conc R y) : ∀ {c d : List AV}, renL f c = some d → concL R0 c = concL R d
  | [], d, h => by
    have h' : some [] = some d := h
    simp only [Option.some.injEq] at h'; subst h'; rfl
  | x :: c, d, h => by
    have h' : (match f x, renL f c with | some y, some l => some (y :: l) | _, _ => none) = some d := h
    split at h'
    · rename_i y l h1 h2
      simp only [Option.some.injEq] at h'; subst h'
      simp only [concL, hf x y h1, renL_conc hf h2]
    · cases h'
theorem renA_spec (hm : ∀ b b', m.get b = some b' → R0 b = R b') : ∀ (n : Nat) (v v' : AV), renA m n v = some v' → conc R0 v = conc R v'
  | 0, _, _, h => by cases h
  | n + 1, v, v', h => by
    have ih := renA_spec hm n
    unfold renA at h
    split at h
    · simp only [Option.some.injEq] at h; subst h; rfl
    · simp only [Option.some.injEq] at h; subst h; rfl
    · simp only [Option.some.injEq] at h; subst h; rfl
    · simp only [Option.some.injEq] at h; subst h; rfl
    · simp only [Option.some.injEq] at h; subst h; rfl
    · simp only [Option.some.injEq] at h; subst h; rfl
    · split at h
      · rename_i hb; simp only [Option.some.injEq] at h; subst h; simp only [conc, hm _ _ hb]
      · cases h
    · split at h
      · rename_i hb; simp only [Option.some.injEq] at h; subst h; simp only [conc, hm _ _ hb]
      · cases h
    · split at h
      · rename_i hb; simp only [Option.some.injEq] at h; subst h; simp only [conc, hm _ _ hb]
      · cases h
    · split at h
      · rename_i hb; simp only [Option.some.injEq] at h; subst h; simp only [conc, renL_conc ih hb]
      · cases h
    · split at h
      · rename_i hb; simp only [Option.some.injEq] at h; subst h; simp only [conc, renL_conc ih hb]
      · cases h
    · cases h
end
theorem tabH_mem : ∀ {L : Hl} {b : Ps} {o : AO}, (tabH L).get b = some o → (b, o) ∈ L
  | [], b, o, h => by
    have h' : (PT.lf : PT AO).get b = some o := h
    rw [PT.get_lf] at h'; cases h'
  | p :: L, b, o, h => by
    have h' : ((tabH L).set (some p.2) p.1).get b = some o := h
    by_cases e : p.1 = b
    · subst e
      rw [PT.get_set] at h'
      simp only [Option.some.injEq] at h'; subst h'
      exact List.mem_cons_self
    · rw [PT.get_set_ne _ _ _ _ e] at h'
      exact List.mem_cons_of_mem _ (tabH_mem h')
theorem cutM_dom {m : Km} : ∀ {L : Hl} {b c : Ps}, (cutM m L).get b = some c → ∃ o, (tabH L).get b = some o
  | [], b, c, h => by
    have h' : (PT.lf : Km).get b = some c := h
    rw [PT.get_lf] at h'; cases h'
  | p :: L, b, c, h => by
    have h' : ((cutM m L).set (m.get p.1) p.1).get b = some c := h
    show ∃ o, ((tabH L).set (some p.2) p.1).get b = some o
    by_cases e : p.1 = b
    · subst e; exact ⟨p.2, PT.get_set ..⟩
    · rw [PT.get_set_ne _ _ _ _ e] at h' ⊢
      exact cutM_dom h'
theorem ckM_spec {m i : Km} {h : PT AO} : ∀ {L : Hl}, ckM m i h L = true → ∀ b o, (b, o) ∈ L → ∃ b' o', m.get b = some b' ∧ i.get b' = some b ∧ h.get b' = some o' ∧ rnO m o o' = true
  | [], _, b, o, hb => by cases hb
  | p :: L, hk, b, o, hb => by
    have hk' : (match m.get p.1 with
      | some b' => bif kOk i b' p.1 then (match h.get b' with
        | some o' => bif rnO m p.2 o' then ckM m i h L else false
        | none => false) else false
      | none => false) = true := hk
    split at hk'
    · rename_i b' hm
      obtain ⟨h1, h2⟩ := bif2 hk'
      split at h2
      · rename_i o' ho
        obtain ⟨h3, h4⟩ := bif2 h2
        rcases List.mem_cons.1 hb with rfl | hb
        · exact ⟨b', o', hm, kOk_spec h1, ho, h3⟩
        · exact ckM_spec h4 b o hb
      · cases h2
    · cases hk'
theorem aoEq_eq {o o' : AO} (h : aoEq o o' = true) : o = o' := by
  unfold aoEq at h
  split at h
  · obtain ⟨h1, h2⟩ := bif2 h
    obtain ⟨h3, h4⟩ := bif2 h2
    rw [Nat.eq_of_beq_eq_true h1, bool_eq h3, eqL_eq (avEq_eq 20) _ _ h4]
  · obtain ⟨h1, h2⟩ := bif2 h
    rw [Nat.eq_of_beq_eq_true h1, eqL_eq (fun x y hxy => ?_) _ _ h2]
    obtain ⟨h3, h4⟩ := bif2 hxy
    obtain ⟨h5, h6⟩ := bif2 h4
    obtain ⟨x1, x2, x3⟩ := x
    obtain ⟨y1, y2, y3⟩ := y
    have e1 := avEq_eq 20 _ _ h3
    have e2 := avEq_eq 20 _ _ h5
    have e3 := Nat.eq_of_beq_eq_true h6
    dsimp only at e1 e2 e3
    rw [e1, e2, e3]
  · obtain ⟨h1, h2⟩ := bif2 h
    rw [Nat.eq_of_beq_eq_true h1, eqL_eq (avEq_eq 20) _ _ h2]
  · cases h
theorem keepH_spec {h : PT AO} : ∀ {L : Hl}, keepH L h = true → ∀ b o, (b, o) ∈ L → h.get b = some o
  | [], _, b, o, hb => by cases hb
  | p :: L, hk, b, o, hb => by
    have hk' : (match h.get p.1 with
      | some o' => bif aoEq p.2 o' then keepH L h else false
      | none => false) = true := hk
    split at hk'
    · rename_i o' ho
      obtain ⟨h1, h2⟩ := bif2 hk'
      rcases List.mem_cons.1 hb with rfl | hb
      · rw [ho, ← aoEq_eq h1]
      · exact keepH_spec h2 b o hb
    · cases hk'
/-- the blocks that lie nowhere yet -/
theorem pend_all (h : PT AO) (R0 : Rf) : ∀ ks : List Ps, ∃ D : Dn, (D.map (·.1)).Nodup ∧ (∀ b o, (b, o) ∈ D → h.get b = some o ∧ R0 b = none) ∧ ∀ b ∈ ks, ∀ o, h.get b = some o → R0 b = none → ∃ o', (b, o') ∈ D
  | [] => ⟨[], List.nodup_nil, (fun b o hb => by cases hb), fun b hb => by cases hb⟩
  | k :: ks => by
    obtain ⟨D, h1, h2, h3⟩ := pend_all h R0 ks
    by_cases hk : ∃ o, h.get k = some o ∧ R0 k = none ∧ k ∉ D.map (·.1)
    · obtain ⟨o, q1, q2, q3⟩ := hk
      refine ⟨(k, o) :: D, by rw [List.map_cons, List.nodup_cons]; exact ⟨q3, h1⟩, fun b o' hb => ?_, fun b hb o' ho hR => ?_⟩
      · rcases List.mem_cons.1 hb with e | hb
        · simp only [Prod.mk.injEq] at e
          obtain ⟨rfl, rfl⟩ := e
          exact ⟨q1, q2⟩
        · exact h2 b o' hb
      · rcases List.mem_cons.1 hb with rfl | hb
        · exact ⟨o, List.mem_cons_self⟩
        · obtain ⟨o2, h4⟩ := h3 b hb o' ho hR
          exact ⟨o2, List.mem_cons_of_mem _ h4⟩
    · refine ⟨D, h1, h2, fun b hb o' ho hR => ?_⟩
      rcases List.mem_cons.1 hb with rfl | hb
      · have : b ∈ D.map (·.1) := Classical.byContradiction fun hn => hk ⟨o', ho, hR, hn⟩
        obtain ⟨⟨b2, o2⟩, h4, h5⟩ := List.mem_map.1 this
        dsimp only at h5
        subst h5
        exact ⟨o2, h4⟩
      · exact h3 b hb o' ho hR
theorem pend_of (h : PT AO) (R0 : Rf) (L : Hl) (hL : ∀ b o, h.get b = some o → (b, o) ∈ L) : ∃ D : Dn, (D.map (·.1)).Nodup ∧ (∀ b o, (b, o) ∈ D → h.get b = some o ∧ R0 b = none) ∧ ∀ b o, h.get b = some o → R0 b = none → ∃ o', (b, o') ∈ D := by
  obtain ⟨D, h1, h2, h3⟩ := pend_all h R0 (L.map (·.1))
  exact ⟨D, h1, h2, fun b o ho hR => h3 b (List.mem_map.2 ⟨(b, o), hL b o ho, rfl⟩) o ho hR⟩
/-- what was run tells of what is like it -/
theorem mem_ok {P : Program} {B : Nat → Prop} {W : World} {G : PT (List AV)} (hG : GOk B W G) {g : FuncId} {L : Hl} {vs0 : List AV} {v1 : AV} {n0 : Ps}
    (hrun : ∀ (B' : Nat → Prop) (W' : World), GOk B' W' G → CallOk P B' W' g vs0 ⟨tabH L, n0⟩ fun v s' => v = v1 ∧ keepH L s'.h = true) : IntrOk P B W g (memI L vs0 v1) := by
  intro vs s s' v h
  unfold memI memB at h
  generalize hM : cutM (mkM s.h L (adL (adA 8) vs0 vs .lf)) L = m at h
  have hdom : ∀ {b c : Ps}, m.get b = some c → ∃ o, (tabH L).get b = some o := fun hb => by rw [← hM] at hb; exact cutM_dom hb
  cases h1 : eqL (rnA m 8) vs0 vs with
  | false => rw [h1] at h; cases h
  | true =>
  cases h2 : ckM m (invM m L) s.h L with
  | false => rw [h1, h2] at h; cases h
  | true =>
  rw [h1, h2, cond_true, cond_true] at h
  split at h
  case h_2 => cases h
  rename_i v2 hv2
  simp only [Option.some.injEq, Prod.mk.injEq] at h
  obtain ⟨rfl, rfl⟩ := h
  have hck := ckM_spec h2
  intro D R w xs hrel hx
  let R0 : Rf := fun b => match m.get b with | some b' => R b' | none => none
  have hR0 : ∀ b b', m.get b = some b' → R0 b = R b' := fun b b' hb => by
    show (match m.get b with | some b' => R b' | none => none) = R b'
    rw [hb]
  have hR0' : ∀ b y, R0 b = some y → ∃ b' o o', m.get b = some b' ∧ R b' = some y ∧ (tabH L).get b = some o ∧ (b, o) ∈ L ∧ (invM m L).get b' = some b ∧ s.h.get b' = some o' ∧ rnO m o o' = true := fun b y hb => by
    cases hm : m.get b with
    | none =>
      have : (match m.get b with | some b' => R b' | none => none) = some y := hb
      rw [hm] at this; cases this
    | some b' =>
      obtain ⟨o, ho⟩ := hdom hm
      have hmem := tabH_mem ho
      obtain ⟨b2, o', q1, q2, q3, q4⟩ := hck b o hmem
      rw [hm] at q1; simp only [Option.some.injEq] at q1; subst q1
      exact ⟨b', o, o', rfl, by rw [← hR0 b b' hm]; exact hb, ho, hmem, q2, q3, q4⟩
  let B' : Nat → Prop := fun k => k < w.heap.size ∧ ∀ b y, R0 b = some y → y.1 ≠ k
  have hBB : ∀ k, B k → B' k := fun k hk => ⟨hrel.base k hk, fun b y hb e => by
    obtain ⟨b', o, o', _, q2, _⟩ := hR0' b y hb
    obtain ⟨y1, y2⟩ := y
    dsimp only at e
    subst e
    exact (hrel.lo b' _ _ q2).1 hk⟩
  have hG' : GOk B' w G := fun g' c hc => by
    obtain ⟨q1, q2, q3, q4, q5, q6, q7⟩ := hG g' c hc
    exact ⟨hBB g' q1, q2, q3, q4, q5, q6, (hrel.old.block g' q1).trans q7⟩
  obtain ⟨D', d1, d2, d3⟩ := pend_of (tabH L) R0 L (fun _ _ h => tabH_mem h)
  have hrel0 : Rel P B' w D' R0 (tabH L) w := by
    refine ⟨fun b o k x ho hk => ?_, d2, d1, fun b b' o o' k x x' e1 e2 l1 l2 r1 r2 => ?_, fun b hb => ?_, fun b k x hk => ?_, fun k hk => hk.1, Kept.refl _ _⟩
    · obtain ⟨b', o1, o', q1, q2, q3, q4, q5, q6, q7⟩ := hR0' b _ hk
      rw [ho] at q3; simp only [Option.some.injEq] at q3; subst q3
      exact (rnO_spec hR0 q7).2 (hrel.obj b' o' k x q6 q2)
    · obtain ⟨c, p1, p2, q1, q2, q3, q4, q5, q6, q7⟩ := hR0' b _ r1
      obtain ⟨c', p1', p2', q1', q2', q3', q4', q5', q6', q7'⟩ := hR0' b' _ r2
      have := hrel.inj c c' p2 p2' k x x' q6 q6' (rnO_live q7).2 (rnO_live q7').2 q2 q2'
      subst this
      rw [q5] at q5'
      simpa using q5'
    · cases hk : R0 b with
      | none => rfl
      | some y =>
        obtain ⟨b', o, o', q1, q2, q3, _⟩ := hR0' b y hk
        rw [hb] at q3; cases q3
    · obtain ⟨b', o, o', q1, q2, _⟩ := hR0' b _ hk
      exact ⟨fun hB => hB.2 b _ hk rfl, (hrel.lo b' k x q2).2⟩
  have hx0 : concL R0 vs0 = some xs := by rw [eqL_conc (rnA_spec hR0 8) h1]; exact hx
  obtain ⟨c1, c2⟩ := hrun B' w hG' D' R0 w xs hrel0 hx0
  refine ⟨c1, Calls.mono c2 ?_⟩
  rintro e w' ⟨X, rfl, v', t, R', ⟨rfl, hkeep⟩, g2, g3, g4, g5⟩
  have hsame : ∀ k, B' k → w'.heap[k]? = w.heap[k]? := g5.block
  refine ⟨X, rfl, v2, s, R, ⟨rfl, rfl⟩, R.le_refl, ?_, ?_, ⟨g5.os, g5.tape, g5.output, g5.size, fun k hk => g5.block k (hBB k hk)⟩⟩
  · -- the result has keys of ours alone
    have hsm : ∀ b b', m.get b = some b' → R' b = R b' := fun b b' hb => by
      rw [← hR0 b b' hb]
      cases hk : R0 b with
      | some y => exact g2 _ _ hk
      | none =>
        obtain ⟨o, ho⟩ := hdom hb
        obtain ⟨o', hD⟩ := d3 b o ho hk
        exact (g4.pend b o' hD).2
    rw [← renA_spec hsm 8 v' v2 hv2]; exact g3
  · refine ⟨fun b o k x ho hk => ?_, hrel.pend, hrel.nd, hrel.inj, hrel.new, fun b k x hk => ?_, fun k hk => Nat.lt_of_lt_of_le (hrel.base k hk) g5.size, ?_⟩
    · have hobj := hrel.obj b o k x ho hk
      by_cases hB : B' k
      · exact hobj.mono R.le_refl (hsame k hB)
      · have hlt := (hrel.lo b k x hk).2
        have hex : ∃ b0 y, R0 b0 = some y ∧ y.1 = k := by
          refine Classical.byContradiction fun hno => hB ⟨hlt, fun b0 y hb e => hno ⟨b0, y, hb, e⟩⟩
        obtain ⟨b0, y, hb0, e⟩ := hex
        obtain ⟨y1, y2⟩ := y
        dsimp only at e
        subst e
        obtain ⟨b', o0, o', q1, q2, q3, q4, q5, q6, q7⟩ := hR0' b0 _ hb0
        cases hl : o.live with
        | false => cases o <;> first | trivial | (cases hl)
        | true =>
          have := hrel.inj b b' o o' y1 x y2 ho q6 hl (rnO_live q7).2 hk q2
          subst this
          rw [ho] at q6; simp only [Option.some.injEq] at q6; subst q6
          rw [hk] at q2; simp only [Option.some.injEq, Prod.mk.injEq, true_and] at q2; subst q2
          have hnew := g4.obj b0 o0 y1 x (keepH_spec hkeep b0 o0 q4) (g2 _ _ hb0)
          have hold := (rnO_spec (P := P) (w := w) (k := y1) (x := x) hR0 q7).2 hobj
          -- the same content stands there
          have : HObj P R0 w' y1 x o0 := by
            cases o0 with
            | cells c ty ex =>
              obtain ⟨xs1, tl1, a1, a2, a3, a4⟩ := hold
              obtain ⟨xs2, tl2, b1, b2, b3, b4⟩ := hnew
              rw [concL_mono g2 _ _ a1] at b1; simp only [Option.some.injEq] at b1; subst b1
              exact ⟨xs1, tl2, a1, b2, b3, b4⟩
            | map es cl =>
              obtain ⟨ys1, a1, a2⟩ := hold
              obtain ⟨ys2, b1, b2⟩ := hnew
              rw [entC_mono g2 _ _ a1] at b1; simp only [Option.some.injEq] at b1; subst b1
              exact ⟨ys1, a1, b2⟩
            | ro c ty =>
              obtain ⟨xs1, tl1, fz1, a1, a2⟩ := hold
              obtain ⟨xs2, tl2, fz2, b1, b2⟩ := hnew
              rw [concL_mono g2 _ _ a1] at b1; simp only [Option.some.injEq] at b1; subst b1
              exact ⟨xs1, tl2, fz2, a1, b2⟩
            | iter a1 a2 a3 a4 => cases q7
            | iter0 => cases q7
            | loop => cases q7
            | dead => cases q7
          exact (rnO_spec hR0 q7).1 this
    · have := hrel.lo b k x hk
      exact ⟨this.1, Nat.lt_of_lt_of_le this.2 g5.size⟩
    · exact hrel.old.trans ⟨g5.os, g5.tape, g5.output, g5.size, fun k hk => g5.block k (hBB k hk)⟩
end Go.Ev
