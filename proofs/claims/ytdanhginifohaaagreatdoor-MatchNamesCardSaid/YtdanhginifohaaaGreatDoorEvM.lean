/- A region that draws its order: one order tells of all, where what was looked at first is there still. Of no program. -/
import Derived.Orders
namespace Go.Ev
section
variable {P : Program} {ops : Array Oper} {Q : Exit → Act → World → Prop}
def dstOf (ops : Array Oper) (i : Nat) : Option Tmp := (ops[i]?).bind (·.dst)
/-- operation i yields v, here and now, and does nothing else -/
def YAt (P : Program) (ops : Array Oper) (i : Nat) (v : Value) (A : Act) (w : World) : Prop :=
  ∃ o, ops[i]? = some o ∧ ((Region.wanted o (yielded ops A.tmps) = true ∧ (execOp A.eval o).run P w = .ok (.value v) w) ∨ (Region.wanted o (yielded ops A.tmps) = false ∧ v = undef))
/-- what operation j does -/
def Does (P : Program) (ops : Array Oper) (j : Nat) (A : Act) (w : World) (K : Act → World → Prop) : Prop :=
  ∃ o, ops[j]? = some o ∧ ((Region.wanted o (yielded ops A.tmps) = false ∧ K (A.put o.dst undef) w) ∨ (Region.wanted o (yielded ops A.tmps) = true ∧
    ((∃ v w', (execOp A.eval o).run P w = .ok (.value v) w' ∧ K (A.put o.dst v) w') ∨ (∃ w', (execOp A.eval o).run P w = .ok .skip w' ∧ K (A.put o.dst undef) w') ∨
     (∃ f args w', (execOp A.eval o).run P w = .ok (.enter f args) w' ∧ Calls P f args w' (fun e w'' => ∃ v, e = .returned v ∧ K (A.put o.dst v) w'')))))
theorem Does.wpOp {j : Nat} {A : Act} {w : World} {K : Act → World → Prop} (h : Does P ops j A w K) : wpOp P ops Q j K A w := by
  obtain ⟨o, ho, h⟩ := h
  unfold Go.wpOp
  simp only [ho]
  rcases h with ⟨hw, hk⟩ | ⟨hw, h⟩
  · simp only [hw, Bool.false_eq_true, if_false]; exact hk
  · simp only [hw, if_true]
    refine .inl ?_
    unfold Oper.wp
    rcases h with ⟨v, w', hr, hk⟩ | ⟨w', hr, hk⟩ | ⟨f, args, w', hr, hc⟩
    · rw [hr]; exact hk
    · rw [hr]; exact hk
    · rw [hr]
      exact Calls.mono hc fun e w'' ⟨v, he, hk⟩ => by subst he; exact hk
theorem Does.mono {j : Nat} {A : Act} {w : World} {K K' : Act → World → Prop} (h : Does P ops j A w K) (hk : ∀ a w, K a w → K' a w) : Does P ops j A w K' := by
  obtain ⟨o, ho, h⟩ := h
  refine ⟨o, ho, ?_⟩
  rcases h with ⟨hw, h⟩ | ⟨hw, h⟩
  · exact .inl ⟨hw, hk _ _ h⟩
  · refine .inr ⟨hw, ?_⟩
    rcases h with ⟨v, w', hr, h⟩ | ⟨w', hr, h⟩ | ⟨f, args, w', hr, hc⟩
    · exact .inl ⟨v, w', hr, hk _ _ h⟩
    · exact .inr (.inl ⟨w', hr, hk _ _ h⟩)
    · exact .inr (.inr ⟨f, args, w', hr, Calls.mono hc fun e w'' ⟨v, he, h⟩ => ⟨v, he, hk _ _ h⟩⟩)
/-- operation i may be looked at ahead of its turn: nobody else writes where it yields, and who reads there waits for it -/
def QOk (ops : Array Oper) (i : Nat) : Prop :=
  ∃ o, ops[i]? = some o ∧ (∀ cs b, o.op ≠ .select cs b) ∧ ∀ d, o.dst = some d → d ∉ o.looksAt ops ∧ ∀ j oj, ops[j]? = some oj → j ≠ i → oj.dst ≠ some d ∧ (d ∈ oj.looksAt ops → ∃ e ∈ oj.after, Region.binds .any e = true ∧ e.on = i)
def setL (L : Array Bool) (i : Nat) : Array Bool := L.setIfInBounds i true
/-- who waits for another one -/
def Waits (ops : Array Oper) (j i : Nat) : Prop := ∃ o, ops[j]? = some o ∧ ∃ e ∈ o.after, Region.binds .any e = true ∧ e.on = i
def Sd (P : Program) (ops : Array Oper) (Q : Exit → Act → World → Prop) : Nat → Array Bool → List (Nat × Value) → Act → World → Prop
  | 0, V, _, A, w => Region.ready .any ops V = [] ∧ Q .normal A w
  | n + 1, V, O, A, w => (Region.ready .any ops V = [] ∧ Q .normal A w) ∨
    (∃ i v, i ∈ Region.ready .any ops V ∧ QOk ops i ∧ YAt P ops i v A w ∧ Sd P ops Q n (setL V i) ((i, v) :: O) (A.put (dstOf ops i) v) w) ∨
    (Region.ready .any ops V ≠ [] ∧ ∀ j ∈ Region.ready .any ops V, Does P ops j A w fun A' w' => ∃ O', (∀ p ∈ O, p ∈ O' ∨ Waits ops j p.1) ∧ (∀ p ∈ O', YAt P ops p.1 p.2 A' w') ∧ Sd P ops Q n (setL V j) O' A' w')
theorem Sd_sub : ∀ (n : Nat) {V : Array Bool} {O O' : List (Nat × Value)} {A : Act} {w : World}, (∀ p ∈ O', p ∈ O) → Sd P ops Q n V O A w → Sd P ops Q n V O' A w
  | 0, _, _, _, _, _, _, h => h
  | n + 1, V, O, O', A, w, hs, h => by
    rcases h with h | ⟨i, v, h1, h2, h3, h4⟩ | h
    · exact .inl h
    · refine .inr (.inl ⟨i, v, h1, h2, h3, Sd_sub n (fun p hp => ?_) h4⟩)
      rcases List.mem_cons.1 hp with rfl | hp
      · exact List.mem_cons_self
      · exact List.mem_cons_of_mem _ (hs p hp)
    · exact .inr (.inr ⟨h.1, fun j hj => (h.2 j hj).mono fun A' w' ⟨O2, a1, a2, a3⟩ => ⟨O2, fun p hp => a1 p (hs p hp), a2, a3⟩⟩)

/-! ## actual and told -/
def puts (ops : Array Oper) (a : Act) : List (Nat × Value) → Act
  | [] => a
  | (i, v) :: O => (puts ops a O).put (dstOf ops i) v
theorem dst_ne {i j : Nat} (h : QOk ops i) (hij : j ≠ i) : ∀ d, dstOf ops i = some d → dstOf ops j ≠ some d := by
  obtain ⟨o, ho, _, h⟩ := h
  intro d hd hj
  simp only [dstOf, ho, Option.bind_some] at hd
  unfold dstOf at hj
  cases hoj : ops[j]? with
  | none => rw [hoj] at hj; cases hj
  | some oj =>
    rw [hoj, Option.bind_some] at hj
    exact ((h d hd).2 j oj hoj hij).1 hj
theorem puts_put {a : Act} {x : Option Tmp} {u : Value} : ∀ {O : List (Nat × Value)}, (∀ p ∈ O, ∀ d, dstOf ops p.1 = some d → x ≠ some d) → puts ops (a.put x u) O = (puts ops a O).put x u
  | [], _ => rfl
  | (i, v) :: O, h => by
    simp only [puts]
    rw [puts_put fun p hp => h p (List.mem_cons_of_mem _ hp)]
    exact (Act.put_comm _ v u fun d hd => h (i, v) List.mem_cons_self d hd).symm
theorem looks_put {a : Act} {o : Oper} (hs : ∀ cs b, o.op ≠ .select cs b) : ∀ {O : List (Nat × Value)}, (∀ p ∈ O, ∀ d, dstOf ops p.1 = some d → d ∉ o.looksAt ops) →
    execOp (puts ops a O).eval o = execOp a.eval o ∧ Region.wanted o (yielded ops (puts ops a O).tmps) = Region.wanted o (yielded ops a.tmps)
  | [], _ => ⟨rfl, rfl⟩
  | (i, v) :: O, h => by
    obtain ⟨h1, h2⟩ := looks_put (a := a) hs (O := O) fun p hp => h p (List.mem_cons_of_mem _ hp)
    have hd := h (i, v) List.mem_cons_self
    simp only [puts]
    exact ⟨(execOp_put o hs _ _ v hd).trans h1, (wanted_put o _ _ v hd).trans h2⟩
/-- what is told as listed and put is what is listed and put, and O besides -/
structure Told (ops : Array Oper) (L : Array Bool) (a : Act) (O : List (Nat × Value)) (V : Array Bool) (A : Act) : Prop where
  nodup : (O.map (·.1)).Nodup
  qok : ∀ p ∈ O, QOk ops p.1
  out : ∀ p ∈ O, L.getD p.1 true = false
  mem : ∀ i, V.getD i true = false ↔ L.getD i true = false ∧ ∀ p ∈ O, p.1 ≠ i
  vsz : V.size = ops.size
  lsz : L.size = ops.size
  pre : ∀ p ∈ O, ∀ i, Waits ops p.1 i → V.getD i false = true
  act : A = puts ops a O
theorem getD_lt {L : Array Bool} {i : Nat} (h : L.getD i true = false) : i < L.size := by
  rcases Nat.lt_or_ge i L.size with h' | h'
  · exact h'
  · simp [Array.getElem?_eq_none h'] at h
theorem getD_dual {L : Array Bool} {i : Nat} (h : i < L.size) : L.getD i true = L.getD i false := by simp [h]
theorem setL_size (L : Array Bool) (i : Nat) : (setL L i).size = L.size := by simp [setL]
theorem setL_getD {L : Array Bool} {i j : Nat} (h : i < L.size) : (setL L i).getD j true = false ↔ L.getD j true = false ∧ j ≠ i := by
  unfold setL
  by_cases hij : i = j
  · subst hij; simp [h]
  · rw [getD_set_ne true hij]
    exact ⟨fun e => ⟨e, fun e2 => hij e2.symm⟩, fun e => e.1⟩
theorem ready_iff {j : Nat} {L : Array Bool} : j ∈ Region.ready .any ops L ↔ L.getD j true = false ∧ (∃ o, ops[j]? = some o) ∧ ∀ i, Waits ops j i → L.getD i false = true := by
  rw [mem_ready]
  constructor
  · rintro ⟨h0, o, ho, h⟩
    refine ⟨h0, ⟨o, ho⟩, ?_⟩
    rintro i ⟨o2, ho2, e, he, hb, rfl⟩
    rw [ho] at ho2; simp only [Option.some.injEq] at ho2; subst ho2
    exact h e he hb
  · rintro ⟨h0, ⟨o, ho⟩, h⟩
    exact ⟨h0, o, ho, fun e he hb => h e.on ⟨o, ho, e, he, hb, rfl⟩⟩
theorem Told.sub {L : Array Bool} {a : Act} {O : List (Nat × Value)} {V : Array Bool} {A : Act} (t : Told ops L a O V A) {i : Nat} (h : L.getD i false = true) : V.getD i false = true := by
  cases hv : V.getD i false with
  | true => rfl
  | false =>
    have hi : i < V.size := by
      rw [t.vsz, ← t.lsz]
      rcases Nat.lt_or_ge i L.size with h' | h'
      · exact h'
      · simp [Array.getElem?_eq_none h'] at h
    rw [← getD_dual hi] at hv
    have := ((t.mem i).1 hv).1
    rw [getD_dual (by rw [t.lsz, ← t.vsz]; exact hi), h] at this
    cases this
/-- an operation that is told, and may come now, comes -/
theorem Told.come {L : Array Bool} {a : Act} {O : List (Nat × Value)} {V : Array Bool} {A : Act} (t : Told ops L a O V A) {k : Nat} {v : Value} (hk : (k, v) ∈ O) :
    Told ops (setL L k) (a.put (dstOf ops k) v) (O.filter fun p => p.1 != k) V A := by
  have hkl := t.out _ hk
  have hlt := getD_lt hkl
  have hmem : ∀ p, p ∈ O.filter (fun p => p.1 != k) ↔ p ∈ O ∧ p.1 ≠ k := fun p => by simp
  refine ⟨?_, fun p hp => t.qok p ((hmem p).1 hp).1, fun p hp => ?_, fun i => ?_, t.vsz, by rw [setL_size]; exact t.lsz, fun p hp => t.pre p ((hmem p).1 hp).1, ?_⟩
  · exact t.nodup.sublist (List.Sublist.map _ List.filter_sublist)
  · exact (setL_getD hlt).2 ⟨t.out p ((hmem p).1 hp).1, ((hmem p).1 hp).2⟩
  · rw [t.mem i, setL_getD hlt]
    constructor
    · rintro ⟨h1, h2⟩
      exact ⟨⟨h1, fun e => h2 _ hk e.symm⟩, fun p hp => h2 p ((hmem p).1 hp).1⟩
    · rintro ⟨⟨h1, h2⟩, h3⟩
      refine ⟨h1, fun p hp e => ?_⟩
      by_cases hpk : p.1 = k
      · exact h2 (by rw [← e, hpk])
      · exact h3 p ((hmem p).2 ⟨hp, hpk⟩) e
  · rw [t.act]
    have key : ∀ (O : List (Nat × Value)), (O.map (·.1)).Nodup → (∀ p ∈ O, QOk ops p.1) → (k, v) ∈ O → puts ops a O = puts ops (a.put (dstOf ops k) v) (O.filter fun p => p.1 != k) := by
      intro O
      induction O with
      | nil => intro _ _ h; cases h
      | cons p O ih =>
        intro hn hq hm
        obtain ⟨i, u⟩ := p
        simp only [List.map_cons, List.nodup_cons] at hn
        by_cases hik : i = k
        · subst hik
          have huv : u = v := by
            rcases List.mem_cons.1 hm with e | e
            · simp only [Prod.mk.injEq] at e; exact e.2.symm
            · exact absurd (List.mem_map.2 ⟨_, e, rfl⟩) hn.1
          subst huv
          have hf : (List.filter (fun p => p.1 != i) ((i, u) :: O)) = O := by
            rw [List.filter_cons_of_neg (by simp)]
            refine List.filter_eq_self.2 fun p hp => ?_
            have : p.1 ≠ i := fun e => hn.1 (List.mem_map.2 ⟨p, hp, e⟩)
            simpa using this
          rw [hf]
          simp only [puts]
          refine (puts_put fun p hp d hd => ?_).symm
          have hpi : i ≠ p.1 := fun e => hn.1 (List.mem_map.2 ⟨p, hp, e.symm⟩)
          exact dst_ne (hq p (List.mem_cons_of_mem _ hp)) hpi d hd
        · rcases List.mem_cons.1 hm with e | e
          · simp only [Prod.mk.injEq] at e; exact absurd e.1.symm hik
          · rw [List.filter_cons_of_pos (by simpa using hik)]
            simp only [puts]
            rw [ih hn.2 (fun p hp => hq p (List.mem_cons_of_mem _ hp)) e]
    exact key O t.nodup t.qok hk
/-- nobody that may come now reads what is only told -/
theorem Told.blind {L : Array Bool} {a : Act} {O : List (Nat × Value)} {V : Array Bool} {A : Act} (t : Told ops L a O V A) {k : Nat} {o : Oper} (ho : ops[k]? = some o) (hr : k ∈ Region.ready .any ops L) :
    ∀ p ∈ O, ∀ d, dstOf ops p.1 = some d → d ∉ o.looksAt ops := by
  intro p hp d hd hl
  obtain ⟨oi, hoi, _, hq⟩ := t.qok p hp
  simp only [dstOf, hoi, Option.bind_some] at hd
  by_cases hpk : k = p.1
  · subst hpk
    rw [ho] at hoi; simp only [Option.some.injEq] at hoi; subst hoi
    exact (hq d hd).1 hl
  · obtain ⟨e, he, hb, hon⟩ := ((hq d hd).2 k o ho hpk).2 hl
    have h1 := (ready_iff.1 hr).2.2 p.1 ⟨o, ho, e, he, hb, hon⟩
    have h2 := t.out p hp
    rw [getD_dual (getD_lt h2), h1] at h2
    cases h2
theorem looks_same {L : Array Bool} {a : Act} {O : List (Nat × Value)} {V : Array Bool} {A : Act} (t : Told ops L a O V A) {k : Nat} {o : Oper} (ho : ops[k]? = some o) (hs : ∀ cs b, o.op ≠ .select cs b) (hr : k ∈ Region.ready .any ops L) :
    execOp A.eval o = execOp a.eval o ∧ Region.wanted o (yielded ops A.tmps) = Region.wanted o (yielded ops a.tmps) := by
  rw [t.act]; exact looks_put hs (t.blind ho hr)
/-- **one order tells of all** -/
theorem Sd_any (hsel : Region.noSelect ops = true) (hdown : ∀ j i, Waits ops j i → i < j) : ∀ (m n : Nat) (L : Array Bool) (a : Act) (O : List (Nat × Value)) (V : Array Bool) (A : Act) (w : World),
    Told ops L a O V A → (∀ p ∈ O, YAt P ops p.1 p.2 A w) → Sd P ops Q n V O A w → wpAny P .any ops Q (m + (L.toList.filter (!·)).length) L a w := by
  have hcount : ∀ (L : Array Bool) (k : Nat), L.getD k true = false → ((setL L k).toList.filter (!·)).length + 1 = (L.toList.filter (!·)).length := by
    intro L k hk
    have hlt := getD_lt hk
    have hf : L[k] = false := by simpa [hlt] using hk
    have : ∀ (l : List Bool) (k : Nat) (h : k < l.length), l[k] = false → ((l.set k true).filter (!·)).length + 1 = (l.filter (!·)).length := by
      intro l
      induction l with
      | nil => intro k h; simp at h
      | cons b l ih =>
        intro k h hb
        cases k with
        | zero => simp at hb; subst hb; simp
        | succ k =>
          have := ih k (by simpa using h) (by simpa using hb)
          cases b <;> simp [this]
    simpa [setL] using this L.toList k (by simpa using hlt) (by simpa using hf)
  intro m n
  -- by how many have not come yet
  suffices hs : ∀ (c : Nat) (n : Nat) (L : Array Bool) (a : Act) (O : List (Nat × Value)) (V : Array Bool) (A : Act) (w : World), (L.toList.filter (!·)).length = c →
      Told ops L a O V A → (∀ p ∈ O, YAt P ops p.1 p.2 A w) → Sd P ops Q n V O A w → wpAny P .any ops Q (m + c) L a w by
    intro L a O V A w t hy h
    exact hs _ n L a O V A w rfl t hy h
  intro c
  induction c with
  | zero =>
    intro n L a O V A w hc t hy h
    have hall : ∀ i, L.getD i true = true := by
      intro i
      cases hi : L.getD i true with
      | true => rfl
      | false => have := hcount L i hi; omega
    have hO : O = [] := by
      cases O with
      | nil => rfl
      | cons p O => have := t.out p List.mem_cons_self; rw [hall] at this; cases this
    subst hO
    have hA : A = a := t.act
    subst hA
    have hrd : Region.ready .any ops L = [] := by
      cases hr : Region.ready .any ops L with
      | nil => rfl
      | cons x xs =>
        have : x ∈ Region.ready .any ops L := by rw [hr]; exact List.mem_cons_self
        have := (ready_iff.1 this).1
        rw [hall] at this; cases this
    have hV : Region.ready .any ops V = [] := by
      cases hr : Region.ready .any ops V with
      | nil => rfl
      | cons x xs =>
        have : x ∈ Region.ready .any ops V := by rw [hr]; exact List.mem_cons_self
        have := ((t.mem x).1 (ready_iff.1 this).1).1
        rw [hall] at this; cases this
    have hQ : Q .normal A w := by
      cases n with
      | zero => exact h.2
      | succ n =>
        rcases h with h | ⟨i, v, h1, _⟩ | h
        · exact h.2
        · rw [hV] at h1; cases h1
        · exact absurd hV h.1
    cases m with
    | zero => exact ⟨hrd, hQ⟩
    | succ m => exact ⟨fun _ => hQ, fun i hi => by rw [hrd] at hi; cases hi⟩
  | succ c ih =>
    intro n L a O V A w hc t hy h
    -- as far as nothing is done
    have adv : ∀ (n : Nat) (O : List (Nat × Value)) (V : Array Bool) (A : Act), Told ops L a O V A → (∀ p ∈ O, YAt P ops p.1 p.2 A w) → Sd P ops Q n V O A w →
        ∃ n' O' V' A', Told ops L a O' V' A' ∧ (∀ p ∈ O', YAt P ops p.1 p.2 A' w) ∧ Sd P ops Q n' V' O' A' w ∧ ((Region.ready .any ops V' = [] ∧ Q .normal A' w) ∨ ∃ n2, (Region.ready .any ops V' ≠ [] ∧ ∀ j ∈ Region.ready .any ops V', Does P ops j A' w fun A' w' => ∃ O2, (∀ p ∈ O', p ∈ O2 ∨ Waits ops j p.1) ∧ (∀ p ∈ O2, YAt P ops p.1 p.2 A' w') ∧ Sd P ops Q n2 (setL V' j) O2 A' w')) := by
      intro n
      induction n with
      | zero => intro O V A t hy h; exact ⟨0, O, V, A, t, hy, h, .inl h⟩
      | succ n ihn =>
        intro O V A t hy h
        rcases h with h | ⟨i, v, h1, h2, h3, h4⟩ | h
        · exact ⟨n + 1, O, V, A, t, hy, .inl h, .inl h⟩
        · have hr := ready_iff.1 h1
          have hmi := (t.mem i).1 hr.1
          have hlt := getD_lt hr.1
          refine ihn ((i, v) :: O) (setL V i) (A.put (dstOf ops i) v) ⟨?_, ?_, ?_, ?_, by rw [setL_size]; exact t.vsz, t.lsz, ?_, by rw [t.act]; rfl⟩ ?_ h4
          · simp only [List.map_cons, List.nodup_cons]
            exact ⟨fun e => by obtain ⟨p, hp, e2⟩ := List.mem_map.1 e; exact hmi.2 p hp e2, t.nodup⟩
          · intro p hp
            rcases List.mem_cons.1 hp with rfl | hp
            · exact h2
            · exact t.qok p hp
          · intro p hp
            rcases List.mem_cons.1 hp with rfl | hp
            · exact hmi.1
            · exact t.out p hp
          · intro j
            rw [setL_getD hlt, t.mem j]
            constructor
            · rintro ⟨⟨q1, q2⟩, q3⟩
              refine ⟨q1, fun p hp => ?_⟩
              rcases List.mem_cons.1 hp with rfl | hp
              · exact fun e => q3 e.symm
              · exact q2 p hp
            · rintro ⟨q1, q2⟩
              exact ⟨⟨q1, fun p hp => q2 p (List.mem_cons_of_mem _ hp)⟩, fun e => q2 (i, v) List.mem_cons_self e.symm⟩
          · intro p hp j hw
            refine getD_set_true ?_
            rcases List.mem_cons.1 hp with rfl | hp
            · exact hr.2.2 j hw
            · exact t.pre p hp j hw
          · intro p hp
            obtain ⟨oi, hoi, _, hq⟩ := h2
            have hdi : dstOf ops i = oi.dst := by simp [dstOf, hoi]
            rw [hdi]
            rcases List.mem_cons.1 hp with rfl | hp
            · obtain ⟨o, ho, hyo⟩ := h3
              rw [hoi] at ho; simp only [Option.some.injEq] at ho; subst ho
              have hsel' := Region.noSelect_spec hsel i oi
              refine ⟨oi, hoi, ?_⟩
              rw [execOp_put oi (fun cs b => hsel' cs b hoi) A oi.dst v fun d hd => (hq d hd).1, wanted_put oi A oi.dst v fun d hd => (hq d hd).1]
              exact hyo
            · obtain ⟨o, ho, hyo⟩ := hy p hp
              have hne : p.1 ≠ i := hmi.2 p hp
              have hbl : ∀ d, oi.dst = some d → d ∉ o.looksAt ops := fun d hd hl => by
                obtain ⟨e, he, hb, hon⟩ := ((hq d hd).2 p.1 o ho hne).2 hl
                have := t.pre p hp i ⟨o, ho, e, he, hb, hon⟩
                have h0 := hr.1
                rw [getD_dual hlt, this] at h0; cases h0
              refine ⟨o, ho, ?_⟩
              rw [execOp_put o (fun cs b => Region.noSelect_spec hsel p.1 o cs b ho) A oi.dst v hbl, wanted_put o A oi.dst v hbl]
              exact hyo
        · exact ⟨n + 1, O, V, A, t, hy, .inr (.inr h), .inr ⟨n, h⟩⟩
    obtain ⟨n, O, V, A, t, hy, h, hnode⟩ := adv n O V A t hy h
    show wpAny P .any ops Q ((m + c) + 1) L a w
    refine ⟨fun hrl => ?_, fun k hk => ?_⟩
    · have hO : O = [] := by
        cases hO : O with
        | nil => rfl
        | cons p0 O0 =>
          have key : ∀ (x : Nat) (p : Nat × Value), p ∈ O → p.1 = x → False := by
            intro x
            induction x using Nat.strongRecOn with
            | _ x ihx =>
              intro p hp hpx
              have : p.1 ∈ Region.ready .any ops L := by
                refine ready_iff.2 ⟨t.out p hp, ?_, fun y hw => ?_⟩
                · obtain ⟨o, ho, _⟩ := t.qok p hp; exact ⟨o, ho⟩
                · have hv := t.pre p hp y hw
                  cases hl : L.getD y false with
                  | true => rfl
                  | false =>
                    have hyv : y < L.size := by
                      rw [t.lsz, ← t.vsz]
                      rcases Nat.lt_or_ge y V.size with h' | h'
                      · exact h'
                      · simp [Array.getElem?_eq_none h'] at hv
                    have hl' : L.getD y true = false := by rw [getD_dual hyv]; exact hl
                    have hv' : V.getD y true = true := by rw [getD_dual (by rw [t.vsz, ← t.lsz]; exact hyv)]; exact hv
                    have hex : ∃ q ∈ O, q.1 = y := by
                      refine Classical.byContradiction fun hno => ?_
                      have := (t.mem y).2 ⟨hl', fun q hq e => hno ⟨q, hq, e⟩⟩
                      rw [hv'] at this; cases this
                    obtain ⟨q, hq, e⟩ := hex
                    exact absurd (ihx y (by have := hdown _ _ hw; omega) q hq e) id
              rw [hrl] at this; cases this
          exact absurd (key p0.1 p0 (by rw [hO]; exact List.mem_cons_self) rfl) id
      subst hO
      have hA : A = a := t.act
      subst hA
      have hV : Region.ready .any ops V = [] := by
        cases hr : Region.ready .any ops V with
        | nil => rfl
        | cons x xs =>
          have hx : x ∈ Region.ready .any ops V := by rw [hr]; exact List.mem_cons_self
          have hx' := ready_iff.1 hx
          have : x ∈ Region.ready .any ops L := by
            refine ready_iff.2 ⟨((t.mem x).1 hx'.1).1, hx'.2.1, fun y hw => ?_⟩
            have hv := hx'.2.2 y hw
            cases hl : L.getD y false with
            | true => rfl
            | false =>
              have hyv : y < L.size := by
                rw [t.lsz, ← t.vsz]
                rcases Nat.lt_or_ge y V.size with h' | h'
                · exact h'
                · simp [Array.getElem?_eq_none h'] at hv
              have := (t.mem y).2 ⟨by rw [getD_dual hyv]; exact hl, fun q hq => by cases hq⟩
              rw [getD_dual (by rw [t.vsz, ← t.lsz]; exact hyv), hv] at this; cases this
          rw [hrl] at this; cases this
      rcases hnode with hn | ⟨n2, hn⟩
      · exact hn.2
      · exact absurd hV hn.1
    · have hkr := ready_iff.1 hk
      have hcn := hcount L k hkr.1
      have hcc : ((setL L k).toList.filter (!·)).length = c := by omega
      by_cases hkO : ∃ v, (k, v) ∈ O
      · obtain ⟨v, hkv⟩ := hkO
        obtain ⟨o, ho, hyo⟩ := hy _ hkv
        have hls := looks_same t ho (fun cs b => Region.noSelect_spec hsel k o cs b ho) hk
        rw [hls.1, hls.2] at hyo
        have hdk : dstOf ops k = o.dst := by simp [dstOf, ho]
        have hnext : wpAny P .any ops Q (m + c) (setL L k) (a.put o.dst v) w := by
          refine ih n (setL L k) (a.put o.dst v) (O.filter fun p => p.1 != k) V A w hcc (hdk ▸ t.come hkv) (fun p hp => hy p (List.mem_filter.1 hp).1) (Sd_sub n (fun p hp => (List.mem_filter.1 hp).1) h)
        refine Does.wpOp ⟨o, ho, ?_⟩
        rcases hyo with ⟨q1, q2⟩ | ⟨q1, rfl⟩
        · exact .inr ⟨q1, .inl ⟨v, w, q2, hnext⟩⟩
        · exact .inl ⟨q1, hnext⟩
      · have hkn : ∀ p ∈ O, p.1 ≠ k := fun p hp e => hkO ⟨p.2, by rw [← e]; exact hp⟩
        have hkV : k ∈ Region.ready .any ops V := ready_iff.2 ⟨(t.mem k).2 ⟨hkr.1, hkn⟩, hkr.2.1, fun y hw => t.sub (hkr.2.2 y hw)⟩
        rcases hnode with hn | ⟨n2, hn⟩
        · rw [hn.1] at hkV; cases hkV
        · have hd := hn.2 k hkV
          obtain ⟨o, ho⟩ := hkr.2.1
          have hls := looks_same t ho (fun cs b => Region.noSelect_spec hsel k o cs b ho) hk
          have hlk := getD_lt hkr.1
          have hvk := getD_lt (ready_iff.1 hkV).1
          -- what follows
          have next : ∀ (u : Value) (w' : World), (∃ O2, (∀ p ∈ O, p ∈ O2 ∨ Waits ops k p.1) ∧ (∀ p ∈ O2, YAt P ops p.1 p.2 (A.put o.dst u) w') ∧ Sd P ops Q n2 (setL V k) O2 (A.put o.dst u) w') →
              wpAny P .any ops Q (m + c) (setL L k) (a.put o.dst u) w' := by
            rintro u w' ⟨O2, a1, a2, a3⟩
            have hsub : ∀ p ∈ O, p ∈ O2 := fun p hp => by
              rcases a1 p hp with e | e
              · exact e
              · have h1 := hkr.2.2 p.1 e
                have h2 := t.out p hp
                rw [getD_dual (getD_lt h2), h1] at h2; cases h2
            refine ih n2 (setL L k) (a.put o.dst u) O (setL V k) (A.put o.dst u) w' hcc ⟨t.nodup, t.qok, ?_, ?_, by rw [setL_size]; exact t.vsz, by rw [setL_size]; exact t.lsz, fun p hp y hw => getD_set_true (t.pre p hp y hw), ?_⟩ (fun p hp => a2 p (hsub p hp)) (Sd_sub n2 hsub a3)
            · exact fun p hp => (setL_getD hlk).2 ⟨t.out p hp, hkn p hp⟩
            · intro j
              rw [setL_getD hvk, setL_getD hlk, t.mem j]
              exact ⟨fun ⟨⟨q1, q2⟩, q3⟩ => ⟨⟨q1, q3⟩, q2⟩, fun ⟨⟨q1, q3⟩, q2⟩ => ⟨⟨q1, q2⟩, q3⟩⟩
            · rw [t.act]
              refine (puts_put fun p hp d hd => ?_).symm
              have := dst_ne (t.qok p hp) (fun e => hkn p hp e.symm) d hd
              simpa [dstOf, ho] using this
          obtain ⟨o', ho', hd⟩ := hd
          rw [ho] at ho'; simp only [Option.some.injEq] at ho'; subst ho'
          rw [hls.1, hls.2] at hd
          refine Does.wpOp ⟨o, ho, ?_⟩
          rcases hd with ⟨q1, q2⟩ | ⟨q1, q2⟩
          · exact .inl ⟨q1, next _ _ q2⟩
          · refine .inr ⟨q1, ?_⟩
            rcases q2 with ⟨v, w', r1, r2⟩ | ⟨w', r1, r2⟩ | ⟨f, args, w', r1, r2⟩
            · exact .inl ⟨v, w', r1, next _ _ r2⟩
            · exact .inr (.inl ⟨w', r1, next _ _ r2⟩)
            · exact .inr (.inr ⟨f, args, w', r1, Calls.mono r2 fun e w'' ⟨v, he, hv⟩ => ⟨v, he, next _ _ hv⟩⟩)
end
end Go.Ev
