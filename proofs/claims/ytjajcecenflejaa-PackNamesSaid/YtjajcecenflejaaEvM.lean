/- A region that draws its order: one order tells of all, where what was looked at first is there still. Of no program. -/
import Derived.OrdersIn
import Derived.TacticsIn
namespace Go.Ev
section
variable {P : Program} {ops : Array Oper} {Q : Exit → Act → World → Prop}
def dstOf (ops : Array Oper) (i : Nat) : Option Tmp := (ops[i]?).bind (·.dst)
/-- operation i yields v, here and now, and does nothing else -/
def YAt (P : Program) (ops : Array Oper) (i : Nat) (v : Value) (A : Act) (w : World) : Prop :=
  ∃ o, ops[i]? = some o ∧ ((Region.wanted o (yielded ops A.tmps) = true ∧ (execOp A.eval o).run P w = .ok (.value v) w) ∨ (Region.wanted o (yielded ops A.tmps) = false ∧ v = undef))
/-- what operation j does -/
def Does (P : Program) (ops : Array Oper) (j : Nat) (A : Act) (w : World) (K : Act → World → Prop) : Prop :=
  ∃ o, ops[j]? = some o ∧ ((Region.wanted o (yielded ops A.tmps) = false ∧ K (A.put o.dst undef) w) ∨ (Region.wanted o (yielded ops A.tmps) = true ∧
    ((∃ v w', (execOp A.eval o).run P w = .ok (.value v) w' ∧ K (A.put o.dst v) w') ∨ (∃ w', (execOp A.eval o).run P w = .ok .skip w' ∧ K (A.put o.dst undef) w') ∨
     (∃ f args w', (execOp A.eval o).run P w = .ok (.enter f args) w' ∧ Calls P f args w' (fun e w'' => ∃ v, e = .returned v ∧ K (A.put o.dst v) w'')) ∨
     (∃ l f tmps as bd w', (execOp A.eval o).run P w = .ok (.round l f tmps as bd) w' ∧ RoundIn Fence.wide 0 P l f tmps as bd w' (fun e w'' => ∃ v, e = .returned v ∧ K (A.put o.dst v) w'')))))
/-- the fence of whatever runs: wide; in a round or not -/
def Fw (ρ : Option Nat) : Fence := { Fence.wide with round := ρ }
theorem semAt_ok {ρ : Option Nat} {ev : Operand → Value} {o : Oper} {w w' : World} {x : Next} (h : (execOp ev o).run P w = .ok x w') (hx : ∀ d, x ≠ .defer d) : (o.semAt ρ ev).run P w = .ok x w' := by
  rw [Oper.semAt_eq ρ ev o]
  · exact h
  · intro c hc
    have h2 : (execOp ev o).run P w = (resolve ev c o.type >>= fun d => (pure (Next.defer d) : Sem Next)).run P w := by
      unfold execOp; rw [hc]
    rw [h2, Sem.run_bind] at h
    cases hr : (resolve ev c o.type).run P w with
    | ok d w1 =>
      rw [hr] at h
      simp only [Result.andThen_ok, Sem.run_pure, Result.ok.injEq] at h
      exact hx d h.1.symm
    | halt e w1 => rw [hr] at h; cases h
/-- one operation that is wanted -/
theorem wpIn_of_does {ρ : Option Nat} {o : Oper} {A : Act} {w : World} {K : Act → World → Prop} (h : ((∃ v w', (execOp A.eval o).run P w = .ok (.value v) w' ∧ K (A.put o.dst v) w') ∨ (∃ w', (execOp A.eval o).run P w = .ok .skip w' ∧ K (A.put o.dst undef) w') ∨
     (∃ f args w', (execOp A.eval o).run P w = .ok (.enter f args) w' ∧ Calls P f args w' (fun e w'' => ∃ v, e = .returned v ∧ K (A.put o.dst v) w'')) ∨
     (∃ l f tmps as bd w', (execOp A.eval o).run P w = .ok (.round l f tmps as bd) w' ∧ RoundIn Fence.wide 0 P l f tmps as bd w' (fun e w'' => ∃ v, e = .returned v ∧ K (A.put o.dst v) w'')))) : o.wpIn (Fw ρ) 0 P A w K Q := by
  refine ⟨fun _ _ => trivial, ?_⟩
  rcases h with ⟨v, w', hr, hk⟩ | ⟨w', hr, hk⟩ | ⟨f, args, w', hr, hc⟩ | ⟨l, f, tmps, as, bd, w', hr, hc⟩
  · rw [semAt_ok hr (fun d => by simp)]; exact hk
  · rw [semAt_ok hr (fun d => by simp)]; exact hk
  · rw [semAt_ok hr (fun d => by simp)]
    refine ⟨fun h => (by cases h), ?_⟩
    have hc2 : CallsIn Fence.wide 0 P f args w' (fun e w'' => ∃ v, e = .returned v ∧ K (A.put o.dst v) w'') := callsIn_wide.2 hc
    exact CallsIn.mono (F := Fw ρ) hc2 fun e w'' ⟨v, he, hk⟩ => by subst he; exact hk
  · rw [semAt_ok hr (fun d => by simp)]
    refine ⟨fun h => (by cases h), ?_⟩
    exact RoundIn.mono (F := Fw ρ) hc fun e w'' ⟨v, he, hk⟩ => by subst he; exact hk
theorem Does.wpOp {ρ : Option Nat} {j : Nat} {A : Act} {w : World} {K : Act → World → Prop} (h : Does P ops j A w K) : wpOpIn (Fw ρ) 0 P ops Q j K A w := by
  obtain ⟨o, ho, h⟩ := h
  unfold Go.wpOpIn
  simp only [ho]
  rcases h with ⟨hw, hk⟩ | ⟨hw, h⟩
  · simp only [hw, Bool.false_eq_true, if_false]; exact ⟨fun _ _ => trivial, hk⟩
  · simp only [hw, if_true]
    exact wpIn_of_does h
theorem Does.mono {j : Nat} {A : Act} {w : World} {K K' : Act → World → Prop} (h : Does P ops j A w K) (hk : ∀ a w, K a w → K' a w) : Does P ops j A w K' := by
  obtain ⟨o, ho, h⟩ := h
  refine ⟨o, ho, ?_⟩
  rcases h with ⟨hw, h⟩ | ⟨hw, h⟩
  · exact .inl ⟨hw, hk _ _ h⟩
  · refine .inr ⟨hw, ?_⟩
    rcases h with ⟨v, w', hr, h⟩ | ⟨w', hr, h⟩ | ⟨f, args, w', hr, hc⟩ | ⟨l, f, tmps, as, bd, w', hr, hc⟩
    · exact .inl ⟨v, w', hr, hk _ _ h⟩
    · exact .inr (.inl ⟨w', hr, hk _ _ h⟩)
    · exact .inr (.inr (.inl ⟨f, args, w', hr, Calls.mono hc fun e w'' ⟨v, he, h⟩ => ⟨v, he, hk _ _ h⟩⟩))
    · exact .inr (.inr (.inr ⟨l, f, tmps, as, bd, w', hr, RoundIn.mono hc fun e w'' ⟨v, he, h⟩ => ⟨v, he, hk _ _ h⟩⟩))
/-- operation i may be looked at ahead of its turn: nobody else writes where it yields, and who reads there waits for it -/
def QOk (ops : Array Oper) (i : Nat) : Prop :=
  ∃ o, ops[i]? = some o ∧ (∀ cs b, o.op ≠ .select cs b) ∧ ∀ d, o.dst = some d → d ∉ o.looksAt ops ∧ ∀ j oj, ops[j]? = some oj → j ≠ i → oj.dst ≠ some d ∧ (d ∈ oj.looksAt ops → ∃ e ∈ oj.after, Region.binds .any e = true ∧ e.on = i)
def setL (L : Array Bool) (i : Nat) : Array Bool := L.setIfInBounds i true
/-- who waits for another one -/
def Waits (ops : Array Oper) (j i : Nat) : Prop := ∃ o, ops[j]? = some o ∧ ∃ e ∈ o.after, Region.binds .any e = true ∧ e.on = i
theorem getD_lt {L : Array Bool} {i : Nat} (h : L.getD i true = false) : i < L.size := by
  rcases Nat.lt_or_ge i L.size with h' | h'
  · exact h'
  · simp [Array.getElem?_eq_none h'] at h
theorem getD_dual {L : Array Bool} {i : Nat} (h : i < L.size) : L.getD i true = L.getD i false := by simp [h]
theorem setL_size (L : Array Bool) (i : Nat) : (setL L i).size = L.size := by simp [setL]
theorem setL_getD {L : Array Bool} {i j : Nat} (h : i < L.size) : (setL L i).getD j true = false ↔ L.getD j true = false ∧ j ≠ i := by
  unfold setL
  by_cases hij : i = j
  · subst hij; simp [h]
  · rw [getD_set_ne true hij]
    exact ⟨fun e => ⟨e, fun e2 => hij e2.symm⟩, fun e => e.1⟩
theorem ready_iff {j : Nat} {L : Array Bool} : j ∈ Region.ready .any ops L ↔ L.getD j true = false ∧ (∃ o, ops[j]? = some o) ∧ ∀ i, Waits ops j i → L.getD i false = true := by
  rw [mem_ready]
  constructor
  · rintro ⟨h0, o, ho, h⟩
    refine ⟨h0, ⟨o, ho⟩, ?_⟩
    rintro i ⟨o2, ho2, e, he, hb, rfl⟩
    rw [ho] at ho2; simp only [Option.some.injEq] at ho2; subst ho2
    exact h e he hb
  · rintro ⟨h0, ⟨o, ho⟩, h⟩
    exact ⟨h0, o, ho, fun e he hb => h e.on ⟨o, ho, e, he, hb, rfl⟩⟩
end
end Go.Ev
