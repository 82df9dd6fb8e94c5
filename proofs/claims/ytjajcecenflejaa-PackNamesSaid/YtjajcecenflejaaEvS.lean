/- A machine that runs a Go text by reckoning: frames that look alike to an operation, and what is made ahead. Of no program. -/
import Derived.Test.YtjajcecenflejaaEvP
import Derived.Test.YtjajcecenflejaaEvN
namespace Go.Ev
open Go.RowKit

/-! ## frames that look alike -/
def Like (fr fr' : Fr) (l : List Operand) : Prop := ∀ x ∈ l, evx fr x = evx fr' x
section
variable {P : Program} {G : PT (List AV)} {fr fr' : Fr}
theorem evxs_like : ∀ {l : List Operand}, Like fr fr' l → evxs fr l = evxs fr' l
  | [], _ => rfl
  | x :: l, h => by
    simp only [evxs, h x List.mem_cons_self, evxs_like (l := l) fun y hy => h y (List.mem_cons_of_mem _ hy)]
theorem bnd_like {d : Nat} : ∀ {x : Option Operand}, (∀ y, x = some y → evx fr y = evx fr' y) → bnd fr d x = bnd fr' d x
  | none, _ => rfl
  | some y, h => by simp only [bnd, h y rfl]
theorem fillA_like {place : Nat → Option (Nat × Nat)} : ∀ {ps : List (Nat × Operand)} (c : List AV), Like fr fr' (ps.map (·.2)) → fillA place fr ps c = fillA place fr' ps c
  | [], _, _ => rfl
  | (i, x) :: ps, c, h => by
    have h1 := h x (by simp)
    have h2 := fun c => fillA_like (place := place) (ps := ps) c fun y hy => h y (by simp at hy ⊢; exact .inr hy)
    simp only [fillA, h1, h2]
theorem popSl_like {t : TypeId} {u : AV} {lo hi : Option Operand} (h1 : ∀ y, lo = some y → evx fr y = evx fr' y) (h2 : ∀ y, hi = some y → evx fr y = evx fr' y) : popSl P fr t u lo hi = popSl P fr' t u lo hi := by
  have e1 := fun d => bnd_like (d := d) h1
  have e2 := fun d => bnd_like (d := d) h2
  unfold popSl
  simp only [e1, e2]
theorem pop_like {op : Op} (h : Like fr fr' op.operands.toList) : pop P fr op = pop P fr' op := by
  cases op
  case build t ps =>
    have e : ∀ place c, fillA place fr ps.toList c = fillA place fr' ps.toList c := fun place c => fillA_like c (by simpa [Op.operands] using h)
    simp only [pop, popBuild, e]
  case unOp u t x => cases u <;> simp only [pop, h x (by simp [Op.operands])]
  case pick c a b => simp only [pop, h c (by simp [Op.operands]), h a (by simp [Op.operands]), h b (by simp [Op.operands])]
  case binOp b t x y t2 => simp only [pop, h x (by simp [Op.operands]), h y (by simp [Op.operands])]
  case indexAddr t x i => simp only [pop, h x (by simp [Op.operands]), h i (by simp [Op.operands])]
  case index t x i => simp only [pop, h x (by simp [Op.operands]), h i (by simp [Op.operands])]
  case makeFunc f first c =>
    have e1 : evxs fr c.toList = evxs fr' c.toList := evxs_like fun x hx => h x (by simp [Op.operands]; exact .inr (by simpa using hx))
    have e2 : ∀ x, x ∈ first.toList → evx fr x = evx fr' x := fun x hx => h x (by simp [Op.operands]; exact .inl (by simpa using hx))
    cases f <;> simp only [pop, e1]
    all_goals
      cases first.isEmpty
      · simp only [cond_false]
        split
        · rename_i hx _; rw [e2 _ (by rw [hx]; exact List.mem_cons_self)]
        · rfl
      · rfl
  case slice t x lo hi m =>
    have e1 := h x (by simp [Op.operands])
    cases m
    case some m =>
      cases lo
      case some => rfl
      cases hi
      case none => rfl
      case some hh =>
        have e2 := h hh (by simp [Op.operands])
        have e3 := h m (by simp [Op.operands])
        have e4 : ∀ u, popSm P fr t u hh m = popSm P fr' t u hh m := fun u => by unfold popSm; simp only [bnd, e2, e3]
        simp only [pop, e1, e4]
    have e2 := fun u => popSl_like (P := P) (t := t) (u := u) (lo := lo) (hi := hi) (fr := fr) (fr' := fr') (fun y hy => h y (by simp [Op.operands, hy])) (fun y hy => h y (by simp [Op.operands, hy]))
    simp only [pop, e1, e2]
  case call c =>
    have e1 : evxs fr c.args.toList = evxs fr' c.args.toList := evxs_like fun x hx => h x (by simp [Op.operands, Call.operands]; exact .inr (by simpa using hx))
    simp only [pop, e1]
  all_goals first
    | rfl
    | (rename_i x; simp only [pop, h x (by simp [Op.operands])]; done)
    | (rename_i x _; simp only [pop, h x (by simp [Op.operands])]; done)
    | (rename_i x _ _; simp only [pop, h x (by simp [Op.operands])]; done)
theorem lop_like {h : PT AO} {op : Op} (hl : Like fr fr' op.operands.toList) : lop P G fr h op = lop P G fr' h op := by
  cases op
  case load t x => simp only [lop, hl x (by simp [Op.operands])]
  case lookup t x k ok => simp only [lop, hl x (by simp [Op.operands]), hl k (by simp [Op.operands])]
  case convert s t x => simp only [lop, hl x (by simp [Op.operands])]
  case call c =>
    have e1 : evxs fr c.args.toList = evxs fr' c.args.toList := evxs_like fun x hx => hl x (by simp [Op.operands, Call.operands]; exact .inr (by simpa using hx))
    simp only [lop, e1]
  all_goals rfl
theorem mop_like {s : S} {op : Op} (h : Like fr fr' op.operands.toList) : mop P fr s op = mop P fr' s op := by
  cases op
  case box t x => simp only [mop, h x (by simp [Op.operands])]
  case buildSlice t n ps =>
    have e : ∀ place c, fillA place fr ps.toList c = fillA place fr' ps.toList c := fun place c => fillA_like c (by simpa [Op.operands] using h)
    simp only [mop, mBuildS, e]
  case store t a x => simp only [mop, h x (by simp [Op.operands]), h a (by simp [Op.operands])]
  case makeSlice t a x => simp only [mop, h x (by simp [Op.operands]), h a (by simp [Op.operands])]
  case mapUpdate t m k v => simp only [mop, h m (by simp [Op.operands]), h k (by simp [Op.operands]), h v (by simp [Op.operands])]
  case insert t m k v => simp only [mop, h m (by simp [Op.operands]), h k (by simp [Op.operands]), h v (by simp [Op.operands])]
  case range t x => simp only [mop, h x (by simp [Op.operands])]
  case convert s t x => simp only [mop, h x (by simp [Op.operands])]
  case makeMap t r => cases r <;> rfl
  case call c =>
    have e1 : evxs fr c.args.toList = evxs fr' c.args.toList := evxs_like fun x hx => h x (by simp [Op.operands, Call.operands]; exact .inr (by simpa using hx))
    simp only [mop, e1]
  all_goals rfl
/-- a read of old blocks does not see a new one -/
theorem lop_new {h : PT AO} {op : Op} {v : AV} {p : Ps} (o : AO) (hp : h.get p = none) (hl : lop P G fr h op = some v) : lop P G fr (h.set (some o) p) op = some v := by
  have hg : ∀ b o', h.get b = some o' → (h.set (some o) p).get b = some o' := fun b o' e => by
    rw [PT.get_set_ne _ _ _ _ (fun e2 => by subst e2; rw [hp] at e; cases e)]; exact e
  have hN : ∀ b off n l, ldN h b off n = some l → ldN (h.set (some o) p) b off n = some l := fun b off n l e => by
    unfold ldN at e ⊢
    cases hb : h.get b with
    | none => rw [hb] at e; cases e
    | some ob => rw [hg _ _ hb]; rw [hb] at e; exact e
  have h1 : ∀ b off l, ld1 h b off = some l → ld1 (h.set (some o) p) b off = some l := fun b off l e => by
    unfold ld1 at e ⊢
    cases hb : h.get b with
    | none => rw [hb] at e; cases e
    | some ob => rw [hg _ _ hb]; rw [hb] at e; exact e
  cases op
  case load t x =>
    simp only [lop] at hl ⊢
    split at hl
    · rename_i b off d hx hd
      cases hb : isAg P t with
      | true =>
        rw [hb, cond_true] at hl
        rw [cond_true]
        split at hl
        · rename_i i hi
          split at hl
          · rename_i l hl2
            rw [hN _ _ _ _ hl2]; exact hl
          · cases hl
        · cases hl
      | false => rw [hb, cond_false] at hl; exact h1 _ _ _ hl
    · exact hl
    · cases hl
  case lookup t x k ok =>
    simp only [lop] at hl ⊢
    split at hl
    · rename_i kt et k hu hk
      cases hc : ckA P 6 kt k with
      | false => rw [hc] at hl; cases hl
      | true =>
        rw [hc, cond_true] at hl
        rw [cond_true]
        split at hl
        · exact hl
        · rename_i b z hx hz
          split at hl
          · rename_i es cl hb
            rw [hg _ _ hb]; exact hl
          · cases hl
        · cases hl
    · cases hl
  case convert s t x =>
    simp only [lop] at hl ⊢
    split at hl
    · exact hl
    · rename_i e b off n cp h1 h2 h3
      split at hl
      · rename_i l he hl2
        rw [hN _ _ _ _ hl2]; rw [he]; exact hl
      · cases hl
    · cases hl
  case call c =>
    simp only [lop] at hl ⊢
    split at hl
    · exact hl
    · rename_i t ts b hc hts hvs
      split at hl
      · rename_i kt et es cl hu hb
        rw [hg _ _ hb, hu]; exact hl
      · cases hl
    · cases hl
  all_goals cases hl
end
end Go.Ev
