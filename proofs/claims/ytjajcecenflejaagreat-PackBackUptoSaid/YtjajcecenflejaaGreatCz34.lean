/- YtjajcecenflejaaGreatCz34 -/
import Derived.Test.YtjajcecenflejaaGreatCz33
namespace Go.Ev
open Go.RowKit
def Like (fr fr' : Fr) (l : List Operand) : Prop := ∀ x ∈ l, evx fr x = evx fr' x
section
variable {P : Program} {G : PT (List AV)} {fr fr' : Fr}
theorem evxs_like : ∀ {l : List Operand}, Like fr fr' l → evxs fr l = evxs fr' l
  | [], _ => rfl
  | x :: l, h => by
    simp only [evxs, h x List.mem_cons_self, evxs_like (l := l) fun y hy => h y (List.mem_cons_of_mem _ hy)]
theorem bnd_like {d : Nat} : ∀ {x : Option Operand}, (∀ y, x = some y → evx fr y = evx fr' y) → bnd fr d x = bnd fr' d x
  | none, _ => rfl
  | some y, h => by simp only [bnd, h y rfl]
theorem fillA_like {place : Nat → Option (Nat × Nat)} : ∀ {ps : List (Nat × Operand)} (c : List AV), Like fr fr' (ps.map (·.2)) → fillA place fr ps c = fillA place fr' ps c
  | [], _, _ => rfl
  | (i, x) :: ps, c, h => by
    have h1 := h x (by simp)
    have h2 := fun c => fillA_like (place := place) (ps := ps) c fun y hy => h y (by simp at hy ⊢; exact .inr hy)
    simp only [fillA, h1, h2]
theorem popSl_like {t : TypeId} {u : AV} {lo hi : Option Operand} (h1 : ∀ y, lo = some y → evx fr y = evx fr' y) (h2 : ∀ y, hi = some y → evx fr y = evx fr' y) : popSl P fr t u lo hi = popSl P fr' t u lo hi := by
  have e1 := fun d => bnd_like (d := d) h1
  have e2 := fun d => bnd_like (d := d) h2
  unfold popSl
  simp only [e1, e2]
theorem pop_like {op : Op} (h : Like fr fr' op.operands.toList) : pop P fr op = pop P fr' op := by
  cases op
  case build t ps =>
    have e : ∀ place c, fillA place fr ps.toList c = fillA place fr' ps.toList c := fun place c => fillA_like c (by simpa [Op.operands] using h)
    simp only [pop, popBuild, e]
  case unOp u t x => cases u <;> simp only [pop, h x (by simp [Op.operands])]
  case pick c a b => simp only [pop, h c (by simp [Op.operands]), h a (by simp [Op.operands]), h b (by simp [Op.operands])]
  case binOp b t x y t2 => simp only [pop, h x (by simp [Op.operands]), h y (by simp [Op.operands])]
  case indexAddr t x i => simp only [pop, h x (by simp [Op.operands]), h i (by simp [Op.operands])]
  case index t x i => simp only [pop, h x (by simp [Op.operands]), h i (by simp [Op.operands])]
  case makeFunc f first c =>
    have e1 : evxs fr c.toList = evxs fr' c.toList := evxs_like fun x hx => h x (by simp [Op.operands]; exact .inr (by simpa using hx))
    have e2 : ∀ x, x ∈ first.toList → evx fr x = evx fr' x := fun x hx => h x (by simp [Op.operands]; exact .inl (by simpa using hx))
    cases f <;> simp only [pop, e1]
    all_goals
      cases first.isEmpty
      · simp only [cond_false]
        split
        · rename_i hx _; rw [e2 _ (by rw [hx]; exact List.mem_cons_self)]
        · rfl
      · rfl
  case slice t x lo hi m =>
    have e1 := h x (by simp [Op.operands])
    cases m
    case some m =>
      cases lo
      case some => rfl
      cases hi
      case none => rfl
      case some hh =>
        have e2 := h hh (by simp [Op.operands])
        have e3 := h m (by simp [Op.operands])
        have e4 : ∀ u, popSm P fr t u hh m = popSm P fr' t u hh m := fun u => by unfold popSm; simp only [bnd, e2, e3]
        simp only [pop, e1, e4]
    have e2 := fun u => popSl_like (P := P) (t := t) (u := u) (lo := lo) (hi := hi) (fr := fr) (fr' := fr') (fun y hy => h y (by simp [Op.operands, hy])) (fun y hy => h y (by simp [Op.operands, hy]))
    simp only [pop, e1, e2]
  case call c =>
    have e1 : evxs fr c.args.toList = evxs fr' c.args.toList := evxs_like fun x hx => h x (by simp [Op.operands, Call.operands]; exact .inr (by simpa using hx))
    simp only [pop, e1]
  all_goals first
    | rfl
    | (rename_i x; simp only [pop, h x (by simp [Op.operands])]; done)
    | (rename_i x _; simp only [pop, h x (by simp [Op.operands])]; done)
    | (rename_i x _ _; simp only [pop, h x (by simp [Op.operands])]; done)
theorem lop_like {h : PT AO} {op : Op} (hl : Like fr fr' op.operands.toList) : lop P G fr h op = lop P G fr' h op := by
  cases op
  case load t x => simp only [lop, hl x (by simp [Op.operands])]
  case lookup t x k ok => simp only [lop, hl x (by simp [Op.operands]), hl k (by simp [Op.operands])]
  case convert s t x => simp only [lop, hl x (by simp [Op.operands])]
  case call c =>
    have e1 : evxs fr c.args.toList = evxs fr' c.args.toList := evxs_like fun x hx => hl x (by simp [Op.operands, Call.operands]; exact .inr (by simpa using hx))
    simp only [lop, e1]
  all_goals rfl
theorem mop_like {s : S} {op : Op} (h : Like fr fr' op.operands.toList) : mop P fr s op = mop P fr' s op := by
  cases op
  case box t x => simp only [mop, h x (by simp [Op.operands])]
  case buildSlice t n ps =>
    have e : ∀ place c, fillA place fr ps.toList c = fillA place fr' ps.toList c := fun place c => fillA_like c (by simpa [Op.operands] using h)
    simp only [mop, mBuildS, e]
  case store t a x => simp only [mop, h x (by simp [Op.operands]), h a (by simp [Op.operands])]
  case makeSlice t a x => simp only [mop, h x (by simp [Op.operands]), h a (by simp [Op.operands])]
  case mapUpdate t m k v => simp only [mop, h m (by simp [Op.operands]), h k (by simp [Op.operands]), h v (by simp [Op.operands])]
  case insert t m k v => simp only [mop, h m (by simp [Op.operands]), h k (by simp [Op.operands]), h v (by simp [Op.operands])]
  case range t x => simp only [mop, h x (by simp [Op.operands])]
  case convert s t x => simp only [mop, h x (by simp [Op.operands])]
  case makeMap t r => cases r <;> rfl
  case call c =>
    have e1 : evxs fr c.args.toList = evxs fr' c.args.toList := evxs_like fun x hx => h x (by simp [Op.operands, Call.operands]; exact .inr (by simpa using hx))
    simp only [mop, e1]
  all_goals rfl
theorem lop_new {h : PT AO} {op : Op} {v : AV} {p : Ps} (o : AO) (hp : h.get p = none) (hl : lop P G fr h op = some v) : lop P G fr (h.set (some o) p) op = some v := by
  have hg : ∀ b o', h.get b = some o' → (h.set (some o) p).get b = some o' := fun b o' e => by
    rw [PT.get_set_ne _ _ _ _ (fun e2 => by subst e2; rw [hp] at e; cases e)]; exact e
  have hN : ∀ b off n l, ldN h b off n = some l → ldN (h.set (some o) p) b off n = some l := fun b off n l e => by
    unfold ldN at e ⊢
    cases hb : h.get b with
    | none => rw [hb] at e; cases e
    | some ob => rw [hg _ _ hb]; rw [hb] at e; exact e
  have h1 : ∀ b off l, ld1 h b off = some l → ld1 (h.set (some o) p) b off = some l := fun b off l e => by
    unfold ld1 at e ⊢
    cases hb : h.get b with
    | none => rw [hb] at e; cases e
    | some ob => rw [hg _ _ hb]; rw [hb] at e; exact e
  cases op
  case load t x =>
    simp only [lop] at hl ⊢
    split at hl
    · rename_i b off d hx hd
      cases hb : isAg P t with
      | true =>
        rw [hb, cond_true] at hl
        rw [cond_true]
        split at hl
        · rename_i i hi
          split at hl
          · rename_i l hl2
            rw [hN _ _ _ _ hl2]; exact hl
          · cases hl
        · cases hl
      | false => rw [hb, cond_false] at hl; exact h1 _ _ _ hl
    · exact hl
    · cases hl
  case lookup t x k ok =>
    simp only [lop] at hl ⊢
    split at hl
    · rename_i kt et k hu hk
      cases hc : ckA P 6 kt k with
      | false => rw [hc] at hl; cases hl
      | true =>
        rw [hc, cond_true] at hl
        rw [cond_true]
        split at hl
        · exact hl
        · rename_i b z hx hz
          split at hl
          · rename_i es cl hb
            rw [hg _ _ hb]; exact hl
          · cases hl
        · cases hl
    · cases hl
  case convert s t x =>
    simp only [lop] at hl ⊢
    split at hl
    · exact hl
    · rename_i e b off n cp h1 h2 h3
      split at hl
      · rename_i l he hl2
        rw [hN _ _ _ _ hl2]; rw [he]; exact hl
      · cases hl
    · cases hl
  case call c =>
    simp only [lop] at hl ⊢
    split at hl
    · exact hl
    · rename_i t ts b hc hts hvs
      split at hl
      · rename_i kt et es cl hu hb
        rw [hg _ _ hb, hu]; exact hl
      · cases hl
    · cases hl
  all_goals cases hl
end
end Go.Ev
namespace Go.Ev
open Go.RowKit
noncomputable def alq (P : Program) (fr : Fr) (op : Op) : Option (AO × (Ps → AV)) :=
  match op with
  | .alloc e => (match zerA P e with
    | some z => some (.cells (cellsA z) e true, fun p => .p p 0)
    | none => none)
  | .box e x => (match evx fr x with
    | some v => some (.cells (cellsA v) e true, fun p => .p p 0)
    | none => none)
  | .buildSlice t n ps => (match P.underlying t with
    | some (.slice e) => (match P.info? e, zerA P e with
      | some i, some z => bif Nat.beq (len (cellsA z)) i.size then (bif Nat.ble (n * i.size) 16777216 then
          (match fillA (fun j => some (j * i.size, i.size)) fr ps.toList (rep (cellsA z) n) with
          | some c => some (.cells c e true, fun p => .l p 0 n n)
          | none => none) else none) else none
      | _, _ => none)
    | _ => none)
  | .makeMap _ none => some (.map [] 0, fun p => .m p)
  | .makeSlice t l c => (match P.underlying t, evx fr l, evx fr c with
    | some (.slice e), some (.i _ (.ofNat l)), some (.i _ (.ofNat c)) => (match P.info? e, zerA P e with
      | some i, some z => bif Nat.beq (len (cellsA z)) i.size then (bif Nat.ble l c then (bif Nat.ble (i.bytes * c) 140737488355328 then (bif Nat.ble c 1000000000000 then
          some (.cells (rep (cellsA z) c) e true, fun p => .l p 0 l c) else none) else none) else none) else none
      | _, _ => none)
    | _, _, _ => none)
  | _ => none
theorem alq_like {P : Program} {fr fr' : Fr} {op : Op} (h : Like fr fr' op.operands.toList) : alq P fr op = alq P fr' op := by
  cases op
  case box t x => simp only [alq, h x (by simp [Op.operands])]
  case buildSlice t n ps =>
    have e : ∀ place c, fillA place fr ps.toList c = fillA place fr' ps.toList c := fun place c => fillA_like c (by simpa [Op.operands] using h)
    simp only [alq, e]
  case makeSlice t a x => simp only [alq, h x (by simp [Op.operands]), h a (by simp [Op.operands])]
  case makeMap t r => cases r <;> rfl
  all_goals rfl
def AlAt (P : Program) (R : Rf) (w : World) (ob : AO) (mk : Ps → AV) (O : Obj) (X : Value) : Prop :=
  ∀ (R' : Rf) (w' : World) (p : Ps), R.le R' → R' p = some (w.heap.size, 0) → w'.heap[w.heap.size]? = some O → HObj P R' w' w.heap.size 0 ob ∧ conc R' (mk p) = some X
theorem alAt_row {P : Program} {R : Rf} {w : World} {c : List AV} {e : TypeId} {mk : Ps → AV} {X : Value} {xs : List Value} (hc : concL R c = some xs) (hm : ∀ (R' : Rf) (p : Ps), R' p = some (w.heap.size, 0) → conc R' (mk p) = some X) :
    AlAt P R w (.cells c e true) mk (.cells xs.toArray e) X := fun R' w' p hle hp hw =>
  ⟨⟨xs, [], concL_mono hle _ _ hc, by rw [List.append_nil]; exact hw, by simp, fun _ => rfl⟩, hm R' p hp⟩
theorem alq_run {P : Program} {R : Rf} {fr : Fr} {a : Act} (hf : FrR R fr a) {o : Oper} {ob : AO} {mk : Ps → AV} (h : alq P fr o.op = some (ob, mk)) (w : World) :
    ∃ O X, (execOp a.eval o).run P w = .ok (.value X) (w.alloc O) ∧ AlAt P R w ob mk O X := by
  obtain ⟨dst, op, type, pos, after, guard⟩ := o
  dsimp only at h
  unfold alq at h
  split at h
  · rename_i e
    split at h
    · rename_i z hz
      obtain ⟨i, zv, hi, hzv, hc⟩ := zerA_spec hz
      simp only [Option.some.injEq, Prod.mk.injEq] at h
      obtain ⟨rfl, rfl⟩ := h
      refine ⟨_, .pointer (some ⟨w.heap.size, 0, none⟩), ?_, alAt_row (cellsA_conc (cvC_conc R 12 zv z hc)) fun R' p hp => by simp only [conc, hp, Option.map_some]⟩
      simp [execOp, Instr.alloc, run_zero hi hzv, newVar, newRow]
    · cases h
  · rename_i e x
    split at h
    · rename_i v hv
      simp only [Option.some.injEq, Prod.mk.injEq] at h
      obtain ⟨rfl, rfl⟩ := h
      refine ⟨_, .pointer (some ⟨w.heap.size, 0, none⟩), ?_, alAt_row (cellsA_conc (evx_conc hf hv)) fun R' p hp => by simp only [conc, hp, Option.map_some]⟩
      simp [execOp, Instr.box, newVar, newRow]
    · cases h
  · rename_i t n ps
    have hmap : (ps.map fun (i, x) => (i, a.eval x)).toList = ps.toList.map fun p => (p.1, a.eval p.2) := by simp
    split at h
    · rename_i e hu
      split at h
      · rename_i i z hi hz
        obtain ⟨i', zv, hi', hzv, hc⟩ := zerA_spec hz
        rw [hi] at hi'
        simp only [Option.some.injEq] at hi'; subst hi'
        cases hb : Nat.beq (len (cellsA z)) i.size with
        | false => rw [hb] at h; cases h
        | true =>
          have hs := Nat.eq_of_beq_eq_true hb
          rw [len_eq] at hs
          cases hb2 : Nat.ble (n * i.size) 16777216 with
          | false => rw [hb, hb2] at h; cases h
          | true =>
            have hsz := ble_le hb2
            rw [hb, hb2, cond_true, cond_true] at h
            have hcz := cellsA_conc (cvC_conc R 12 zv z hc)
            have hzs : zv.cells.size = i.size := by have := concL_len hcz; simp at this; omega
            split at h
            · rename_i c hfl
              simp only [Option.some.injEq, Prod.mk.injEq] at h
              obtain ⟨rfl, rfl⟩ := h
              obtain ⟨ys, h1, h2⟩ := fillA_run hf hfl (rep_conc hcz n)
              refine ⟨_, .slice (some ⟨w.heap.size, 0, none⟩) n (n + 0), ?_, alAt_row h1 fun R' p hp => by simp only [conc, hp, Option.map_some]⟩
              have hrc := range_cells zv.cells n
              rw [hzs] at hrc
              by_cases h0 : n * i.size = 0
              · have e0 : (List.replicate n zv.cells.toList).flatten = [] := by
                  apply List.eq_nil_of_length_eq_zero
                  simp [List.length_flatten, hzs, h0]
                rw [e0] at h2
                have e1 : ((Array.range (n * i.size)).map fun x => (#[] : Array Value)[x % (#[] : Array Value).size]!) = ([] : List Value).toArray := by
                  apply Array.ext'; simp [h0]
                have hlt : ¬ (n * i.size > 16777216) := by omega
                simp only [execOp, Instr.buildSlice, Sem.run_bind, run_underlying hu, Result.andThen_ok, run_sizeOf hi]
                simp only [Nat.reducePow]
                rw [if_neg hlt, if_pos h0]
                simp only [Sem.run_pure, Result.andThen_ok, e1, hmap, h2, Sem.run_bind, newRow, run_newObj]
                rfl
              · have hlt : ¬ (n * i.size > 16777216) := by omega
                simp only [execOp, Instr.buildSlice, Sem.run_bind, run_underlying hu, Result.andThen_ok, run_sizeOf hi]
                simp only [Nat.reducePow]
                rw [if_neg hlt, if_neg h0]
                simp only [Sem.run_bind, run_zero hi hzv, Sem.run_pure, Result.andThen_ok, hzs, hrc, hmap, h2, newRow, run_newObj]
                rfl
            · cases h
      · cases h
    · cases h
  · simp only [Option.some.injEq, Prod.mk.injEq] at h
    obtain ⟨rfl, rfl⟩ := h
    refine ⟨.map #[] 0, .map (some w.heap.size), by simp [execOp, Instr.makeMap], fun R' w' p _ hp hw => ⟨⟨[], rfl, hw⟩, by simp only [conc, hp, Option.map_some]⟩⟩
  · rename_i t lx cx
    split at h
    · rename_i e k l k' c ht hl hcx
      have hu := evx_conc hf hl
      have hv := evx_conc hf hcx
      simp only [conc, Option.some.injEq] at hu hv
      split at h
      · rename_i i z hi hz
        obtain ⟨i', zv, hi', hzv, hc⟩ := zerA_spec hz
        rw [hi] at hi'
        simp only [Option.some.injEq] at hi'; subst hi'
        cases hb : Nat.beq (len (cellsA z)) i.size with
        | false => rw [hb] at h; cases h
        | true =>
          have hs := Nat.eq_of_beq_eq_true hb
          rw [len_eq] at hs
          cases hb2 : Nat.ble l c with
          | false => rw [hb, hb2] at h; cases h
          | true =>
            cases hb3 : Nat.ble (i.bytes * c) 140737488355328 with
            | false => rw [hb, hb2, hb3] at h; cases h
            | true =>
              cases hb4 : Nat.ble c 1000000000000 with
              | false => rw [hb, hb2, hb3, hb4] at h; cases h
              | true =>
                have h2 := ble_le hb2
                have h3 := ble_le hb3
                have h4 := ble_le hb4
                rw [hb, hb2, hb3, hb4, cond_true, cond_true, cond_true, cond_true] at h
                simp only [Option.some.injEq, Prod.mk.injEq] at h
                obtain ⟨rfl, rfl⟩ := h
                have hcz := cellsA_conc (cvC_conc R 12 zv z hc)
                have hzs : zv.cells.size = i.size := by have := concL_len hcz; simp at this; omega
                refine ⟨_, .slice (some ⟨w.heap.size, 0, none⟩) l (c + 0), ?_, alAt_row (rep_conc hcz c) fun R' p hp => by simp only [conc, hp, Option.map_some]⟩
                have hby : (i.bytes : Int) * ((c : Nat) : Int) ≤ 281474976710656 := by
                  have : ((i.bytes * c : Nat) : Int) ≤ 281474976710656 := by omega
                  rwa [Int.natCast_mul] at this
                have hm := run_make (P := P) w t e i zv ht hi hzv k k' (l : Int) (c : Int) (by omega) (by omega) hby (by omega)
                simp only [Int.toNat_natCast, madeCells, ← hzs, range_cells] at hm
                simp only [execOp, Sem.run_bind, ← hu, ← hv]
                have hm' := hm
                simp only [Int.ofNat_eq_natCast]
                rw [hm']
                rfl
      · cases h
    · cases h
  · cases h
end Go.Ev
namespace Go.Ev
open Go.RowKit
def OpDoes (P : Program) (o : Oper) (A : Act) (w : World) (K : Value → World → Prop) : Prop :=
  (∃ v w', (execOp A.eval o).run P w = .ok (.value v) w' ∧ K v w') ∨ (∃ w', (execOp A.eval o).run P w = .ok .skip w' ∧ K undef w') ∨
  (∃ f args w', (execOp A.eval o).run P w = .ok (.enter f args) w' ∧ Calls P f args w' (fun e w'' => ∃ v, e = .returned v ∧ K v w'')) ∨
  (∃ l f tmps as bd w', (execOp A.eval o).run P w = .ok (.round l f tmps as bd) w' ∧ RoundIn Fence.wide 0 P l f tmps as bd w' (fun e w'' => ∃ v, e = .returned v ∧ K v w''))
theorem OpDoes.mono {P : Program} {o : Oper} {A : Act} {w : World} {K K' : Value → World → Prop} (h : OpDoes P o A w K) (hk : ∀ v w, K v w → K' v w) : OpDoes P o A w K' := by
  rcases h with ⟨v, w', hr, h⟩ | ⟨w', hr, h⟩ | ⟨f, args, w', hr, hc⟩ | ⟨l, f, tmps, as, bd, w', hr, hc⟩
  · exact .inl ⟨v, w', hr, hk _ _ h⟩
  · exact .inr (.inl ⟨w', hr, hk _ _ h⟩)
  · exact .inr (.inr (.inl ⟨f, args, w', hr, Calls.mono hc fun e w'' ⟨v, he, h⟩ => ⟨v, he, hk _ _ h⟩⟩))
  · exact .inr (.inr (.inr ⟨l, f, tmps, as, bd, w', hr, RoundIn.mono hc fun e w'' ⟨v, he, h⟩ => ⟨v, he, hk _ _ h⟩⟩))
def CameK (P : Program) (B : Nat → Prop) (W : World) (D : Dn) (R : Rf) (w : World) (K : AV → S → Prop) (X : Value) (w' : World) : Prop :=
  ∃ v s' R', K v s' ∧ R.le R' ∧ conc R' v = some X ∧ Rel P B W D R' s'.h w' ∧ Kept B w w'
def OpOk (P : Program) (B : Nat → Prop) (W : World) (o : Oper) (fr : Fr) (s : S) (K : AV → S → Prop) : Prop :=
  ∀ (fr' : Fr) (D : Dn) (R : Rf) (w : World) (a : Act), Like fr' fr o.op.operands.toList → Rel P B W D R s.h w → FrR R fr' a → OpDoes P o a w (CameK P B W D R w K)
def CallOk (P : Program) (B : Nat → Prop) (W : World) (g : FuncId) (vs : List AV) (s : S) (K : AV → S → Prop) : Prop :=
  ∀ (D : Dn) (R : Rf) (w : World) (xs : List Value), Rel P B W D R s.h w → concL R vs = some xs →
    (callFunc g xs.toArray).run P w = .ok (.enter g xs.toArray) w ∧ Calls P g xs.toArray w fun e w' => ∃ X, e = .returned X ∧ CameK P B W D R w K X w'
section
variable {P : Program} {B : Nat → Prop} {W : World} {G : PT (List AV)} {o : Oper} {fr : Fr} {s : S} {K : AV → S → Prop}
theorem OpOk.mono {K' : AV → S → Prop} (h : OpOk P B W o fr s K) (hk : ∀ v s, K v s → K' v s) : OpOk P B W o fr s K' :=
  fun fr' D R w a h1 h2 h3 => (h fr' D R w a h1 h2 h3).mono fun _ _ ⟨v, s', R', a1, a2⟩ => ⟨v, s', R', hk _ _ a1, a2⟩
theorem opOk_pop {v : AV} (h : pop P fr o.op = some v) (hk : K v s) : OpOk P B W o fr s K := by
  intro fr' D R w a hl r hf
  rw [← pop_like hl] at h
  obtain ⟨x, h1, h2⟩ := pop_run hf h w
  exact .inl ⟨x, w, h2, v, s, R, hk, R.le_refl, h1, r, Kept.refl B w⟩
theorem opOk_lop (hG : GOk B W G) {v : AV} (h : lop P G fr s.h o.op = some v) (hk : K v s) : OpOk P B W o fr s K := by
  intro fr' D R w a hl r hf
  rw [← lop_like hl] at h
  obtain ⟨x, h1, h2⟩ := lop_run hG r hf h
  exact .inl ⟨x, w, h2, v, s, R, hk, R.le_refl, h1, r, Kept.refl B w⟩
theorem opOk_mop {v : AV} {s' : S} (h : mop P fr s o.op = some (v, s')) (hk : K v s') : OpOk P B W o fr s K := by
  intro fr' D R w a hl r hf
  rw [← mop_like hl] at h
  obtain ⟨R', x, w', a1, a2, a3, a4, a5⟩ := mop_run r hf h
  rcases a2 with a2 | ⟨a2, rfl⟩
  · exact .inl ⟨x, w', a2, v, s', R', hk, a1, a3, a4, a5⟩
  · exact .inr (.inl ⟨w', a2, v, s', R', hk, a1, a3, a4, a5⟩)
theorem opOk_next {it : Operand} (hop : o.op = .next it false) {b : Ps} (hb : evx fr it = some (.p b 0)) {rs : List (AV × S)} (h : evNext b s = some rs) (hk : ∀ q ∈ rs, K q.1 q.2) : OpOk P B W o fr s K := by
  intro fr' D R w a hl r hf
  have hb' : evx fr' it = some (.p b 0) := by rw [hl it (by rw [hop]; simp [Op.operands])]; exact hb
  obtain ⟨z, w', h1, h2⟩ := evNext_run (ty := o.type) r (evx_conc hf hb') h
  obtain ⟨dst, op, type, pos, after, guard⟩ := o
  dsimp only at hop h1
  subst hop
  obtain ⟨v, s', R', q1, q2, q3, q4, q5⟩ := h2
  exact .inl ⟨z, w', by simp only [execOp, Sem.run_bind, h1, Result.andThen_ok, Sem.run_pure], v, s', R', hk _ q1, q2, q3, q4, q5⟩
noncomputable def moOf (P : Program) (t : TypeId) (m : String) : Option (FuncId × Nat) := match P.info? t with
  | some i => (match i.methods.find? (·.name == m) with
    | some d => (match d.path.toList, d.func with
      | [s], some (g, true) => (match s.deref, P.underlying s.struct with
        | true, some (.struct fs) => (match fs[s.index]? with
          | some f => (match P.underlying f.type, P.info? f.type with
            | some (.pointer _), some j => bif Nat.beq j.size 0 then none else some (g, f.offset)
            | _, _ => none)
          | none => none)
        | _, _ => none)
      | _, _ => none)
    | none => none)
  | none => none
theorem mo_run {P : Program} {t e : TypeId} {m : String} {g : FuncId} {off : Nat} (ht : P.underlying t = some (.pointer e)) (h : moOf P t m = some (g, off)) (w : World) (k o : Nat) (y : Value) (hc : w.cell? ⟨k, o + off, none⟩ = some y) (args : Array Value) :
    (invoke (.fn (.methodOf t m) #[]) (#[.pointer (some ⟨k, o, none⟩)] ++ args)).run P w = (callFunc g (#[y] ++ args)).run P w := by
  unfold moOf at h
  split at h
  · rename_i i hi
    split at h
    · rename_i d hd
      split at h
      · rename_i s g hp hf
        split at h
        · rename_i fs hdr hs
          split at h
          · rename_i f hfs
            split at h
            · rename_i e' j hu hj
              cases hz : Nat.beq j.size 0 with
              | true => rw [hz] at h; cases h
              | false =>
                rw [hz, cond_false] at h
                simp only [Option.some.injEq, Prod.mk.injEq] at h
                obtain ⟨rfl, rfl⟩ := h
                have hz' : j.size ≠ 0 := fun e => by rw [e] at hz; cases hz
                have hld : w.cell? ⟨k, o + f.offset, none⟩ = some y := hc
                obtain ⟨pn, psg, pth, pfn⟩ := d
                obtain ⟨st, ix, dr⟩ := s
                dsimp only at hp hf hdr hfs hs
                subst hf hdr
                have hm : i.methods.find? (fun x => x.name == m) = some ⟨pn, psg, pth, some (g, true)⟩ := hd
                have hmeth : (method ((P.types.size + 99) + 1) t (.pointer (some ⟨k, o, none⟩)) m).run P w = .ok (g, y) w := by
                  have u1 : (underlying st).run P w = .ok (.struct fs) w := run_underlying hs w
                  have u2 : (underlying f.type).run P w = .ok (.pointer e') w := run_underlying hu w
                  have u3 : (typeInfo t).run P w = .ok i w := by simp [go_sem, typeInfo, hi]
                  have u4 : (sizeOf f.type).run P w = .ok j.size w := by simp [go_sem, sizeOf, typeInfo, hj]
                  have u5 : (isAgg f.type).run P w = .ok false w := by simp only [isAgg, Sem.run_bind, u2, Result.andThen_ok, Sem.run_pure]
                  have u7 : (Addr.add ⟨k, o, none⟩ f.offset) = ⟨k, o + f.offset, none⟩ := Addr.add_lit ..
                  have u8 : (fieldPlace ⟨k, o, none⟩ f).run P w = .ok ⟨k, o + f.offset, none⟩ w := by simp only [fieldPlace, Sem.run_bind, u4, Result.andThen_ok, if_neg hz', Sem.run_pure, u7]
                  have u9 : (follow [⟨st, ix, true⟩] t (.val (.pointer (some ⟨k, o, none⟩)))).run P w = .ok (f.type, .var ⟨k, o + f.offset, none⟩) w := by
                    simp only [follow, Sem.run_bind, u1, Result.andThen_ok, hfs, if_true, Place.get, Sem.run_pure, asAddr, u8]
                  rw [method]
                  simp [u3, Result.andThen_ok, hm, hp, u9, receiverAt, u2, Place.get, loadVar, u5, hld]
                have hmeth' : (method (P.types.size + 100) t (.pointer (some ⟨k, o, none⟩)) m).run P w = .ok (g, y) w := hmeth
                have h0 : (#[Value.pointer (some ⟨k, o, none⟩)] ++ args)[0]? = some (.pointer (some ⟨k, o, none⟩)) := by rw [Array.getElem?_append_left (by simp)]; rfl
                have h1 : (#[Value.pointer (some ⟨k, o, none⟩)] ++ args).extract 1 (#[Value.pointer (some ⟨k, o, none⟩)] ++ args).size = args := by
                  apply Array.ext'
                  simp
                have h2 : (underlying t).run P w = .ok (.pointer e) w := run_underlying ht w
                have h3 : (program).run P w = .ok P w := by simp [go_sem]
                simp only [invoke, h0, h1, Sem.run_bind, callMethod, Made.depth, h2, Result.andThen_ok, h3, hmeth']
            · cases h
          · cases h
        · cases h
      · cases h
    · cases h
  · cases h
theorem opOk_mo {c : Call} (hop : o.op = .call c) {f : Operand} (hc : c.callee = .value f) {t e : TypeId} {m : String} (hfv : evx fr f = some (.mo t m)) {b : Ps} {q : Nat} {vs : List AV} (hvs : evxs fr c.args.toList = some (.p b q :: vs))
    {g : FuncId} {off : Nat} (ht : P.underlying t = some (.pointer e)) (hm : moOf P t m = some (g, off)) {v : AV} (hv : ld1 s.h b (q + off) = some v) (h : CallOk P B W g (v :: vs) s K) : OpOk P B W o fr s K := by
  intro fr' D R w a hl r hf
  have hfv' : evx fr' f = some (.mo t m) := by rw [hl f (by rw [hop]; simp [Op.operands, Call.operands, hc])]; exact hfv
  have hvs' : evxs fr' c.args.toList = some (.p b q :: vs) := by
    rw [evxs_like fun x hx => hl x (by rw [hop]; simp [Op.operands, Call.operands]; exact .inr (by simpa using hx))]; exact hvs
  have he : a.eval f = .func (.methodOf t m) #[] #[] := by
    have := evx_conc hf hfv'
    simp only [conc, Option.some.injEq] at this
    exact this.symm
  obtain ⟨x0, xs, z1, z2, hz⟩ := concL_cons.1 (evxs_conc hf hvs')
  obtain ⟨k, x, hk, rfl⟩ := conc_p z1
  obtain ⟨k', x', y, h1, h2, h3⟩ := ld1_run r hv hk
  rw [hk] at h1
  simp only [Option.some.injEq, Prod.mk.injEq] at h1
  obtain ⟨rfl, rfl⟩ := h1
  obtain ⟨p1, p2⟩ := h D R w _ r (concL_cons.2 ⟨y, xs, h2, z2, rfl⟩)
  refine .inr (.inr (.inl ⟨g, _, w, ?_, p2⟩))
  obtain ⟨dst, op, type, pos, after, guard⟩ := o
  dsimp only at hop
  subst hop
  have ea : #[] ++ c.args.map a.eval = #[.pointer (some ⟨k, q, none⟩)] ++ xs.toArray := by apply Array.ext'; simpa using hz
  simp only [execOp, resolve, hc, he, Deferred.ofValue, Sem.run_bind, Sem.run_pure, Result.andThen_ok, ea]
  rw [mo_run ht hm w k q y h3]
  have eb : #[y] ++ xs.toArray = (y :: xs).toArray := by apply Array.ext'; simp
  rw [eb]
  exact p1
theorem opOk_call {c : Call} (hop : o.op = .call c) {f : Operand} (hc : c.callee = .value f) {fv : AV} (hfv : evx fr f = some fv) {vs : List AV} (hvs : evxs fr c.args.toList = some vs)
    {g : FuncId} {all : List AV} (hall : (∃ caps, fv = .f g caps ∧ all = app vs caps) ∨ (∃ v, fv = .fm g v ∧ all = v :: vs)) (h : CallOk P B W g all s K) : OpOk P B W o fr s K := by
  intro fr' D R w a hl r hf
  have hfv' : evx fr' f = some fv := by rw [hl f (by rw [hop]; simp [Op.operands, Call.operands, hc])]; exact hfv
  have hvs' : evxs fr' c.args.toList = some vs := by
    rw [evxs_like fun x hx => hl x (by rw [hop]; simp [Op.operands, Call.operands]; exact .inr (by simpa using hx))]; exact hvs
  rcases hall with ⟨caps, rfl, rfl⟩ | ⟨v, rfl, rfl⟩
  · obtain ⟨xs, hxs, he⟩ := conc_f (evx_conc hf hfv')
    have hall : concL R (app vs caps) = some (c.args.toList.map a.eval ++ xs) := by rw [app_eq]; exact concL_app (evxs_conc hf hvs') hxs
    obtain ⟨h1, h2⟩ := h D R w _ r hall
    refine .inr (.inr (.inl ⟨g, _, w, ?_, h2⟩))
    obtain ⟨dst, op, type, pos, after, guard⟩ := o
    dsimp only at hop
    subst hop
    have ea : (#[] ++ c.args.map a.eval) ++ xs.toArray = (c.args.toList.map a.eval ++ xs).toArray := by apply Array.ext'; simp
    simp only [execOp, resolve, hc, he, Deferred.ofValue, Sem.run_bind, Sem.run_pure, Result.andThen_ok, invoke, ea]
    exact h1
  · obtain ⟨y, hy, he⟩ := conc_fm (evx_conc hf hfv')
    have hall : concL R (v :: vs) = some (y :: c.args.toList.map a.eval) := concL_cons.2 ⟨y, _, hy, evxs_conc hf hvs', rfl⟩
    obtain ⟨h1, h2⟩ := h D R w _ r hall
    refine .inr (.inr (.inl ⟨g, _, w, ?_, h2⟩))
    obtain ⟨dst, op, type, pos, after, guard⟩ := o
    dsimp only at hop
    subst hop
    have ea : (#[y] ++ c.args.map a.eval) ++ #[] = (y :: c.args.toList.map a.eval).toArray := by apply Array.ext'; simp
    simp only [execOp, resolve, hc, he, Deferred.ofValue, Sem.run_bind, Sem.run_pure, Result.andThen_ok, invoke, ea]
    exact h1
def RoundOk (P : Program) (B : Nat → Prop) (W : World) (b : Ps) (vs : List AV) (s : S) (K : AV → S → Prop) : Prop :=
  ∀ (D : Dn) (R : Rf) (w : World) (xs : List Value) (k e : Nat), Rel P B W D R s.h w → concL R vs = some xs → R b = some (k, e) →
    ∃ f tmps as bd, (Instr.yield k xs.toArray).run P w = .ok (.round k f tmps as bd) w ∧ RoundIn Fence.wide 0 P k f tmps as bd w fun e w' => ∃ X, e = .returned X ∧ CameK P B W D R w K X w'
theorem opOk_yield {c : Call} (hop : o.op = .call c) {f : Operand} (hc : c.callee = .value f) {b : Ps} (hfv : evx fr f = some (.y b)) {vs : List AV} (hvs : evxs fr c.args.toList = some vs) (h : RoundOk P B W b vs s K) : OpOk P B W o fr s K := by
  intro fr' D R w a hl r hf
  have hfv' : evx fr' f = some (.y b) := by rw [hl f (by rw [hop]; simp [Op.operands, Call.operands, hc])]; exact hfv
  have hvs' : evxs fr' c.args.toList = some vs := by
    rw [evxs_like fun x hx => hl x (by rw [hop]; simp [Op.operands, Call.operands]; exact .inr (by simpa using hx))]; exact hvs
  obtain ⟨k, e, hk, he⟩ := conc_y (evx_conc hf hfv')
  obtain ⟨f1, tmps, as, bd, h1, h2⟩ := h D R w _ k e r (evxs_conc hf hvs') hk
  refine .inr (.inr (.inr ⟨k, f1, tmps, as, bd, w, ?_, h2⟩))
  obtain ⟨dst, op, type, pos, after, guard⟩ := o
  dsimp only at hop
  subst hop
  have ea : #[] ++ c.args.map a.eval = (c.args.toList.map a.eval).toArray := by apply Array.ext'; simp
  simp only [execOp, resolve, hc, he, Deferred.ofValue, Sem.run_bind, Sem.run_pure, Result.andThen_ok, invoke, ea]
  exact h1
end
abbrev Tl := Nat × Option (Ps × AO)
noncomputable def qv (P : Program) (G : PT (List AV)) (ops : List Oper) (fr : Fr) (s : S) (o : Oper) : Option AV :=
  bif guardOk ops fr o then (match pop P fr o.op with
    | some v => some v
    | none => lop P G fr s.h o.op) else some und
def kP : Op → Bool
  | .move _ => true | .assign _ => true | .pick .. => true | .build .. => true | .nilCheck _ => true | .binOp .. => true | .unOp .. => true | .makeFunc .. => true
  | .slice .. => true | .fieldAddr .. => true | .indexAddr .. => true | .field .. => true | .index .. => true | .extract .. => true
  | .alloc _ => true | .box .. => true | .buildSlice .. => true | .makeMap .. => true | .makeSlice .. => true
  | _ => false
theorem kP_lop {P : Program} {G : PT (List AV)} {fr : Fr} {h : PT AO} {op : Op} (hk : kP op = true) : lop P G fr h op = none := by
  cases op <;> first | rfl | cases hk
theorem alq_kP {P : Program} {fr : Fr} {op : Op} {x : AO × (Ps → AV)} (h : alq P fr op = some x) : kP op = true := by
  cases op <;> first | rfl | cases h
noncomputable def still (ops : List Oper) (d : Option Tmp) (o : Oper) : Bool := match d with
  | some d => bif memT d (looksL ops o) then false else true
  | none => true
noncomputable def dstOk (N : Nat) (o : Oper) : Bool := match o.dst with
  | some t => Nat.ble (t + 1) N
  | none => true
theorem dstOk_spec {N : Nat} {o : Oper} (h : dstOk N o = true) : ∀ t, o.dst = some t → t < N := by
  intro t ht
  unfold dstOk at h
  rw [ht] at h
  exact ble_le h
end Go.Ev
