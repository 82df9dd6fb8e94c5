/- A machine that runs a Go text by reckoning: the machine. Of no program. -/
import Derived.Test.YtjajcecenflejaaEvN
namespace Go.Ev
open Go.RowKit

/-! ## are values the same -/
noncomputable def avEq : Nat → AV → AV → Bool
  | 0, _, _ => false
  | n + 1, x, y => match x, y with
    | .b a, .b c => (match a, c with | true, true => true | false, false => true | _, _ => false)
    | .i j a, .i k c => bif kEq j k then iEq a c else false
    | .s a, .s c => sEq a c
    | .p0, .p0 => true
    | .p b o, .p b' o' => bif Ps.beq b b' then Nat.beq o o' else false
    | .gp g o, .gp g' o' => bif Nat.beq g g' then Nat.beq o o' else false
    | .l0, .l0 => true
    | .l b o m c, .l b' o' m' c' => bif Ps.beq b b' then (bif Nat.beq o o' then (bif Nat.beq m m' then Nat.beq c c' else false) else false) else false
    | .le b o m, .le b' o' m' => bif Ps.beq b b' then (bif Nat.beq o o' then Nat.beq m m' else false) else false
    | .lx b o m c, .lx b' o' m' c' => bif Ps.beq b b' then (bif Nat.beq o o' then (bif Nat.beq m m' then Nat.beq c c' else false) else false) else false
    | .y b, .y b' => Ps.beq b b'
    | .m0, .m0 => true
    | .m b, .m b' => Ps.beq b b'
    | .nf, .nf => true
    | .ni, .ni => true
    | .f g a, .f g' c => bif Nat.beq g g' then (List.rec (fun m => List.rec true (fun _ _ _ => false) m) (fun x _ ih m => List.rec false (fun y m _ => bif avEq n x y then ih m else false) m) a : List AV → Bool) c else false
    | .fm g a, .fm g' c => bif Nat.beq g g' then avEq n a c else false
    | .a a, .a c => (List.rec (fun m => List.rec true (fun _ _ _ => false) m) (fun x _ ih m => List.rec false (fun y m _ => bif avEq n x y then ih m else false) m) a : List AV → Bool) c
    | .t a, .t c => (List.rec (fun m => List.rec true (fun _ _ _ => false) m) (fun x _ ih m => List.rec false (fun y m _ => bif avEq n x y then ih m else false) m) a : List AV → Bool) c
    | _, _ => false
noncomputable def eqL {α : Type} (f : α → α → Bool) (a : List α) : List α → Bool := List.rec (fun m => List.rec true (fun _ _ _ => false) m) (fun x _ ih m => List.rec false (fun y m _ => bif f x y then ih m else false) m) a
theorem eqL_eq {α : Type} {f : α → α → Bool} (hf : ∀ x y, f x y = true → x = y) : ∀ a c : List α, eqL f a c = true → a = c
  | [], [], _ => rfl
  | [], _ :: _, h => by cases h
  | _ :: _, [], h => by cases h
  | x :: a, y :: c, h => by
    have h' : (bif f x y then eqL f a c else false) = true := h
    cases hs : f x y with
    | false => rw [hs] at h'; cases h'
    | true => rw [hs, cond_true] at h'; rw [hf x y hs, eqL_eq hf a c h']
theorem avEq_eq : ∀ (n : Nat) (x y : AV), avEq n x y = true → x = y
  | 0, _, _, h => by cases h
  | n + 1, x, y, h => by
    have ih := avEq_eq n
    have two : ∀ {a b : Bool}, (bif a then b else false) = true → a = true ∧ b = true := by intro a b h; cases a <;> simp_all
    unfold avEq at h
    split at h
    · split at h <;> first | rfl | (cases h)
    · obtain ⟨h1, h2⟩ := two h
      rw [iEq_eq] at h2
      have h3 := eq_of_beq h2
      rw [kEq_eq h1, h3]
    · rw [sEq_eq] at h
      have h3 := eq_of_beq h
      rw [h3]
    · rfl
    · obtain ⟨h1, h2⟩ := two h
      rw [(Ps.beq_iff _ _).1 h1, Nat.eq_of_beq_eq_true h2]
    · obtain ⟨h1, h2⟩ := two h
      rw [Nat.eq_of_beq_eq_true h1, Nat.eq_of_beq_eq_true h2]
    · rfl
    · obtain ⟨h1, h2⟩ := two h
      obtain ⟨h2, h3⟩ := two h2
      obtain ⟨h3, h4⟩ := two h3
      rw [(Ps.beq_iff _ _).1 h1, Nat.eq_of_beq_eq_true h2, Nat.eq_of_beq_eq_true h3, Nat.eq_of_beq_eq_true h4]
    · obtain ⟨h1, h2⟩ := two h
      obtain ⟨h2, h3⟩ := two h2
      rw [(Ps.beq_iff _ _).1 h1, Nat.eq_of_beq_eq_true h2, Nat.eq_of_beq_eq_true h3]
    · obtain ⟨h1, h2⟩ := two h
      obtain ⟨h2, h3⟩ := two h2
      obtain ⟨h3, h4⟩ := two h3
      rw [(Ps.beq_iff _ _).1 h1, Nat.eq_of_beq_eq_true h2, Nat.eq_of_beq_eq_true h3, Nat.eq_of_beq_eq_true h4]
    · rw [(Ps.beq_iff _ _).1 h]
    · rfl
    · rw [(Ps.beq_iff _ _).1 h]
    · rfl
    · rfl
    · obtain ⟨h1, h2⟩ := two h
      rw [Nat.eq_of_beq_eq_true h1, eqL_eq ih _ _ h2]
    · obtain ⟨h1, h2⟩ := two h
      rw [Nat.eq_of_beq_eq_true h1, ih _ _ h2]
    · rw [eqL_eq ih _ _ h]
    · rw [eqL_eq ih _ _ h]
    · cases h

/-! ## frames -/
noncomputable def guardOk (ops : List Oper) (fr : Fr) (o : Oper) : Bool :=
  match o.guard with
  | none => true
  | some (j, w) => (match nth ops j with
    | some oj => (match oj.dst with
      | some t => (match getF fr t with
        | .b b => b == w
        | _ => false)
      | none => false)
    | none => false)
theorem conc_bool {R : Rf} {v : AV} {b : Bool} (h : conc R v = some (.bool b)) : v = .b b := by
  cases v <;> simp only [conc, Option.map_eq_some_iff, Option.some.injEq] at h
  all_goals first
    | (cases h; rfl)
    | (cases h; done)
    | (obtain ⟨_, _, h⟩ := h; cases h)
theorem guardOk_eq {R : Rf} {fr : Fr} {a : Act} (hf : FrR R fr a) (ops : Array Oper) (o : Oper) : Region.wanted o (yielded ops a.tmps) = guardOk ops.toList fr o := by
  unfold Region.wanted guardOk
  cases o.guard with
  | none => rfl
  | some gw =>
    obtain ⟨j, w⟩ := gw
    simp only [nth_eq, Array.getElem?_toList, yielded]
    cases hj : ops[j]? with
    | none => rfl
    | some oj =>
      simp only [Option.bind_some]
      cases hd : oj.dst with
      | none => rfl
      | some t =>
        simp only [Option.bind_some]
        have hc := hf.at_ t
        rw [Array.getD_eq_getD_getElem?] at hc
        cases ht : a.tmps[t]? with
        | none =>
          rw [ht] at hc
          simp only [Option.getD_none] at hc
          cases hg : getF fr t <;> first | rfl | (rw [hg] at hc; simp only [conc, undef, Option.some.injEq] at hc; cases hc)
        | some x =>
          rw [ht] at hc
          simp only [Option.getD_some] at hc
          cases x
          case bool b =>
            rw [conc_bool hc]
            cases b <;> cases w <;> rfl
          all_goals
            cases hg : getF fr t <;> first | rfl | (rw [hg] at hc; simp only [conc, Option.some.injEq] at hc; cases hc)
noncomputable def argF (vs : List AV) : Nat → Fr → Fr := List.rec (fun _ fr => fr) (fun v _ ih n fr => ih (n + 1) (setF fr n v)) vs
theorem argF_get : ∀ (vs : List AV) (n : Nat) (fr : Fr) (t : Nat), getF (argF vs n fr) t = if n ≤ t ∧ t < n + vs.length then vs.getD (t - n) und else getF fr t
  | [], n, fr, t => by
    rw [if_neg (by rintro ⟨_, h⟩; simp at h; omega)]; rfl
  | v :: vs, n, fr, t => by
    show getF (argF vs (n + 1) (setF fr n v)) t = _
    rw [argF_get vs (n + 1)]
    by_cases h : t = n
    · subst h
      rw [if_neg (by omega), if_pos (by simp), getF_set]
      simp
    · by_cases h2 : n + 1 ≤ t ∧ t < n + 1 + vs.length
      · rw [if_pos h2, if_pos (by simp; omega)]
        rw [show t - n = (t - (n + 1)) + 1 by omega]; rfl
      · rw [if_neg h2, if_neg (by simp; omega), getF_set_ne _ _ (fun e => h e.symm)]
def frU : Fr := fun _ => und
theorem getF_lf (t : Nat) : getF frU t = und := rfl
theorem FrR.args {R : Rf} {vs : List AV} {xs : List Value} (h : concL R vs = some xs) (n : Nat) : FrR R (argF vs 0 frU) { tmps := xs.toArray ++ Array.replicate n undef, defers := [] } := by
  refine ⟨fun t => ?_⟩
  have hl := concL_len h
  rw [argF_get, Array.getD_eq_getD_getElem?]
  by_cases ht : t < vs.length
  · rw [if_pos (by omega), Array.getElem?_append_left (by simpa [hl] using ht)]
    simp only [Nat.sub_zero, List.getD, List.getElem?_eq_getElem ht, Option.getD_some]
    obtain ⟨x, h1, h2⟩ := concL_get h (List.getElem?_eq_getElem ht)
    simp [h1, h2]
  · rw [if_neg (by omega), getF_lf, Array.getElem?_append_right (by simp; omega)]
    have : ((Array.replicate n undef)[t - xs.toArray.size]?).getD undef = undef := by
      rw [Array.getElem?_replicate]; split <;> rfl
    rw [this]; rfl
noncomputable def resV (P : Program) (fr : Fr) (h : PT AO) : ResultVar → Option AV
  | .tmp t => some (getF fr t)
  | .cell a t => (match getF fr a, P.underlying t with
    | .p b o, some _ => bif isAg P t then (match P.info? t with
        | some i => (match ldN h b o i.size with
          | some l => some (.a l)
          | none => none)
        | none => none) else ld1 h b o
    | _, _ => none)
noncomputable def resL (P : Program) (fr : Fr) (h : PT AO) : List ResultVar → Option (List AV)
  | [] => some []
  | r :: l => (match resV P fr h r, resL P fr h l with
    | some v, some vs => some (v :: vs)
    | _, _ => none)
noncomputable def resF (P : Program) (fr : Fr) (h : PT AO) (l : List ResultVar) : Option AV :=
  match resL P fr h l with
  | some [v] => some v
  | some vs => some (.t vs)
  | none => none
def resOne (a : Act) : ResultVar → Sem Value
  | .tmp t => pure (a.tmps.getD t undef)
  | .cell b t => do loadVar t (← asAddr (a.tmps.getD b undef))
section
variable {P : Program} {B : Nat → Prop} {W : World} {D : Dn} {R : Rf} {h : PT AO} {w : World}
theorem resV_run (r : Rel P B W D R h w) {fr : Fr} {a : Act} (hf : FrR R fr a) {x : ResultVar} {v : AV} (hv : resV P fr h x = some v) :
    ∃ X, conc R v = some X ∧ (resOne a x).run P w = .ok X w := by
  cases x with
  | tmp t =>
    simp only [resV, Option.some.injEq] at hv; subst hv
    exact ⟨_, hf.at_ t, rfl⟩
  | cell b t =>
    simp only [resV] at hv
    split at hv
    · rename_i p o d hp hd
      have h1 := hf.at_ b
      rw [hp] at h1
      obtain ⟨k, e, hk, he⟩ := conc_p h1
      cases hb : isAg P t with
      | true =>
        rw [hb, cond_true] at hv
        split at hv
        · rename_i i hi
          split at hv
          · rename_i l hl2
            simp only [Option.some.injEq] at hv; subst hv
            obtain ⟨k', x', ys, h2, h3, h4, h5⟩ := ldN_run r hl2 hk
            rw [hk] at h2
            simp only [Option.some.injEq, Prod.mk.injEq] at h2
            obtain ⟨rfl, rfl⟩ := h2
            refine ⟨.agg ys.toArray, by rw [conc, h3]; rfl, ?_⟩
            have hlc := loadCells_at (P := P) h5
            rw [h4] at hlc
            simp only [resOne, he, asAddr, Sem.run_bind, Sem.run_pure, Result.andThen_ok, loadVar, run_isAg hd, hb, if_true, run_sizeOf hi, hlc]
          · cases hv
        · cases hv
      | false =>
        rw [hb, cond_false] at hv
        obtain ⟨k', x', y, h2, h3, h4⟩ := ld1_run r hv hk
        rw [hk] at h2
        simp only [Option.some.injEq, Prod.mk.injEq] at h2
        obtain ⟨rfl, rfl⟩ := h2
        refine ⟨y, h3, ?_⟩
        simp only [resOne, he, asAddr, Sem.run_bind, Sem.run_pure, Result.andThen_ok, loadVar, run_isAg hd, hb, Bool.false_eq_true, if_false, run_load, h4]
    · cases hv
theorem resL_run (r : Rel P B W D R h w) {fr : Fr} {a : Act} (hf : FrR R fr a) : ∀ {l : List ResultVar} {vs : List AV}, resL P fr h l = some vs →
    ∃ xs, concL R vs = some xs ∧ (l.mapM (resOne a) : Sem _).run P w = .ok xs w
  | [], vs, hv => by simp only [resL, Option.some.injEq] at hv; subst hv; exact ⟨[], rfl, rfl⟩
  | x :: l, vs, hv => by
    simp only [resL] at hv
    split at hv
    · rename_i v us h1 h2
      simp only [Option.some.injEq] at hv; subst hv
      obtain ⟨X, a1, a2⟩ := resV_run r hf h1
      obtain ⟨xs, b1, b2⟩ := resL_run r hf h2
      refine ⟨X :: xs, concL_cons.2 ⟨X, xs, a1, b1, rfl⟩, ?_⟩
      rw [List.mapM_cons, Sem.run_bind]
      rw [a2]
      simp only [Result.andThen_ok, Sem.run_bind]
      rw [b2]; rfl
    · cases hv
theorem resF_run (r : Rel P B W D R h w) {fr : Fr} {a : Act} (hf : FrR R fr a) {fn : Func} {v : AV} (hv : resF P fr h fn.results.toList = some v) :
    ∃ X, conc R v = some X ∧ (results fn a.tmps).run P w = .ok X w := by
  unfold resF at hv
  have key : ∀ xs : List Value, (fn.results.toList.mapM (resOne a) : Sem _).run P w = .ok xs w →
      (results fn a.tmps).run P w = .ok (if h : xs.toArray.size = 1 then xs.toArray[0] else .tuple xs.toArray) w := by
    intro xs hx
    have e : results fn a.tmps = (do let vs ← fn.results.mapM (resOne a); pure (if h : vs.size = 1 then vs[0] else .tuple vs)) := by
      unfold results
      congr 1
    rw [e, Sem.run_bind, Array.mapM_eq_mapM_toList, Sem.run_map, hx]
    rfl
  split at hv
  · rename_i u hu
    simp only [Option.some.injEq] at hv; subst hv
    obtain ⟨xs, h1, h2⟩ := resL_run r hf hu
    obtain ⟨X, ys, hX, hys, rfl⟩ := concL_cons.1 h1
    simp only [concL, Option.some.injEq] at hys; subst hys
    refine ⟨X, hX, ?_⟩
    rw [key _ h2]; rfl
  · rename_i vs hne hu
    simp only [Option.some.injEq] at hv; subst hv
    obtain ⟨xs, h1, h2⟩ := resL_run r hf hu
    refine ⟨.tuple xs.toArray, by rw [conc, h1]; rfl, ?_⟩
    rw [key _ h2, dif_neg]
    intro e
    have hl := concL_len h1
    have : vs.length = 1 := by rw [← hl]; simpa using e
    match vs, this with
    | [u], _ => exact hne u rfl
  · cases hv
end
end Go.Ev
