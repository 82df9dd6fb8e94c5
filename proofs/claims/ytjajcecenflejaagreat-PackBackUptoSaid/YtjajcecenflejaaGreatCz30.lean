/- YtjajcecenflejaaGreatCz30 -/
import Derived.Test.YtjajcecenflejaaGreatCz29
import Derived.Below
import Derived.Laws.CopyOwn
namespace Go.Ev
open Go.RowKit
noncomputable def Rf.put (R : Rf) (p : Ps) (y : Nat × Nat) : Rf := fun b => bif b.beq p then some y else R b
theorem Rf.put_at (R : Rf) (p : Ps) (y : Nat × Nat) : R.put p y p = some y := by
  unfold Rf.put; rw [(Ps.beq_iff p p).2 rfl]; rfl
theorem Rf.put_ne (R : Rf) {p b : Ps} (y : Nat × Nat) (h : b ≠ p) : R.put p y b = R b := by
  unfold Rf.put
  cases hb : b.beq p with
  | true => exact absurd ((Ps.beq_iff b p).1 hb) h
  | false => rfl
theorem Rf.le_put {R : Rf} {p : Ps} (y : Nat × Nat) (h : R p = none) : R.le (R.put p y) := fun b x hb => by
  rw [Rf.put_ne R y (fun e => by rw [e, h] at hb; cases hb)]; exact hb
section
variable {P : Program} {B : Nat → Prop} {W : World} {D : Dn} {R : Rf} {h : PT AO} {w w' : World}
theorem Rel.drew (r : Rel P B W D R h w) : Rel P B W D R h w.drew := ⟨fun b o k x e hk => (r.obj b o k x e hk).mono R.le_refl rfl, r.pend, r.nd, r.inj, r.new, r.lo, r.base, r.old.drew⟩
theorem Rel.grow (r : Rel P B W D R h w) {D' : Dn} (hD : ∀ x ∈ D', x ∈ D) (hnd : (D'.map (·.1)).Nodup) {p : Ps} {h' : PT AO} (hR : R p = none) {o : AO} {x : Nat} (hsz : w'.heap.size = w.heap.size + 1) (hsame : ∀ j, j < w.heap.size → w'.heap[j]? = w.heap[j]?) (hbw : Kept B w w')
    (hgp : h'.get p = some o) (hge : ∀ b, p ≠ b → h'.get b = h.get b) (hpD : p ∉ D'.map (·.1)) (ho : HObj P (R.put p (w.heap.size, x)) w' w.heap.size x o) :
    Rel P B W D' (R.put p (w.heap.size, x)) h' w' ∧ R.le (R.put p (w.heap.size, x)) := by
  have hle := Rf.le_put (w.heap.size, x) hR
  refine ⟨⟨?_, ?_, hnd, ?_, ?_, ?_, fun k hk => by have := r.base k hk; omega, r.old.trans hbw⟩, hle⟩
  · intro b o' k y e hk
    by_cases hb : p = b
    · subst hb
      rw [hgp] at e
      simp only [Option.some.injEq] at e; subst e
      rw [Rf.put_at] at hk
      simp only [Option.some.injEq, Prod.mk.injEq] at hk
      obtain ⟨rfl, rfl⟩ := hk
      exact ho
    · rw [hge b hb] at e
      rw [Rf.put_ne R _ (fun e => hb e.symm)] at hk
      exact (r.obj b o' k y e hk).mono hle (hsame k (r.lo b k y hk).2)
  · intro b o' hb
    have hne : p ≠ b := fun e => hpD (e ▸ List.mem_map.2 ⟨_, hb, rfl⟩)
    obtain ⟨h1, h2⟩ := r.pend b o' (hD _ hb)
    exact ⟨by rw [hge b hne]; exact h1, by rw [Rf.put_ne R _ (fun e => hne e.symm)]; exact h2⟩
  · intro b b' o1 o2 k y y' e1 e2 l1 l2 r1 r2
    by_cases hb : p = b
    · subst hb
      by_cases hb' : p = b'
      · exact hb'
      · rw [Rf.put_at] at r1
        rw [Rf.put_ne R _ (fun e => hb' e.symm)] at r2
        simp only [Option.some.injEq, Prod.mk.injEq] at r1
        have := (r.lo b' k y' r2).2; omega
    · rw [Rf.put_ne R _ (fun e => hb e.symm)] at r1
      by_cases hb' : p = b'
      · subst hb'
        rw [Rf.put_at] at r2
        simp only [Option.some.injEq, Prod.mk.injEq] at r2
        have := (r.lo b k y r1).2; omega
      · rw [Rf.put_ne R _ (fun e => hb' e.symm)] at r2
        rw [hge _ hb] at e1
        rw [hge _ hb'] at e2
        exact r.inj b b' o1 o2 k y y' e1 e2 l1 l2 r1 r2
  · intro b e
    by_cases hb : p = b
    · subst hb; rw [hgp] at e; cases e
    · rw [hge _ hb] at e
      rw [Rf.put_ne R _ (fun e => hb e.symm)]; exact r.new b e
  · intro b k y e
    by_cases hb : b = p
    · subst hb; rw [Rf.put_at] at e
      simp only [Option.some.injEq, Prod.mk.injEq] at e
      obtain ⟨rfl, rfl⟩ := e
      exact ⟨fun hB => absurd (r.base _ hB) (Nat.lt_irrefl _), by omega⟩
    · rw [Rf.put_ne R _ hb] at e
      have := r.lo b k y e
      exact ⟨this.1, by omega⟩
theorem Rel.alloc (r : Rel P B W D R h w) {p : Ps} (hp : h.get p = none) {o : AO} {O : Obj} {x : Nat}
    (ho : HObj P (R.put p (w.heap.size, x)) (w.alloc O) w.heap.size x o) :
    Rel P B W D (R.put p (w.heap.size, x)) (h.set (some o) p) (w.alloc O) ∧ R.le (R.put p (w.heap.size, x)) ∧ Kept B w (w.alloc O) := by
  have hbw := (Kept.refl B w).alloc r.base O
  obtain ⟨h1, h2⟩ := r.grow (w' := w.alloc O) (h' := h.set (some o) p) (fun _ h => h) r.nd (r.new p hp) (by simp) (fun j hj => RowKit.Below.heap_alloc w O j hj) hbw (PT.get_set ..) (fun b hb => PT.get_set_ne _ _ _ _ hb)
    (fun hm => by obtain ⟨q, hq, e⟩ := List.mem_map.1 hm; obtain ⟨b, o'⟩ := q; dsimp only at e; subst e; rw [(r.pend _ _ hq).1] at hp; cases hp) ho
  exact ⟨h1, h2, hbw⟩
theorem Rel.tell (r : Rel P B W D R h w) {p : Ps} (hp : h.get p = none) (o : AO) : Rel P B W ((p, o) :: D) R (h.set (some o) p) w := by
  have hn := r.new p hp
  have hpD : ∀ b o', (b, o') ∈ D → p ≠ b := fun b o' hm e => by subst e; rw [(r.pend _ _ hm).1] at hp; cases hp
  refine ⟨?_, ?_, ?_, ?_, ?_, r.lo, r.base, r.old⟩
  · intro b o' k x e hk
    have hb : p ≠ b := fun e2 => by subst e2; rw [hn] at hk; cases hk
    rw [PT.get_set_ne _ _ _ _ hb] at e
    exact r.obj b o' k x e hk
  · intro b o' hm
    rcases List.mem_cons.1 hm with e | hm
    · simp only [Prod.mk.injEq] at e
      obtain ⟨rfl, rfl⟩ := e
      exact ⟨PT.get_set .., hn⟩
    · rw [PT.get_set_ne _ _ _ _ (hpD b o' hm)]; exact r.pend b o' hm
  · rw [List.map_cons, List.nodup_cons]
    exact ⟨fun hm => by obtain ⟨q, hq, e⟩ := List.mem_map.1 hm; exact hpD q.1 q.2 hq e.symm, r.nd⟩
  · intro b b' o1 o2 k y y' e1 e2 l1 l2 r1 r2
    have hb : p ≠ b := fun e2 => by subst e2; rw [hn] at r1; cases r1
    have hb' : p ≠ b' := fun e2 => by subst e2; rw [hn] at r2; cases r2
    rw [PT.get_set_ne _ _ _ _ hb] at e1
    rw [PT.get_set_ne _ _ _ _ hb'] at e2
    exact r.inj b b' o1 o2 k y y' e1 e2 l1 l2 r1 r2
  · intro b e
    by_cases hb : p = b
    · subst hb; rw [PT.get_set] at e; cases e
    · rw [PT.get_set_ne _ _ _ _ hb] at e; exact r.new b e
theorem Rel.fewer (r : Rel P B W D R h w) {D' : Dn} (hs : D'.Sublist D) : Rel P B W D' R h w :=
  ⟨r.obj, fun b o hm => r.pend b o (hs.subset hm), r.nd.sublist (hs.map _), r.inj, r.new, r.lo, r.base, r.old⟩
theorem Rel.write (r : Rel P B W D R h w) {p : Ps} {o o' : AO} {k x : Nat} (hp : h.get p = some o) (hl : o.live = true) (hk : R p = some (k, x)) (hbw : Kept B w w') (hsz : w'.heap.size = w.heap.size)
    (ho : HObj P R w' k x o') (hne : ∀ j, j ≠ k → w'.heap[j]? = w.heap[j]?) : Rel P B W D R (h.set (some o') p) w' := by
  refine ⟨?_, ?_, r.nd, ?_, ?_, ?_, by rw [hsz]; exact r.base, r.old.trans hbw⟩
  · intro b o2 k2 y e h1
    by_cases hb : p = b
    · subst hb
      rw [PT.get_set] at e
      simp only [Option.some.injEq] at e; subst e
      rw [hk] at h1
      simp only [Option.some.injEq, Prod.mk.injEq] at h1
      obtain ⟨rfl, rfl⟩ := h1
      exact ho
    · rw [PT.get_set_ne _ _ _ _ hb] at e
      have h2 := r.obj b o2 k2 y e h1
      cases hl2 : o2.live with
      | false => cases o2 <;> first | trivial | (cases hl2)
      | true =>
        refine h2.mono R.le_refl (hne k2 ?_)
        rintro rfl
        exact hb (r.inj p b o o2 k2 x y hp e hl hl2 hk h1)
  · intro b o2 hm
    obtain ⟨h1, h2⟩ := r.pend b o2 hm
    have hb : p ≠ b := fun e => by subst e; rw [hk] at h2; cases h2
    exact ⟨by rw [PT.get_set_ne _ _ _ _ hb]; exact h1, h2⟩
  · intro b b' o1 o2 k1 y y' e1 e2 l1 l2 r1 r2
    have hget : ∀ c oc, (h.set (some o') p).get c = some oc → oc.live = true → ∃ oc', h.get c = some oc' ∧ oc'.live = true := by
      intro c oc e l
      by_cases hc : p = c
      · subst hc; exact ⟨o, hp, hl⟩
      · rw [PT.get_set_ne _ _ _ _ hc] at e; exact ⟨oc, e, l⟩
    obtain ⟨q1, a1, a2⟩ := hget b o1 e1 l1
    obtain ⟨q2, b1, b2⟩ := hget b' o2 e2 l2
    exact r.inj b b' q1 q2 k1 y y' a1 b1 a2 b2 r1 r2
  · intro b e
    by_cases hb : p = b
    · subst hb; rw [PT.get_set] at e; cases e
    · rw [PT.get_set_ne _ _ _ _ hb] at e; exact r.new b e
  · intro b k1 y e
    have := r.lo b k1 y e; rw [hsz]; exact this
end
noncomputable def ldN (h : PT AO) (b : Ps) (o n : Nat) : Option (List AV) :=
  match h.get b with
  | some (.cells c _ _) => Ev.part c o n
  | some (.ro c _) => Ev.part c o n
  | _ => none
noncomputable def ld1 (h : PT AO) (b : Ps) (o : Nat) : Option AV :=
  match h.get b with
  | some (.cells c _ _) => nth c o
  | some (.ro c _) => nth c o
  | _ => none
section
variable {P : Program} {B : Nat → Prop} {W : World} {D : Dn} {R : Rf} {h : PT AO} {w : World}
theorem cells_at (r : Rel P B W D R h w) {b : Ps} {c : List AV} {e : TypeId} {ex : Bool} (hb : h.get b = some (.cells c e ex)) {y : Nat × Nat} (hy : R b = some y) :
    ∃ k x xs tail, R b = some (k, x) ∧ concL R c = some xs ∧ w.heap[k]? = some (.cells (xs ++ tail).toArray e (0, 0)) ∧ tail.length = x * P.cellsOf e ∧ (ex = true → x = 0) := by
  obtain ⟨k, x⟩ := y
  obtain ⟨xs, tail, h2, h3, h4, h5⟩ := r.obj b _ k x hb hy
  have h1 := hy
  exact ⟨k, x, xs, tail, h1, h2, h3, h4, h5⟩
theorem ldRow {k o n : Nat} {c l : List AV} {xs tail : List Value} {e : TypeId} {fz : Nat × Nat} (h2 : concL R c = some xs) (h3 : w.heap[k]? = some (.cells (xs ++ tail).toArray e fz)) (hl : Ev.part c o n = some l) :
    ∃ ys, concL R l = some ys ∧ ys.length = n ∧ (∀ j v, ys[j]? = some v → w.cell? ⟨k, o + j, none⟩ = some v) := by
  obtain ⟨h4, rfl⟩ := part_eq hl
  have hlen := concL_len h2
  refine ⟨(xs.drop o).take n, concL_take n (concL_drop o h2), by simp; omega, fun j v hv => ?_⟩
  have hj : j < n := by
    rcases Nat.lt_or_ge j n with h' | h'
    · exact h'
    · rw [List.getElem?_eq_none (by simp; omega)] at hv; cases hv
  rw [List.getElem?_take_of_lt hj, List.getElem?_drop] at hv
  simp only [World.cell?, h3]
  have : o + j < xs.length := by omega
  simp [List.getElem?_append_left this, hv]
theorem ldN_run (r : Rel P B W D R h w) {b : Ps} {o n : Nat} {l : List AV} (hl : ldN h b o n = some l) {y : Nat × Nat} (hy : R b = some y) :
    ∃ k x ys, R b = some (k, x) ∧ concL R l = some ys ∧ ys.length = n ∧ (∀ j v, ys[j]? = some v → w.cell? ⟨k, o + j, none⟩ = some v) := by
  unfold ldN at hl
  split at hl
  · rename_i c e ex hb
    obtain ⟨k, x, xs, tail, h1, h2, h3, _⟩ := cells_at r hb hy
    obtain ⟨ys, a1, a2, a3⟩ := ldRow h2 h3 hl
    exact ⟨k, x, ys, h1, a1, a2, a3⟩
  · rename_i c e hb
    obtain ⟨k, x⟩ := y
    have h1 := hy
    obtain ⟨xs, tail, fz, h2, h3⟩ := r.obj b _ k x hb hy
    obtain ⟨ys, a1, a2, a3⟩ := ldRow h2 h3 hl
    exact ⟨k, x, ys, h1, a1, a2, a3⟩
  · cases hl
theorem ld1Row {k o : Nat} {c : List AV} {v : AV} {xs tail : List Value} {e : TypeId} {fz : Nat × Nat} (h2 : concL R c = some xs) (h3 : w.heap[k]? = some (.cells (xs ++ tail).toArray e fz)) (hl : nth c o = some v) :
    ∃ y, conc R v = some y ∧ w.cell? ⟨k, o, none⟩ = some y := by
  rw [nth_eq] at hl
  obtain ⟨y, h4, h5⟩ := concL_get h2 hl
  refine ⟨y, h5, ?_⟩
  have : o < xs.length := (List.getElem?_eq_some_iff.1 h4).1
  simp [World.cell?, h3, List.getElem?_append_left this, h4]
theorem ld1_run (r : Rel P B W D R h w) {b : Ps} {o : Nat} {v : AV} (hl : ld1 h b o = some v) {z : Nat × Nat} (hy : R b = some z) :
    ∃ k x y, R b = some (k, x) ∧ conc R v = some y ∧ w.cell? ⟨k, o, none⟩ = some y := by
  unfold ld1 at hl
  split at hl
  · rename_i c e ex hb
    obtain ⟨k, x, xs, tail, h1, h2, h3, _⟩ := cells_at r hb hy
    obtain ⟨y, a1, a2⟩ := ld1Row h2 h3 hl
    exact ⟨k, x, y, h1, a1, a2⟩
  · rename_i c e hb
    obtain ⟨k, x⟩ := z
    have h1 := hy
    obtain ⟨xs, tail, fz, h2, h3⟩ := r.obj b _ k x hb hy
    obtain ⟨y, a1, a2⟩ := ld1Row h2 h3 hl
    exact ⟨k, x, y, h1, a1, a2⟩
  · cases hl
theorem loadCells_at {k o : Nat} {ys : List Value} (hc : ∀ j v, ys[j]? = some v → w.cell? ⟨k, o + j, none⟩ = some v) : (loadCells ⟨k, o, none⟩ ys.length).run P w = .ok ys.toArray w :=
  run_loadCells_list w ⟨k, o, none⟩ ys fun j v hv => by rw [add_at]; exact hc j v hv
end
noncomputable def findA (P : Program) (kt : TypeId) (k : AV) : List (AV × AV × Nat) → Nat → Option (Option (Nat × AV))
  | [], _ => some none
  | (k', v, _) :: es, i => match aEq P 12 kt k k' with
    | some true => some (some (i, v))
    | some false => findA P kt k es (i + 1)
    | none => none
noncomputable def ckF (P : Program) (ck : TypeId → AV → Bool) (c : List AV) : List Field → Bool
  | [] => true
  | f :: fs => bif f.name == "_" then ckF P ck c fs else (match partA P f.type c f.offset with
    | some x => bif ck f.type x then ckF P ck c fs else false
    | none => false)
noncomputable def ckR (P : Program) (ck : AV → Bool) (e : TypeId) (s : Nat) (c : List AV) : List Nat → Bool
  | [] => true
  | i :: is => (match partA P e c (i * s) with
    | some x => bif ck x then ckR P ck e s c is else false
    | none => false)
noncomputable def ckA (P : Program) : Nat → TypeId → AV → Bool
  | 0, _, _ => false
  | d + 1, t, v => match P.underlying t with
    | some (.int _) => true
    | some .string => true
    | some .bool => true
    | some (.array n e) => (match v, P.info? e with
      | .a c, some i => ckR P (ckA P d e) e i.size c (List.range n)
      | _, _ => false)
    | some (.struct fs) => (match v with
      | .a c => ckF P (ckA P d) c fs.toList
      | _ => false)
    | _ => false
section
variable {P : Program}
theorem ckF_run {d : Nat} {em : Bool} {ck : TypeId → AV → Bool} {R : Rf} {w : World} (hck : ∀ t v x, ck t v = true → conc R v = some x → (Instr.checkKey em d t x).run P w = .ok () w) {c : List AV} {xs : List Value} (hc : concL R c = some xs) :
    ∀ (fs : List Field), ckF P ck c fs = true →
      ((forIn fs () fun f _ => do
        if f.name ≠ "_" then
          do let y ← Go.part f.type xs.toArray f.offset; Instr.checkKey em d f.type y; pure (ForInStep.yield ())
        else pure (ForInStep.yield ()) : Sem Unit)).run P w = .ok () w
  | [], _ => rfl
  | f :: fs, h => by
    simp only [ckF] at h
    simp only [List.forIn_cons, Sem.run_bind]
    by_cases hn : f.name = "_"
    · rw [show (f.name == "_") = true by simpa using hn] at h
      simp only [hn, ne_eq, not_true_eq_false, if_false, Sem.run_pure, Result.andThen_ok]
      exact ckF_run hck hc fs h
    · rw [show (f.name == "_") = false by simpa using hn, cond_false] at h
      simp only [ne_eq, hn, not_false_eq_true, if_true]
      split at h
      · rename_i x hx
        obtain ⟨X, h1, h2⟩ := partA_run hx hc w
        cases hk : ck f.type x with
        | false => rw [hk] at h; cases h
        | true =>
          rw [hk] at h
          simp only [Sem.run_bind, h2, Result.andThen_ok, hck _ _ _ hk h1, Sem.run_pure]
          exact ckF_run hck hc fs h
      · cases h
theorem ckR_run {d s : Nat} {e : TypeId} {ie : TypeInfo} (hie : P.info? e = some ie) (hs : ie.size = s) {em : Bool} {ck : AV → Bool} {R : Rf} {w : World} (hck : ∀ v x, ck v = true → conc R v = some x → (Instr.checkKey em d e x).run P w = .ok () w) {c : List AV} {xs : List Value} (hc : concL R c = some xs) :
    ∀ (is : List Nat), ckR P ck e s c is = true →
      ((forIn is () fun i _ => do let q ← sizeOf e; let y ← Go.part e xs.toArray (i * q); Instr.checkKey em d e y; pure (ForInStep.yield ()) : Sem Unit)).run P w = .ok () w
  | [], _ => rfl
  | i :: is, h => by
    simp only [ckR] at h
    simp only [List.forIn_cons, Sem.run_bind]
    split at h
    · rename_i x hx
      obtain ⟨X, h1, h2⟩ := partA_run hx hc w
      cases hk : ck x with
      | false => rw [hk] at h; cases h
      | true =>
        rw [hk] at h
        simp only [run_sizeOf hie, hs, h2, Result.andThen_ok, hck _ _ hk h1, Sem.run_pure]
        exact ckR_run hie hs hck hc is h
    · cases h
theorem ckA_run (em : Bool) (R : Rf) (w : World) : ∀ (d m : Nat) (t : TypeId) (v : AV) (x : Value), ckA P d t v = true → conc R v = some x → (Instr.checkKey em (d + m) t x).run P w = .ok () w
  | 0, _, _, _, _, h, _ => by cases h
  | d + 1, m, t, v, x, h, hx => by
    have ih := ckA_run em R w d m
    rw [show d + 1 + m = (d + m) + 1 by omega]
    unfold ckA at h
    split at h
    · rename_i k hu
      cases x <;> simp [Instr.checkKey, run_underlying hu]
    · rename_i hu
      cases x <;> simp [Instr.checkKey, run_underlying hu]
    · rename_i hu
      cases x <;> simp [Instr.checkKey, run_underlying hu]
    · rename_i n e hu
      split at h
      · rename_i c i hi
        obtain ⟨xs, hxs, rfl⟩ := conc_a hx
        have := ckR_run hi rfl (fun v x => ih e v x) hxs _ h
        simp only [Instr.checkKey, Sem.run_bind, run_underlying hu, Result.andThen_ok]
        rw [Std.Legacy.Range.forIn_eq_forIn_range']
        simp only [Std.Legacy.Range.size, Nat.sub_zero, Nat.add_sub_cancel, Nat.div_one, ← List.range_eq_range']
        rw [this]; rfl
      · cases h
    · rename_i fs hu
      split at h
      · rename_i c
        obtain ⟨xs, hxs, rfl⟩ := conc_a hx
        have := ckF_run ih hxs _ h
        simp only [Instr.checkKey, Sem.run_bind, run_underlying hu, Result.andThen_ok]
        rw [← Array.forIn_toList]
        rw [this]; rfl
      · cases h
    · cases h
theorem entC_cons {R : Rf} {k v : AV} {n : Nat} {l : List (AV × AV × Nat)} {es : List MapEntry} : entC R ((k, v, n) :: l) = some es ↔ ∃ x y zs, conc R k = some x ∧ conc R v = some y ∧ entC R l = some zs ∧ es = ⟨x, y, n⟩ :: zs := by
  simp only [entC]
  constructor
  · intro e
    split at e
    · rename_i x y zs h1 h2 h3
      simp only [Option.some.injEq] at e
      exact ⟨x, y, zs, h1, h2, h3, e.symm⟩
    · cases e
  · rintro ⟨x, y, zs, h1, h2, h3, rfl⟩; simp [h1, h2, h3]
def FoundC (R : Rf) : Option (Nat × AV) → Option (Nat × Value) → Prop
  | none, none => True
  | some (i, v), some (j, x) => i = j ∧ conc R v = some x
  | _, _ => False
theorem equalIn_flat {d : TypeDesc} {kt : TypeId} {X Y : Value} {b r : Bool} {w : World} (hu : P.underlying kt = some d) (h : Instr.sameNow d X Y = some b) (hr : (Op.equal kt X Y).run P w = .ok r w) : r = b := by
  unfold Instr.sameNow at h
  split at h
  · rename_i k a k' c
    split at h
    · rename_i hk
      subst hk
      simp only [Option.some.injEq] at h; subst h
      rw [show Op.equal kt (.int k a) (.int k c) = Op.equalIn (9999 + 1) kt (.int k a) (.int k c) from rfl, run_equalIn_int w 9999 kt k _ a c hu] at hr
      simp only [Result.ok.injEq, and_true] at hr
      exact hr.symm
    · cases h
  · rename_i a c
    simp only [Option.some.injEq] at h; subst h
    rw [show Op.equal kt (.string a) (.string c) = Op.equalIn (9999 + 1) kt (.string a) (.string c) from rfl, run_equalIn_string w 9999 kt a c hu] at hr
    simp only [Result.ok.injEq, and_true] at hr
    rw [← hr, beq_toListBytes]
  · rename_i a c
    simp only [Option.some.injEq] at h; subst h
    rw [show Op.equal kt (.bool a) (.bool c) = Op.equalIn (9999 + 1) kt (.bool a) (.bool c) from rfl, run_equalIn_bool w 9999 kt a c hu] at hr
    simp only [Result.ok.injEq, and_true] at hr
    exact hr.symm
  · cases h
theorem findA_run {R : Rf} {kt : TypeId} {d : TypeDesc} (hu : P.underlying kt = some d) {k : AV} {X : Value} (hk : conc R k = some X) (w : World) :
    ∀ {es : List (AV × AV × Nat)} {ES : List MapEntry} {i : Nat} {r : Option (Nat × AV)}, findA P kt k es i = some r → entC R es = some ES →
      ∃ q, FoundC R r q ∧ (Instr.findNow d X ES i = some q ∨ Instr.findNow d X ES i = none) ∧ (Instr.findAsking kt X ES i).run P w = .ok q w
  | [], ES, i, r, h, he => by
    simp only [findA, Option.some.injEq] at h; subst h
    simp only [entC, Option.some.injEq] at he; subst he
    exact ⟨none, trivial, .inl rfl, rfl⟩
  | (k', v, n) :: es, ES, i, r, h, he => by
    obtain ⟨Y, Z, zs, h1, h2, h3, rfl⟩ := entC_cons.1 he
    simp only [findA] at h
    split at h
    · rename_i hq
      simp only [Option.some.injEq] at h; subst h
      have hr : (Op.equal kt X Y).run P w = .ok true w := aEq_ok P 12 9988 kt k k' true R X Y w hq hk h1
      refine ⟨some (i, Z), ⟨rfl, h2⟩, ?_, ?_⟩
      · simp only [Instr.findNow]
        cases hs : Instr.sameNow d X Y with
        | none => exact .inr rfl
        | some b => have := equalIn_flat hu hs hr; subst this; exact .inl rfl
      · simp only [Instr.findAsking, Sem.run_bind, hr, Result.andThen_ok, if_true, Sem.run_pure]
    · rename_i hq
      have hr : (Op.equal kt X Y).run P w = .ok false w := aEq_ok P 12 9988 kt k k' false R X Y w hq hk h1
      obtain ⟨q, a1, a2, a3⟩ := findA_run hu hk w h h3
      refine ⟨q, a1, ?_, ?_⟩
      · simp only [Instr.findNow]
        cases hs : Instr.sameNow d X Y with
        | none => exact .inr rfl
        | some b => have := equalIn_flat hu hs hr; subst this; exact a2
      · simp only [Instr.findAsking, Sem.run_bind, hr, Result.andThen_ok, Bool.false_eq_true, if_false, a3]
    · cases h
theorem findKey_run {R : Rf} {kt : TypeId} {d : TypeDesc} (hu : P.underlying kt = some d) {k : AV} {X : Value} (hk : conc R k = some X) (w : World) {es : List (AV × AV × Nat)} {ES : List MapEntry} {r : Option (Nat × AV)} (h : findA P kt k es 0 = some r) (he : entC R es = some ES) :
    ∃ q, FoundC R r q ∧ (Instr.findKey kt X ES).run P w = .ok q w := by
  obtain ⟨q, h1, h2, h3⟩ := findA_run hu hk w h he
  refine ⟨q, h1, ?_⟩
  simp only [Instr.findKey, Sem.run_bind, run_underlying hu, Result.andThen_ok]
  rcases h2 with h2 | h2
  · rw [h2]; rfl
  · rw [h2]; exact h3
end
def byteA : AV → Option UInt8
  | .i .u8 (.ofNat n) => some (UInt8.ofNat n)
  | _ => none
noncomputable def toB (l : List AV) : Option (List UInt8) := List.rec (some []) (fun v _ ih => match byteA v with
  | some c => (match ih with
    | some l => some (c :: l)
    | none => none)
  | none => none) l
theorem toB_run {P : Program} {R : Rf} {w : World} : ∀ {l : List AV} {xs : List Value} {bs : List UInt8} (acc : ByteArray), toB l = some bs → concL R l = some xs →
    ((forIn xs.toArray acc fun c s => (match c with
      | .int .u8 n => pure (ForInStep.yield (s.push (UInt8.ofNat n.toNat)))
      | _ => do
        stuck "bytesToString: byte expected"
        pure (ForInStep.yield s)) : Sem ByteArray)).run P w = .ok ⟨(acc.data.toList ++ bs).toArray⟩ w
  | [], xs, bs, acc, h, hx => by
    have : some ([] : List UInt8) = some bs := h
    simp only [Option.some.injEq] at this; subst this
    simp only [concL, Option.some.injEq] at hx; subst hx
    simp
  | v :: l, xs, bs, acc, h, hx => by
    obtain ⟨x, ys, h1, h2, rfl⟩ := concL_cons.1 hx
    have hd : (match byteA v with
      | some c => (match toB l with
        | some l => some (c :: l)
        | none => none)
      | none => none) = some bs := h
    split at hd
    · rename_i c hc
      split at hd
      · rename_i bs' hb
        simp only [Option.some.injEq] at hd; subst hd
        unfold byteA at hc
        split at hc
        · rename_i n
          simp only [Option.some.injEq] at hc; subst hc
          simp only [conc, Option.some.injEq] at h1; subst h1
          have := toB_run (P := P) (w := w) (acc.push (UInt8.ofNat n)) hb h2
          rw [← Array.forIn_toList] at this ⊢
          simp only [List.forIn_cons, Sem.run_bind, Sem.run_pure, Result.andThen_ok]
          simp only [Int.ofNat_eq_natCast, Int.toNat_natCast]
          rw [this]
          simp [ByteArray.push]
        · cases hc
      · cases hd
    · cases hd
theorem bts_run {P : Program} {R : Rf} {w : World} {a : Addr} {n cp : Nat} {l : List AV} {ys : List Value} {bs : List UInt8} (hlc : (loadCells a n).run P w = .ok ys.toArray w) (h : toB l = some bs) (hx : concL R l = some ys) :
    (Conv.bytesToString (.slice (some a) n cp)).run P w = .ok (.string ⟨bs.toArray⟩) w := by
  have := toB_run (P := P) (w := w) ByteArray.empty h hx
  unfold Conv.bytesToString
  simp only [Sem.run_bind, hlc, Result.andThen_ok]
  refine (congrArg (fun r : Result ByteArray => r.andThen fun a w' => Sem.run P (pure (Value.string a)) w') this).trans ?_
  simp
def GOk (B : Nat → Prop) (W : World) (G : PT (List AV)) : Prop := ∀ g c, G.get (psOf g) = some c → B g ∧ ∃ xs tail e fz, concL (fun _ => none) c = some xs ∧ W.heap[g]? = some (.cells (xs ++ tail).toArray e fz)
noncomputable def lop (P : Program) (G : PT (List AV)) (fr : Fr) (h : PT AO) (op : Op) : Option AV :=
  match op with
  | .load t x => (match evx fr x, P.underlying t with
    | some (.p b o), some _ => bif isAg P t then (match P.info? t with
        | some i => (match ldN h b o i.size with
          | some l => some (.a l)
          | none => none)
        | none => none) else ld1 h b o
    | some (.gp g o), some _ => bif isAg P t then none else (match G.get (psOf g) with
      | some c => nth c o
      | none => none)
    | _, _ => none)
  | .lookup t x k ok => (match P.underlying t, evx fr k with
    | some (.map kt et), some k => bif ckA P 6 kt k then (match evx fr x, zerA P et with
        | some .m0, some z => some (bif ok then .t [z, .b false] else z)
        | some (.m b), some z => (match h.get b with
          | some (.map es _) => (match findA P kt k es 0 with
            | some (some (_, v)) => some (bif ok then .t [v, .b true] else v)
            | some none => some (bif ok then .t [z, .b false] else z)
            | none => none)
          | _ => none)
        | _, _ => none) else none
    | _, _ => none)
  | .convert st dt x => (match P.underlying st, P.underlying dt, evx fr x with
    | some (.slice e), some .string, some .l0 => (match P.underlying e with
      | some (.int .u8) => some (.s [])
      | _ => none)
    | some (.slice e), some .string, some (.l b o n _) => (match P.underlying e, ldN h b o n with
      | some (.int .u8), some l => (match toB l with
        | some bs => some (.s bs)
        | none => none)
      | _, _ => none)
    | _, _, _ => none)
  | .call c => (match c.callee, c.argTypes.toList, evxs fr c.args.toList with
    | .builtin .len, t :: _, some [.m0] => (match P.underlying t with
      | some (.map ..) => some (.i .i64 0)
      | _ => none)
    | .builtin .len, t :: _, some [.m b] => (match P.underlying t, h.get b with
      | some (.map ..), some (.map es _) => some (.i .i64 (.ofNat (len es)))
      | _, _ => none)
    | _, _, _ => none)
  | _ => none
theorem entC_len {R : Rf} : ∀ {l : List (AV × AV × Nat)} {es : List MapEntry}, entC R l = some es → es.length = l.length
  | [], _, e => by simp only [entC, Option.some.injEq] at e; subst e; rfl
  | (k, v, n) :: l, es, e => by
    obtain ⟨x, y, zs, _, _, h3, rfl⟩ := entC_cons.1 e
    simp [entC_len h3]
theorem ckA_under {P : Program} {d : Nat} {t : TypeId} {v : AV} (h : ckA P d t v = true) : ∃ u, P.underlying t = some u := by
  cases d with
  | zero => cases h
  | succ d =>
    unfold ckA at h
    cases hu : P.underlying t with
    | none => rw [hu] at h; cases h
    | some u => exact ⟨u, rfl⟩
theorem lop_run {P : Program} {B : Nat → Prop} {W : World} {D : Dn} {G : PT (List AV)} (hG : GOk B W G) {R : Rf} {h : PT AO} {w : World} (r : Rel P B W D R h w) {fr : Fr} {a : Act} (hf : FrR R fr a) {o : Oper} {v : AV} (hl : lop P G fr h o.op = some v) :
    ∃ x, conc R v = some x ∧ (execOp a.eval o).run P w = .ok (.value x) w := by
  obtain ⟨dst, op, type, pos, after, guard⟩ := o
  dsimp only at hl
  unfold lop at hl
  split at hl
  · rename_i t x
    split at hl
    · rename_i b o d hx hd
      have h1 := evx_conc hf hx
      obtain ⟨k, e, hk, he⟩ := conc_p h1
      cases hb : isAg P t with
      | true =>
        rw [hb, cond_true] at hl
        split at hl
        · rename_i i hi
          split at hl
          · rename_i l hl2
            simp only [Option.some.injEq] at hl; subst hl
            obtain ⟨k', x', ys, h2, h3, h4, h5⟩ := ldN_run r hl2 hk
            rw [hk] at h2
            simp only [Option.some.injEq, Prod.mk.injEq] at h2
            obtain ⟨rfl, rfl⟩ := h2
            refine ⟨.agg ys.toArray, by rw [conc, h3]; rfl, ?_⟩
            have hlc := loadCells_at (P := P) h5
            rw [h4] at hlc
            simp only [execOp, he, Instr.loadAt, Instr.sureAddr, Sem.run_bind, Sem.run_pure, Result.andThen_ok, loadVar, run_isAg hd, hb, if_true, run_sizeOf hi, hlc]
          · cases hl
        · cases hl
      | false =>
        rw [hb, cond_false] at hl
        obtain ⟨k', x', y, h2, h3, h4⟩ := ld1_run r hl hk
        rw [hk] at h2
        simp only [Option.some.injEq, Prod.mk.injEq] at h2
        obtain ⟨rfl, rfl⟩ := h2
        refine ⟨y, h3, ?_⟩
        simp only [execOp, he, Instr.loadAt, Instr.sureAddr, Sem.run_bind, Sem.run_pure, Result.andThen_ok, loadVar, run_isAg hd, hb, Bool.false_eq_true, if_false, run_load, h4]
    · rename_i g o d hx hd
      have h1 := evx_conc hf hx
      simp only [conc, Option.some.injEq] at h1
      cases hb : isAg P t with
      | true => rw [hb] at hl; cases hl
      | false =>
        rw [hb, cond_false] at hl
        split at hl
        · rename_i c hc
          obtain ⟨hlt, xs, tail, e, fz, q1, q2⟩ := hG g c hc
          obtain ⟨y, q3, q4⟩ := ld1Row (w := w) (concL_mono (fun _ _ e => by cases e) _ _ q1) ((r.old.block g hlt).trans q2) hl
          refine ⟨y, q3, ?_⟩
          simp only [execOp, ← h1, Instr.loadAt, Instr.sureAddr, Sem.run_bind, Sem.run_pure, Result.andThen_ok, loadVar, run_isAg hd, hb, Bool.false_eq_true, if_false, run_load, q4]
        · cases hl
    · cases hl
  · rename_i t x k ok
    split at hl
    · rename_i kt et k' ht hk
      have hkc := evx_conc hf hk
      cases hck : ckA P 6 kt k' with
      | false => rw [hck] at hl; cases hl
      | true =>
        rw [hck, cond_true] at hl
        obtain ⟨u, hu⟩ := ckA_under hck
        have hcr : ∀ em, (Instr.checkKey em 10000 kt (a.eval k)).run P w = .ok () w := fun em => ckA_run em R w 6 9994 kt k' _ hck hkc
        split at hl
        · rename_i z hx hz
          obtain ⟨i, zv, hi, hzv, hc⟩ := zerA_spec hz
          have hzc := cvC_conc R 12 zv z hc
          have h1 := evx_conc hf hx
          simp only [conc, Option.some.injEq] at h1
          obtain ⟨q, hq1, hq2⟩ := findKey_run (R := R) hu hkc w (es := []) (ES := []) (r := none) rfl rfl
          cases q with
          | some q => cases hq1
          | none =>
            cases ok with
            | true =>
              simp only [cond_true, Option.some.injEq] at hl; subst hl
              refine ⟨.tuple #[zv, .bool false], by simp [conc, concL, hzc], ?_⟩
              simp [execOp, ← h1, Instr.lookup, run_underlying ht, hcr, hq2, run_zero hi hzv]
            | false =>
              simp only [cond_false, Option.some.injEq] at hl; subst hl
              refine ⟨zv, hzc, ?_⟩
              simp [execOp, ← h1, Instr.lookup, run_underlying ht, hcr, hq2, run_zero hi hzv]
        · rename_i b z hx hz
          obtain ⟨i, zv, hi, hzv, hc⟩ := zerA_spec hz
          have hzc := cvC_conc R 12 zv z hc
          have h1 := evx_conc hf hx
          obtain ⟨kb, e, hkb, he⟩ := conc_m h1
          split at hl
          · rename_i es cl hb
            obtain ⟨ys, hys, hheap⟩ := r.obj b _ kb e hb hkb
            have hgo : (getObj kb).run P w = .ok (.map ys.toArray cl) w := by simp [getObj, Sem.run, hheap]
            split at hl
            · rename_i j y hfa
              obtain ⟨q, hq1, hq2⟩ := findKey_run hu hkc w hfa hys
              cases q with
              | none => cases hq1
              | some q =>
                obtain ⟨j', Y⟩ := q
                obtain ⟨rfl, hY⟩ := hq1
                cases ok with
                | true =>
                  simp only [cond_true, Option.some.injEq] at hl; subst hl
                  refine ⟨.tuple #[Y, .bool true], by simp [conc, concL, hY], ?_⟩
                  simp [execOp, he, Instr.lookup, run_underlying ht, hgo, hcr, hq2]
                | false =>
                  simp only [cond_false, Option.some.injEq] at hl; subst hl
                  refine ⟨Y, hY, ?_⟩
                  simp [execOp, he, Instr.lookup, run_underlying ht, hgo, hcr, hq2]
            · rename_i hfa
              obtain ⟨q, hq1, hq2⟩ := findKey_run hu hkc w hfa hys
              cases q with
              | some q => cases hq1
              | none =>
                cases ok with
                | true =>
                  simp only [cond_true, Option.some.injEq] at hl; subst hl
                  refine ⟨.tuple #[zv, .bool false], by simp [conc, concL, hzc], ?_⟩
                  simp [execOp, he, Instr.lookup, run_underlying ht, hgo, hcr, hq2, run_zero hi hzv]
                | false =>
                  simp only [cond_false, Option.some.injEq] at hl; subst hl
                  refine ⟨zv, hzc, ?_⟩
                  simp [execOp, he, Instr.lookup, run_underlying ht, hgo, hcr, hq2, run_zero hi hzv]
            · cases hl
          · cases hl
        · cases hl
    · cases hl
  · split at hl
    · rename_i e hs hd hx
      split at hl
      · rename_i he
        simp only [Option.some.injEq] at hl; subst hl
        have h1 := evx_conc hf hx
        simp only [conc, Option.some.injEq] at h1
        refine ⟨_, rfl, ?_⟩
        simp only [execOp, Sem.run_bind, ← h1]
        simp [convert, run_underlying hs, run_underlying hd, run_underlying he, Conv.bytesToString]
        rfl
      · cases hl
    · rename_i e b o n cp hs hd hx
      split at hl
      · rename_i l he hl2
        split at hl
        · rename_i bs hbs
          simp only [Option.some.injEq] at hl; subst hl
          have h1 := evx_conc hf hx
          obtain ⟨k, ex, hk, hee⟩ := conc_l h1
          obtain ⟨k', x', ys, q1, q2, q3, q4⟩ := ldN_run r hl2 hk
          rw [hk] at q1
          simp only [Option.some.injEq, Prod.mk.injEq] at q1
          obtain ⟨rfl, rfl⟩ := q1
          refine ⟨_, rfl, ?_⟩
          have hlc := loadCells_at (P := P) q4
          rw [q3] at hlc
          have hb := bts_run (cp := cp + ex) hlc hbs q2
          simp only [execOp, Sem.run_bind, hee]
          simp only [convert, run_underlying hs, run_underlying hd, run_underlying he, Sem.run_bind, Result.andThen_ok, hb, Sem.run_pure]
        · cases hl
      · cases hl
    · cases hl
  · rename_i c
    split at hl
    · rename_i t ts hc hts hvs
      split at hl
      · rename_i kt et ht
        simp only [Option.some.injEq] at hl; subst hl
        refine ⟨_, rfl, ?_⟩
        have h1 := evxs_conc hf hvs
        obtain ⟨X, ys, hX, hys, he⟩ := concL_cons.1 h1
        simp only [concL, Option.some.injEq] at hys; subst hys
        simp only [conc, Option.some.injEq] at hX; subst hX
        have ht0 : c.argTypes[0]? = some t := by have := congrArg (·[0]?) hts; simpa using this
        have e : (c.args.map a.eval) = #[.map none] := by apply Array.ext'; simpa using he
        simp [execOp, resolve, hc, invoke, builtin, Builtin.len_, ht0, e, run_underlying ht, goInt]
      · cases hl
    · rename_i t ts b hc hts hvs
      split at hl
      · rename_i kt et es cl ht hb
        simp only [Option.some.injEq] at hl; subst hl
        have h1 := evxs_conc hf hvs
        obtain ⟨X, zs, hX, hzs, he⟩ := concL_cons.1 h1
        simp only [concL, Option.some.injEq] at hzs; subst hzs
        obtain ⟨kb, e', hkb, rfl⟩ := conc_m hX
        obtain ⟨ys, hys, hheap⟩ := r.obj b _ kb e' hb hkb
        have hgo : (getObj kb).run P w = .ok (.map ys.toArray cl) w := by simp [getObj, Sem.run, hheap]
        have ht0 : c.argTypes[0]? = some t := by have := congrArg (·[0]?) hts; simpa using this
        have e : (c.args.map a.eval) = #[.map (some kb)] := by apply Array.ext'; simpa using he
        refine ⟨_, rfl, ?_⟩
        have hlen := entC_len hys
        simp [execOp, resolve, hc, invoke, builtin, Builtin.len_, ht0, e, run_underlying ht, goInt, hgo, hlen, len_eq]
      · cases hl
    · cases hl
  · cases hl
end Go.Ev
