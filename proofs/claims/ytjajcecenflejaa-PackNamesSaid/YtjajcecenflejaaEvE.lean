/- A machine that runs a Go text by reckoning: the operations that touch no memory. Of no program. -/
import Derived.Test.YtjajcecenflejaaEvD
import Derived.Laws.Strings
namespace Go.Ev

noncomputable def evxs (fr : Fr) : List Operand → Option (List AV)
  | [] => some []
  | x :: l => match evx fr x, evxs fr l with
    | some v, some vs => some (v :: vs)
    | _, _ => none
theorem evxs_conc {R : Rf} {fr : Fr} {a : Act} (h : FrR R fr a) : ∀ {l : List Operand} {vs : List AV}, evxs fr l = some vs → concL R vs = some (l.map a.eval)
  | [], vs, e => by simp only [evxs, Option.some.injEq] at e; subst e; rfl
  | x :: l, vs, e => by
    simp only [evxs] at e
    split at e
    · rename_i v us h1 h2
      simp only [Option.some.injEq] at e; subst e
      exact concL_cons.2 ⟨_, _, evx_conc h h1, evxs_conc h h2, rfl⟩
    · cases e
def natOf : AV → Option Nat
  | .i _ (.ofNat n) => some n
  | _ => none
noncomputable def bnd (fr : Fr) (d : Nat) : Option Operand → Option Nat
  | none => some d
  | some x => match evx fr x with
    | some v => natOf v
    | none => none
def cellsA : AV → List AV
  | .a c => c
  | v => [v]
theorem cellsA_conc {R : Rf} {v : AV} {x : Value} (h : conc R v = some x) : concL R (cellsA v) = some x.cells.toList := by
  cases v
  case a c => obtain ⟨xs, h1, rfl⟩ := conc_a h; simpa [cellsA, Value.cells] using h1
  all_goals
    simp only [cellsA]
    refine concL_cons.2 ⟨x, [], h, rfl, ?_⟩
    simp only [conc, Option.map_eq_some_iff, Option.some.injEq] at h
    first
      | (subst h; rfl)
      | (obtain ⟨_, _, rfl⟩ := h; rfl)

/-! ## filling -/
noncomputable def fillA (place : Nat → Option (Nat × Nat)) (fr : Fr) : List (Nat × Operand) → List AV → Option (List AV)
  | [], c => some c
  | (i, x) :: ps, c => match place i, evx fr x with
    | some (off, size), some v => bif Nat.beq (len (cellsA v)) size then (match over (cellsA v) c off with
      | some c => fillA place fr ps c
      | none => none) else none
    | _, _ => none
theorem zip_set (off : Nat) : ∀ (vs : List Value) (k : Nat) (c : Array Value), off + k + vs.length ≤ c.size →
    ((vs.zipIdx k).foldl (fun cs x => cs.setIfInBounds (off + x.2) x.1) c).toList = c.toList.take (off + k) ++ (vs ++ c.toList.drop (off + k + vs.length))
  | [], k, c, _ => by simp
  | v :: vs, k, c, h => by
    rw [List.zipIdx_cons, List.foldl_cons]
    have := zip_set off vs (k + 1) (c.setIfInBounds (off + k) v) (by simp at h ⊢; omega)
    rw [this]
    simp only [Array.toList_setIfInBounds, List.length_cons]
    have e := list_seg_step c.toList (off + k) v vs (by simp at h ⊢; omega)
    simp only [List.append_assoc] at e
    rw [show off + (k + 1) = off + k + 1 by omega]
    rw [e]
theorem over_conc {R : Rf} {m l r : List AV} {n : Nat} {ms ls : List Value} (h : over m l n = some r) (hm : concL R m = some ms) (hl : concL R l = some ls) :
    n + ms.length ≤ ls.length ∧ concL R r = some (ls.take n ++ (ms ++ ls.drop (n + ms.length))) := by
  obtain ⟨h1, rfl⟩ := over_eq h
  have e1 := concL_len hm
  have e2 := concL_len hl
  refine ⟨by omega, ?_⟩
  rw [e1]
  exact concL_app (concL_take n hl) (concL_app hm (concL_drop _ hl))
theorem fillA_run {R : Rf} {fr : Fr} {a : Act} (hf : FrR R fr a) {place : Nat → Option (Nat × Nat)} : ∀ {ps : List (Nat × Operand)} {c r : List AV} {xs : List Value}, fillA place fr ps c = some r → concL R c = some xs →
    ∃ ys, concL R r = some ys ∧ Instr.fill place xs.toArray (ps.map fun p => (p.1, a.eval p.2)) = some ys.toArray
  | [], c, r, xs, h, hc => by simp only [fillA, Option.some.injEq] at h; subst h; exact ⟨xs, hc, rfl⟩
  | (i, x) :: ps, c, r, xs, h, hc => by
    simp only [fillA] at h
    split at h
    · rename_i off size v hp hv
      have hx := evx_conc hf hv
      have hcv := cellsA_conc hx
      cases hb : Nat.beq (len (cellsA v)) size with
      | false => rw [hb] at h; cases h
      | true =>
        rw [hb, cond_true] at h
        have hs := Nat.eq_of_beq_eq_true hb
        rw [len_eq] at hs
        split at h
        · rename_i c2 ho
          obtain ⟨h1, h2⟩ := over_conc ho hcv hc
          obtain ⟨ys, h3, h4⟩ := fillA_run hf h h2
          refine ⟨ys, h3, ?_⟩
          have hsz : (a.eval x).cells.size = size := by have := concL_len hcv; simp at this; omega
          have hle : off + (a.eval x).cells.size ≤ xs.length := by simpa using h1
          simp only [List.map_cons, Instr.fill, hp]
          rw [if_neg (by simp [hsz]; omega)]
          have hz := zip_set off (a.eval x).cells.toList 0 xs.toArray (by simpa using hle)
          have e : ((a.eval x).cells.zipIdx.foldl (fun cs (c, j) => cs.setIfInBounds (off + j) c) xs.toArray) = (xs.take off ++ ((a.eval x).cells.toList ++ xs.drop (off + (a.eval x).cells.toList.length))).toArray := by
            apply Array.ext'
            rw [← Array.foldl_toList, Array.toList_zipIdx]
            simpa using hz
          rw [e]; exact h4
        · cases h
    · cases h

/-! ## the operations -/
noncomputable def zerA (P : Program) (t : TypeId) : Option AV := match P.info? t with
  | some i => (match i.zero with
    | some z => cvC 12 z
    | none => none)
  | none => none
theorem zerA_spec {P : Program} {t : TypeId} {v : AV} (h : zerA P t = some v) : ∃ i z, P.info? t = some i ∧ i.zero = some z ∧ cvC 12 z = some v := by
  unfold zerA at h
  split at h
  · rename_i i hi
    split at h
    · rename_i z hz; exact ⟨i, z, hi, hz, h⟩
    · cases h
  · cases h
noncomputable def placesF (P : Program) : List Field → Option (List (Nat × Nat))
  | [] => some []
  | f :: fs => match P.info? f.type, placesF P fs with
    | some i, some l => some ((f.offset, i.size) :: l)
    | _, _ => none
theorem placesF_run {P : Program} (w : World) : ∀ {fs : List Field} {l : List (Nat × Nat)}, placesF P fs = some l → (fs.mapM (fun f => do pure (f.offset, ← sizeOf f.type)) : Sem _).run P w = .ok l w
  | [], l, h => by simp only [placesF, Option.some.injEq] at h; subst h; rfl
  | f :: fs, l, h => by
    simp only [placesF] at h
    split at h
    · rename_i i l2 h1 h2
      simp only [Option.some.injEq] at h; subst h
      have := placesF_run w h2
      simp only [List.mapM_cons, Sem.run_bind, run_sizeOf h1, Result.andThen_ok, Sem.run_pure]
      rw [this]; rfl
    · cases h
noncomputable def popBuild (P : Program) (fr : Fr) (t : TypeId) (ps : List (Nat × Operand)) : Option AV :=
  match zerA P t, P.underlying t with
  | some z, some (.struct fs) => (match placesF P fs.toList with
    | some pl => (match fillA (fun i => nth pl i) fr ps (cellsA z) with
      | some c => some (.a c)
      | none => none)
    | none => none)
  | some z, some (.array _ e) => (match P.info? e with
    | some i => (match fillA (fun j => some (j * i.size, i.size)) fr ps (cellsA z) with
      | some c => some (.a c)
      | none => none)
    | none => none)
  | _, _ => none
theorem popBuild_run {P : Program} {R : Rf} {fr : Fr} {a : Act} (hf : FrR R fr a) {t : TypeId} {ps : Array (Nat × Operand)} {v : AV} (h : popBuild P fr t ps.toList = some v) (w : World) :
    ∃ x, conc R v = some x ∧ (Instr.build t (ps.map fun (i, x) => (i, a.eval x))).run P w = .ok x w := by
  unfold popBuild at h
  have hmap : (ps.map fun (i, x) => (i, a.eval x)).toList = ps.toList.map fun p => (p.1, a.eval p.2) := by simp
  split at h
  · rename_i z fs hz hu
    obtain ⟨i, zv, hi, hzv, hc⟩ := zerA_spec hz
    have hcz := cellsA_conc (cvC_conc R 12 zv z hc)
    split at h
    · rename_i pl hpl
      split at h
      · rename_i c hfl
        simp only [Option.some.injEq] at h; subst h
        obtain ⟨ys, h1, h2⟩ := fillA_run hf hfl hcz
        refine ⟨.agg ys.toArray, by rw [conc, h1]; rfl, ?_⟩
        have hpl2 := placesF_run w hpl
        have hm : (fs.mapM (fun f => do pure (f.offset, ← sizeOf f.type)) : Sem _).run P w = .ok pl.toArray w := by
          rw [Array.mapM_eq_mapM_toList, Sem.run_map, hpl2]; rfl
        simp only [Instr.build, Sem.run_bind, run_zero hi hzv, Result.andThen_ok, run_underlying hu]
        rw [hm]
        simp only [Result.andThen_ok, hmap]
        have e : (fun x => pl.toArray[x]?) = fun i => nth pl i := by funext i; rw [nth_eq]; simp
        simp only [Array.toArray_toList] at h2
        rw [e, h2]; rfl
      · cases h
    · cases h
  · rename_i z n e hz hu
    obtain ⟨i, zv, hi, hzv, hc⟩ := zerA_spec hz
    have hcz := cellsA_conc (cvC_conc R 12 zv z hc)
    split at h
    · rename_i ie hie
      split at h
      · rename_i c hfl
        simp only [Option.some.injEq] at h; subst h
        obtain ⟨ys, h1, h2⟩ := fillA_run hf hfl hcz
        refine ⟨.agg ys.toArray, by rw [conc, h1]; rfl, ?_⟩
        simp only [Array.toArray_toList] at h2
        simp only [Instr.build, Sem.run_bind, run_zero hi hzv, Result.andThen_ok, run_underlying hu, run_sizeOf hie, hmap, h2, Sem.run_pure]
      · cases h
    · cases h
  · cases h
end Go.Ev
