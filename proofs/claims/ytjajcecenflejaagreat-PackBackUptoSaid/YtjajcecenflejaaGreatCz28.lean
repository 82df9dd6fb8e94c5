/- YtjajcecenflejaaGreatCz28 -/
import Derived.Test.YtjajcecenflejaaGreatCz27
import Derived.Laws.Strings
namespace Go.Ev
noncomputable def evxs (fr : Fr) : List Operand → Option (List AV)
  | [] => some []
  | x :: l => match evx fr x, evxs fr l with
    | some v, some vs => some (v :: vs)
    | _, _ => none
theorem evxs_conc {R : Rf} {fr : Fr} {a : Act} (h : FrR R fr a) : ∀ {l : List Operand} {vs : List AV}, evxs fr l = some vs → concL R vs = some (l.map a.eval)
  | [], vs, e => by simp only [evxs, Option.some.injEq] at e; subst e; rfl
  | x :: l, vs, e => by
    simp only [evxs] at e
    split at e
    · rename_i v us h1 h2
      simp only [Option.some.injEq] at e; subst e
      exact concL_cons.2 ⟨_, _, evx_conc h h1, evxs_conc h h2, rfl⟩
    · cases e
def natOf : AV → Option Nat
  | .i _ (.ofNat n) => some n
  | _ => none
noncomputable def bnd (fr : Fr) (d : Nat) : Option Operand → Option Nat
  | none => some d
  | some x => match evx fr x with
    | some v => natOf v
    | none => none
def cellsA : AV → List AV
  | .a c => c
  | v => [v]
theorem cellsA_conc {R : Rf} {v : AV} {x : Value} (h : conc R v = some x) : concL R (cellsA v) = some x.cells.toList := by
  cases v
  case a c => obtain ⟨xs, h1, rfl⟩ := conc_a h; simpa [cellsA, Value.cells] using h1
  all_goals
    simp only [cellsA]
    refine concL_cons.2 ⟨x, [], h, rfl, ?_⟩
    simp only [conc, Option.map_eq_some_iff, Option.some.injEq] at h
    first
      | (subst h; rfl)
      | (obtain ⟨_, _, rfl⟩ := h; rfl)
noncomputable def fillA (place : Nat → Option (Nat × Nat)) (fr : Fr) : List (Nat × Operand) → List AV → Option (List AV)
  | [], c => some c
  | (i, x) :: ps, c => match place i, evx fr x with
    | some (off, size), some v => bif Nat.beq (len (cellsA v)) size then (match over (cellsA v) c off with
      | some c => fillA place fr ps c
      | none => none) else none
    | _, _ => none
theorem zip_set (off : Nat) : ∀ (vs : List Value) (k : Nat) (c : Array Value), off + k + vs.length ≤ c.size →
    ((vs.zipIdx k).foldl (fun cs x => cs.setIfInBounds (off + x.2) x.1) c).toList = c.toList.take (off + k) ++ (vs ++ c.toList.drop (off + k + vs.length))
  | [], k, c, _ => by simp
  | v :: vs, k, c, h => by
    rw [List.zipIdx_cons, List.foldl_cons]
    have := zip_set off vs (k + 1) (c.setIfInBounds (off + k) v) (by simp at h ⊢; omega)
    rw [this]
    simp only [Array.toList_setIfInBounds, List.length_cons]
    have e := list_seg_step c.toList (off + k) v vs (by simp at h ⊢; omega)
    simp only [List.append_assoc] at e
    rw [show off + (k + 1) = off + k + 1 by omega]
    rw [e]
theorem over_conc {R : Rf} {m l r : List AV} {n : Nat} {ms ls : List Value} (h : over m l n = some r) (hm : concL R m = some ms) (hl : concL R l = some ls) :
    n + ms.length ≤ ls.length ∧ concL R r = some (ls.take n ++ (ms ++ ls.drop (n + ms.length))) := by
  obtain ⟨h1, rfl⟩ := over_eq h
  have e1 := concL_len hm
  have e2 := concL_len hl
  refine ⟨by omega, ?_⟩
  rw [e1]
  exact concL_app (concL_take n hl) (concL_app hm (concL_drop _ hl))
theorem fillA_run {R : Rf} {fr : Fr} {a : Act} (hf : FrR R fr a) {place : Nat → Option (Nat × Nat)} : ∀ {ps : List (Nat × Operand)} {c r : List AV} {xs : List Value}, fillA place fr ps c = some r → concL R c = some xs →
    ∃ ys, concL R r = some ys ∧ Instr.fill place xs.toArray (ps.map fun p => (p.1, a.eval p.2)) = some ys.toArray
  | [], c, r, xs, h, hc => by simp only [fillA, Option.some.injEq] at h; subst h; exact ⟨xs, hc, rfl⟩
  | (i, x) :: ps, c, r, xs, h, hc => by
    simp only [fillA] at h
    split at h
    · rename_i off size v hp hv
      have hx := evx_conc hf hv
      have hcv := cellsA_conc hx
      cases hb : Nat.beq (len (cellsA v)) size with
      | false => rw [hb] at h; cases h
      | true =>
        rw [hb, cond_true] at h
        have hs := Nat.eq_of_beq_eq_true hb
        rw [len_eq] at hs
        split at h
        · rename_i c2 ho
          obtain ⟨h1, h2⟩ := over_conc ho hcv hc
          obtain ⟨ys, h3, h4⟩ := fillA_run hf h h2
          refine ⟨ys, h3, ?_⟩
          have hsz : (a.eval x).cells.size = size := by have := concL_len hcv; simp at this; omega
          have hle : off + (a.eval x).cells.size ≤ xs.length := by simpa using h1
          simp only [List.map_cons, Instr.fill, hp]
          rw [if_neg (by simp [hsz]; omega)]
          have hz := zip_set off (a.eval x).cells.toList 0 xs.toArray (by simpa using hle)
          have e : ((a.eval x).cells.zipIdx.foldl (fun cs (c, j) => cs.setIfInBounds (off + j) c) xs.toArray) = (xs.take off ++ ((a.eval x).cells.toList ++ xs.drop (off + (a.eval x).cells.toList.length))).toArray := by
            apply Array.ext'
            rw [← Array.foldl_toList, Array.toList_zipIdx]
            simpa using hz
          rw [e]; exact h4
        · cases h
    · cases h
noncomputable def zerA (P : Program) (t : TypeId) : Option AV := match P.info? t with
  | some i => (match i.zero with
    | some z => cvC 12 z
    | none => none)
  | none => none
theorem zerA_spec {P : Program} {t : TypeId} {v : AV} (h : zerA P t = some v) : ∃ i z, P.info? t = some i ∧ i.zero = some z ∧ cvC 12 z = some v := by
  unfold zerA at h
  split at h
  · rename_i i hi
    split at h
    · rename_i z hz; exact ⟨i, z, hi, hz, h⟩
    · cases h
  · cases h
noncomputable def placesF (P : Program) : List Field → Option (List (Nat × Nat))
  | [] => some []
  | f :: fs => match P.info? f.type, placesF P fs with
    | some i, some l => some ((f.offset, i.size) :: l)
    | _, _ => none
theorem placesF_run {P : Program} (w : World) : ∀ {fs : List Field} {l : List (Nat × Nat)}, placesF P fs = some l → (fs.mapM (fun f => do pure (f.offset, ← sizeOf f.type)) : Sem _).run P w = .ok l w
  | [], l, h => by simp only [placesF, Option.some.injEq] at h; subst h; rfl
  | f :: fs, l, h => by
    simp only [placesF] at h
    split at h
    · rename_i i l2 h1 h2
      simp only [Option.some.injEq] at h; subst h
      have := placesF_run w h2
      simp only [List.mapM_cons, Sem.run_bind, run_sizeOf h1, Result.andThen_ok, Sem.run_pure]
      rw [this]; rfl
    · cases h
noncomputable def popBuild (P : Program) (fr : Fr) (t : TypeId) (ps : List (Nat × Operand)) : Option AV :=
  match zerA P t, P.underlying t with
  | some z, some (.struct fs) => (match placesF P fs.toList with
    | some pl => (match fillA (fun i => nth pl i) fr ps (cellsA z) with
      | some c => some (.a c)
      | none => none)
    | none => none)
  | some z, some (.array _ e) => (match P.info? e with
    | some i => (match fillA (fun j => some (j * i.size, i.size)) fr ps (cellsA z) with
      | some c => some (.a c)
      | none => none)
    | none => none)
  | _, _ => none
theorem popBuild_run {P : Program} {R : Rf} {fr : Fr} {a : Act} (hf : FrR R fr a) {t : TypeId} {ps : Array (Nat × Operand)} {v : AV} (h : popBuild P fr t ps.toList = some v) (w : World) :
    ∃ x, conc R v = some x ∧ (Instr.build t (ps.map fun (i, x) => (i, a.eval x))).run P w = .ok x w := by
  unfold popBuild at h
  have hmap : (ps.map fun (i, x) => (i, a.eval x)).toList = ps.toList.map fun p => (p.1, a.eval p.2) := by simp
  split at h
  · rename_i z fs hz hu
    obtain ⟨i, zv, hi, hzv, hc⟩ := zerA_spec hz
    have hcz := cellsA_conc (cvC_conc R 12 zv z hc)
    split at h
    · rename_i pl hpl
      split at h
      · rename_i c hfl
        simp only [Option.some.injEq] at h; subst h
        obtain ⟨ys, h1, h2⟩ := fillA_run hf hfl hcz
        refine ⟨.agg ys.toArray, by rw [conc, h1]; rfl, ?_⟩
        have hpl2 := placesF_run w hpl
        have hm : (fs.mapM (fun f => do pure (f.offset, ← sizeOf f.type)) : Sem _).run P w = .ok pl.toArray w := by
          rw [Array.mapM_eq_mapM_toList, Sem.run_map, hpl2]; rfl
        simp only [Instr.build, Sem.run_bind, run_zero hi hzv, Result.andThen_ok, run_underlying hu]
        rw [hm]
        simp only [Result.andThen_ok, hmap]
        have e : (fun x => pl.toArray[x]?) = fun i => nth pl i := by funext i; rw [nth_eq]; simp
        simp only [Array.toArray_toList] at h2
        rw [e, h2]; rfl
      · cases h
    · cases h
  · rename_i z n e hz hu
    obtain ⟨i, zv, hi, hzv, hc⟩ := zerA_spec hz
    have hcz := cellsA_conc (cvC_conc R 12 zv z hc)
    split at h
    · rename_i ie hie
      split at h
      · rename_i c hfl
        simp only [Option.some.injEq] at h; subst h
        obtain ⟨ys, h1, h2⟩ := fillA_run hf hfl hcz
        refine ⟨.agg ys.toArray, by rw [conc, h1]; rfl, ?_⟩
        simp only [Array.toArray_toList] at h2
        simp only [Instr.build, Sem.run_bind, run_zero hi hzv, Result.andThen_ok, run_underlying hu, run_sizeOf hie, hmap, h2, Sem.run_pure]
      · cases h
    · cases h
  · cases h
end Go.Ev
namespace Go.Ev
noncomputable def popBin (P : Program) (op : BinOp) (t : TypeId) (x y : AV) : Option AV :=
  match x, y with
  | .i k a, .i k' b => bif isSh op then shI op k a b else (bif kEq k k' then binI op k a b else none)
  | .s a, .s b => binS op a b
  | x, y => match op with
    | .eql => bif P.eqGuardType P.depth t then none else (match aEq P 12 t x y with | some r => some (.b r) | none => none)
    | .neq => bif P.eqGuardType P.depth t then none else (match aEq P 12 t x y with | some r => some (.b (!r)) | none => none)
    | _ => none
theorem eqGuard_flat {P : Program} {R : Rf} {op : BinOp} {t : TypeId} {x y : Operand} {u v : AV} {X Y : Value} (hu : conc R u = some X) (hv : conc R v = some Y) (hg : P.eqGuardType P.depth t = false ∨ (∀ c, u ≠ .a c)) (hn : u ≠ .ni) (w : World) :
    (eqGuard op t x y X Y).run P w = .ok () w := by
  cases u
  case a c =>
    obtain ⟨xs, _, rfl⟩ := conc_a hu
    rcases hg with hg | hg
    · cases v
      case a c2 =>
        obtain ⟨ys, _, rfl⟩ := conc_a hv
        exact run_eqGuard_agg w op t x y _ _ hg
      all_goals
        simp only [conc, Option.map_eq_some_iff, Option.some.injEq] at hv
        first
          | (subst hv; cases op <;> simp [eqGuard])
          | (obtain ⟨_, _, rfl⟩ := hv; cases op <;> simp [eqGuard])
    · exact absurd rfl (hg c)
  case ni => exact absurd rfl hn
  all_goals
    simp only [conc, Option.map_eq_some_iff, Option.some.injEq] at hu
    first
      | (subst hu; cases op <;> cases Y <;> simp [eqGuard])
      | (obtain ⟨_, _, rfl⟩ := hu; cases op <;> cases Y <;> simp [eqGuard])
theorem binOp_eql {P : Program} {t : TypeId} {R : Rf} {u v : AV} {X Y : Value} {r : Bool} (h : aEq P 12 t u v = some r) (hu : conc R u = some X) (hv : conc R v = some Y)
    (hi : ∀ k a k' b, u = .i k a → v = .i k' b → False) (hs : ∀ a b, u = .s a → v = .s b → False) (w : World) :
    (binOp .eql t X Y).run P w = .ok (.bool r) w ∧ (binOp .neq t X Y).run P w = .ok (.bool (!r)) w := by
  have he : (Op.equal t X Y).run P w = .ok r w := aEq_ok P 12 9988 t u v r R X Y w h hu hv
  have key : binOp .eql t X Y = (do pure (.bool (← Op.equal t X Y))) ∧ binOp .neq t X Y = (do pure (.bool (!(← Op.equal t X Y)))) := by
    cases u <;> simp only [conc, Option.map_eq_some_iff, Option.some.injEq] at hu <;> cases v <;> simp only [conc, Option.map_eq_some_iff, Option.some.injEq] at hv
    all_goals first
      | (exact absurd rfl (fun e => hi _ _ _ _ e rfl))
      | (exact absurd rfl (fun e => hs _ _ e rfl))
      | (subst hu; subst hv; exact ⟨rfl, rfl⟩)
      | (subst hu; obtain ⟨_, _, rfl⟩ := hv; exact ⟨rfl, rfl⟩)
      | (obtain ⟨_, _, rfl⟩ := hu; subst hv; exact ⟨rfl, rfl⟩)
      | (obtain ⟨_, _, rfl⟩ := hu; obtain ⟨_, _, rfl⟩ := hv; exact ⟨rfl, rfl⟩)
  rw [key.1, key.2]
  constructor <;> simp only [Sem.run_bind, he, Result.andThen_ok, Sem.run_pure]
theorem popBin_run {P : Program} {R : Rf} {op : BinOp} {t : TypeId} {x y : Operand} {u v r : AV} {X Y : Value} (h : popBin P op t u v = some r) (hu : conc R u = some X) (hv : conc R v = some Y) (w : World) :
    ∃ z, conc R r = some z ∧ ((do eqGuard op t x y X Y; binOp op t X Y : Sem Value)).run P w = .ok z w := by
  unfold popBin at h
  split at h
  · rename_i k a k' b
    rw [Sem.run_bind, eqGuard_flat hu hv (.inr (by simp)) (by simp), Result.andThen_ok]
    simp only [conc, Option.some.injEq] at hu hv; subst hu; subst hv
    cases hs : isSh op with
    | true => rw [hs] at h; exact shI_run h R w
    | false =>
      rw [hs] at h
      cases hk : kEq k k' with
      | false => rw [hk] at h; cases h
      | true =>
        rw [hk] at h
        obtain rfl := kEq_eq hk
        exact binI_run h hs R w
  · rename_i a b
    rw [Sem.run_bind, eqGuard_flat hu hv (.inr (by simp)) (by simp), Result.andThen_ok]
    simp only [conc, Option.some.injEq] at hu hv; subst hu; subst hv
    exact binS_run h R w
  · rename_i h1 h2
    have hi : ∀ k a k' b, u = .i k a → v = .i k' b → False := fun k a k' b e1 e2 => h1 k a k' b e1 e2
    have hs : ∀ a b, u = .s a → v = .s b → False := fun a b e1 e2 => h2 a b e1 e2
    split at h
    · cases hg : P.eqGuardType P.depth t with
      | true => rw [hg] at h; cases h
      | false =>
        rw [hg, cond_false] at h
        split at h
        · rename_i q hq
          simp only [Option.some.injEq] at h; subst h
          rw [Sem.run_bind, eqGuard_flat hu hv (.inl hg) (fun e => by subst e; cases v <;> cases hq), Result.andThen_ok]
          exact ⟨_, rfl, (binOp_eql hq hu hv hi hs w).1⟩
        · cases h
    · cases hg : P.eqGuardType P.depth t with
      | true => rw [hg] at h; cases h
      | false =>
        rw [hg, cond_false] at h
        split at h
        · rename_i q hq
          simp only [Option.some.injEq] at h; subst h
          rw [Sem.run_bind, eqGuard_flat hu hv (.inl hg) (fun e => by subst e; cases v <;> cases hq), Result.andThen_ok]
          exact ⟨_, rfl, (binOp_eql hq hu hv hi hs w).2⟩
        · cases h
    · cases h
noncomputable def popSl (P : Program) (fr : Fr) (t : TypeId) (x : AV) (lo hi : Option Operand) : Option AV :=
  match x with
  | .s l => (match P.underlying t with
    | some .string => (match bnd fr 0 lo, bnd fr (len l) hi with
      | some a, some b => bif Nat.ble a b then (bif Nat.ble b (len l) then some (.s (take (drop l a) (b - a))) else none) else none
      | _, _ => none)
    | _ => none)
  | .l b o n c => (match P.underlying t with
    | some (.slice e) => (match P.info? e, bnd fr 0 lo, bnd fr n hi with
      | some i, some x, some y => bif Nat.ble x y then (bif Nat.ble y c then (bif Nat.ble (c + 1) (x + 1) then some (.le b o (o + x * i.size)) else some (.l b (o + x * i.size) (y - x) (c - x))) else none) else none
      | _, _, _ => none)
    | _ => none)
  | .l0 => (match P.underlying t with
    | some (.slice e) => (match P.info? e, bnd fr 0 lo, bnd fr 0 hi with
      | some _, some 0, some 0 => some .l0
      | _, _, _ => none)
    | _ => none)
  | _ => none
theorem natOf_conc {R : Rf} {v : AV} {n : Nat} {x : Value} (h : natOf v = some n) (hx : conc R v = some x) : ∃ k, x = .int k n := by
  unfold natOf at h
  split at h
  · simp only [Option.some.injEq] at h; subst h
    simp only [conc, Option.some.injEq] at hx
    exact ⟨_, hx.symm⟩
  · cases h
theorem sliceBound_nat {P : Program} {w : World} {k : IntKind} {n y : Nat} {c : BoundsCode} (h : n ≤ y) : (Instr.sliceBound (.int k (n : Int)) y c).run P w = .ok n w := by
  have := run_sliceBound (P := P) w k (n : Int) y c (by omega) (by omega)
  rw [this]; simp
theorem bounds_run {P : Program} {R : Rf} {fr : Fr} {a : Act} (hf : FrR R fr a) {lo hi : Option Operand} {isS : Bool} {n c x y : Nat} (h1 : bnd fr 0 lo = some x) (h2 : bnd fr n hi = some y) (hxy : x ≤ y) (hyc : y ≤ c) (w : World) :
    (Instr.sliceBounds isS n c (lo.map a.eval) (hi.map a.eval) none).run P w = .ok (x, y, c) w := by
  have hlo : ∀ (y : Nat), x ≤ y → ((match lo.map a.eval with | some v => Instr.sliceBound v y .sliceB | none => pure 0 : Sem Nat)).run P w = .ok x w := by
    intro y hxy
    cases lo with
    | none => simp only [bnd, Option.some.injEq] at h1; subst h1; rfl
    | some l =>
      simp only [bnd] at h1
      split at h1
      · rename_i v hv
        obtain ⟨k, hk⟩ := natOf_conc h1 (evx_conc hf hv)
        simp only [Option.map_some, hk]
        exact sliceBound_nat hxy
      · cases h1
  have hhi : ∀ (code : BoundsCode), ((match hi.map a.eval with | some v => Instr.sliceBound v c code | none => pure n : Sem Nat)).run P w = .ok y w := by
    intro code
    cases hi with
    | none => simp only [bnd, Option.some.injEq] at h2; subst h2; rfl
    | some l =>
      simp only [bnd] at h2
      split at h2
      · rename_i v hv
        obtain ⟨k, hk⟩ := natOf_conc h2 (evx_conc hf hv)
        simp only [Option.map_some, hk]
        exact sliceBound_nat hyc
      · cases h2
  have hhi' := hhi (if isS then .sliceAcap else .sliceAlen)
  have hlo' := hlo y hxy
  unfold Instr.sliceBounds
  cases hi <;> cases lo <;> simp only [Option.map_none, Option.map_some, Sem.run_bind, Sem.run_pure, Result.andThen_ok, Option.isSome_none, Bool.false_eq_true, if_false] at hhi' hlo' ⊢
  all_goals
    first
      | (rw [hhi']; simp only [Result.andThen_ok]; rw [hlo']; rfl)
      | (rw [hhi']; simp only [Result.andThen_ok]; simp_all)
      | (simp only [Result.ok.injEq, and_true] at hhi' hlo'; subst hhi'; try subst hlo'
         first | rfl | (rw [hlo']; rfl))
theorem extract_mk (l : List UInt8) (a b : Nat) : (⟨l.toArray⟩ : ByteArray).extract a b = ⟨((l.drop a).take (b - a)).toArray⟩ := by
  apply ByteArray.ext
  rw [ByteArray.data_extract]
  apply Array.ext'
  simp
theorem popSl_run {P : Program} {R : Rf} {fr : Fr} {a : Act} (hf : FrR R fr a) {t : TypeId} {u v : AV} {X : Value} {lo hi : Option Operand} (h : popSl P fr t u lo hi = some v) (hu : conc R u = some X) (w : World) :
    ∃ z, conc R v = some z ∧ (Instr.sliceAt t X (lo.map a.eval) (hi.map a.eval) none).run P w = .ok z w := by
  unfold popSl at h
  split at h
  · rename_i l
    simp only [conc, Option.some.injEq] at hu; subst hu
    split at h
    · rename_i ht
      split at h
      · rename_i x y h1 h2
        rw [len_eq] at h h2
        cases hb1 : Nat.ble x y with
        | false => rw [hb1] at h; cases h
        | true =>
          cases hb2 : Nat.ble y l.length with
          | false => rw [hb1, hb2] at h; cases h
          | true =>
            rw [hb1, hb2] at h
            simp only [cond_true, Option.some.injEq, take_eq, drop_eq] at h; subst h
            refine ⟨_, rfl, ?_⟩
            have hl : (⟨l.toArray⟩ : ByteArray).size = l.length := by simp [ByteArray.size]
            rw [run_sliceAt_string _ _ _ _ _ _ ht]
            have hbs := bounds_run (P := P) (isS := false) hf h1 h2 (ble_le hb1) (ble_le hb2) w
            simp only [Instr.slice, Sem.run_bind, run_underlying ht, Result.andThen_ok, Option.isSome_none, Bool.false_eq_true, if_false, hl, hbs]
            simp only [Sem.run_pure, extract_mk l x y]
      · cases h
    · cases h
  · rename_i b o n c
    obtain ⟨k, e, hk, rfl⟩ := conc_l hu
    split at h
    · rename_i el ht
      split at h
      · rename_i i x y hi h1 h2
        cases hb1 : Nat.ble x y with
        | false => rw [hb1] at h; cases h
        | true =>
          cases hb2 : Nat.ble y c with
          | false => rw [hb1, hb2] at h; cases h
          | true =>
            cases hb3 : Nat.ble (c + 1) (x + 1) with
            | true =>
              rw [hb1, hb2, hb3] at h
              simp only [cond_true, Option.some.injEq] at h; subst h
              have hxy := ble_le hb1
              have hyc := ble_le hb2
              have hcx := ble_le hb3
              obtain rfl : x = c := by omega
              obtain rfl : y = x := by omega
              refine ⟨.slice (some ⟨k, (if e = 0 then o else o + y * i.size), none⟩) 0 e, by simp only [conc, hk, Option.map_some], ?_⟩
              have hel : P.elem t = el := by simp [Program.elem, ht]
              rw [run_sliceAt_slice _ _ _ _ _ _ (by rw [hel]; exact ht)]
              have hbs := bounds_run (P := P) (isS := true) (c := y + e) hf h1 h2 hxy (by omega) w
              simp only [Instr.slice, Sem.run_bind, run_underlying ht, Result.andThen_ok, hbs, run_sizeOf hi, Sem.run_pure]
              have hadd : (⟨k, o, none⟩ : Addr).add (y * i.size) = ⟨k, o + y * i.size, none⟩ := by unfold Addr.add; split <;> simp_all
              simp only [Option.map_some, hadd]
              by_cases he : e = 0
              · subst he; simp
              · rw [if_neg (by omega), if_neg he, Nat.sub_self, Nat.add_sub_cancel_left]
            | false =>
              rw [hb1, hb2, hb3] at h
              simp only [cond_true, cond_false, Option.some.injEq] at h; subst h
              have hxy := ble_le hb1
              have hyc := ble_le hb2
              have hxc : x < c := by
                rcases Nat.lt_or_ge x c with h' | h'
                · exact h'
                · rw [Nat.ble_eq_true_of_le (by omega)] at hb3; cases hb3
              refine ⟨.slice (some ⟨k, o + x * i.size, none⟩) (y - x) (c - x + e), by simp only [conc, hk, Option.map_some], ?_⟩
              have hel : P.elem t = el := by simp [Program.elem, ht]
              rw [run_sliceAt_slice _ _ _ _ _ _ (by rw [hel]; exact ht)]
              have hbs := bounds_run (P := P) (isS := true) (c := c + e) hf h1 h2 hxy (by omega) w
              simp only [Instr.slice, Sem.run_bind, run_underlying ht, Result.andThen_ok, hbs, run_sizeOf hi, Sem.run_pure]
              rw [if_neg (by omega)]
              have hadd : (⟨k, o, none⟩ : Addr).add (x * i.size) = ⟨k, o + x * i.size, none⟩ := by unfold Addr.add; split <;> simp_all
              simp only [Option.map_some, hadd]
              rw [show c + e - x = c - x + e by omega]
      · cases h
    · cases h
  · simp only [conc, Option.some.injEq] at hu; subst hu
    split at h
    · rename_i el ht
      split at h
      · rename_i i hi h1 h2
        simp only [Option.some.injEq] at h; subst h
        refine ⟨_, rfl, ?_⟩
        have hel : P.elem t = el := by simp [Program.elem, ht]
        rw [run_sliceAt_slice _ _ _ _ _ _ (by rw [hel]; exact ht)]
        have hbs := bounds_run (P := P) (isS := true) (c := 0) hf h1 h2 (Nat.le_refl _) (Nat.le_refl _) w
        simp only [Instr.slice, Sem.run_bind, run_underlying ht, Result.andThen_ok, hbs, run_sizeOf hi, Sem.run_pure]
        rfl
      · cases h
    · cases h
  · cases h
noncomputable def popSm (P : Program) (fr : Fr) (t : TypeId) (x : AV) (hi mx : Operand) : Option AV :=
  match x with
  | .l b o n c => (match P.underlying t with
    | some (.slice e) => (match P.info? e, bnd fr n (some hi), bnd fr c (some mx) with
      | some _, some y, some m => bif Nat.ble y m then (bif Nat.ble m c then some (.lx b o y m) else none) else none
      | _, _, _ => none)
    | _ => none)
  | .l0 => (match P.underlying t with
    | some (.slice e) => (match P.info? e, bnd fr 0 (some hi), bnd fr 0 (some mx) with
      | some _, some y, some m => bif Nat.beq y 0 then (bif Nat.beq m 0 then some .l0 else none) else none
      | _, _, _ => none)
    | _ => none)
  | _ => none
theorem popSm_run {P : Program} {R : Rf} {fr : Fr} {a : Act} (hf : FrR R fr a) {t : TypeId} {u v : AV} {X : Value} {hi mx : Operand} (h : popSm P fr t u hi mx = some v) (hu : conc R u = some X) (w : World) :
    ∃ z, conc R v = some z ∧ (Instr.sliceAt t X none (some (a.eval hi)) (some (a.eval mx))).run P w = .ok z w := by
  unfold popSm at h
  split at h
  · rename_i b o n c
    obtain ⟨k, e, hk, rfl⟩ := conc_l hu
    split at h
    · rename_i el ht
      split at h
      · rename_i i y m hi2 h1 h2
        cases hb1 : Nat.ble y m with
        | false => rw [hb1] at h; cases h
        | true =>
          cases hb2 : Nat.ble m c with
          | false => rw [hb1, hb2] at h; cases h
          | true =>
            rw [hb1, hb2] at h
            simp only [cond_true, Option.some.injEq] at h; subst h
            have hym := ble_le hb1
            have hmc := ble_le hb2
            simp only [bnd] at h1 h2
            split at h1
            · rename_i v1 hv1
              split at h2
              · rename_i v2 hv2
                obtain ⟨k1, e1⟩ := natOf_conc h1 (evx_conc hf hv1)
                obtain ⟨k2, e2⟩ := natOf_conc h2 (evx_conc hf hv2)
                refine ⟨.slice (some ⟨k, o, none⟩) y m, by simp only [conc, hk, Option.map_some], ?_⟩
                have hel : P.elem t = el := by simp [Program.elem, ht]
                rw [run_sliceAt_slice _ _ _ _ _ _ (by rw [hel]; exact ht), e1, e2]
                have hb3 : (Instr.sliceBounds true n (c + e) none (some (.int k1 y)) (some (.int k2 m))).run P w = .ok (0, y, m) w := by
                  unfold Instr.sliceBounds
                  simp only [Sem.run_bind, sliceBound_nat (show m ≤ c + e by omega), Result.andThen_ok, sliceBound_nat hym, Sem.run_pure]
                simp only [Instr.slice, Sem.run_bind, run_underlying ht, Result.andThen_ok, hb3, run_sizeOf hi2, Sem.run_pure, Nat.zero_mul, Nat.sub_zero]
                have hadd : (⟨k, o, none⟩ : Addr).add 0 = ⟨k, o, none⟩ := by unfold Addr.add; split <;> simp_all
                by_cases hm : m = 0
                · rw [if_pos hm]
                · rw [if_neg hm]; simp only [Option.map_some, hadd]
              · cases h2
            · cases h1
      · cases h
    · cases h
  · simp only [conc, Option.some.injEq] at hu; subst hu
    split at h
    · rename_i el ht
      split at h
      · rename_i i y m hi2 h1 h2
        cases hb1 : Nat.beq y 0 with
        | false => rw [hb1] at h; cases h
        | true =>
          cases hb2 : Nat.beq m 0 with
          | false => rw [hb1, hb2] at h; cases h
          | true =>
            rw [hb1, hb2] at h
            simp only [cond_true, Option.some.injEq] at h; subst h
            have hy0 := Nat.eq_of_beq_eq_true hb1
            have hm0 := Nat.eq_of_beq_eq_true hb2
            subst hy0; subst hm0
            simp only [bnd] at h1 h2
            split at h1
            · rename_i v1 hv1
              split at h2
              · rename_i v2 hv2
                obtain ⟨k1, e1⟩ := natOf_conc h1 (evx_conc hf hv1)
                obtain ⟨k2, e2⟩ := natOf_conc h2 (evx_conc hf hv2)
                refine ⟨.slice none 0 0, rfl, ?_⟩
                have hel : P.elem t = el := by simp [Program.elem, ht]
                rw [run_sliceAt_slice _ _ _ _ _ _ (by rw [hel]; exact ht), e1, e2]
                have hb3 : (Instr.sliceBounds true 0 0 none (some (.int k1 (0 : Nat))) (some (.int k2 (0 : Nat)))).run P w = .ok (0, 0, 0) w := by
                  unfold Instr.sliceBounds
                  simp only [Sem.run_bind, sliceBound_nat (Nat.le_refl 0), Result.andThen_ok, Sem.run_pure]
                simp only [Instr.slice, Sem.run_bind, run_underlying ht, Result.andThen_ok, hb3, run_sizeOf hi2, Sem.run_pure, Nat.zero_mul, Nat.sub_zero]
                rfl
              · cases h2
            · cases h1
      · cases h
    · cases h
  · cases h
end Go.Ev
