/- A machine that runs a Go text by reckoning: operations that touch no memory, all. Of no program. -/
import Derived.Test.YtjajcecenflejaaEvC
namespace Go.Ev

def kN : IntKind → Nat | .i8 => 0 | .i16 => 1 | .i32 => 2 | .i64 => 3 | .u8 => 4 | .u16 => 5 | .u32 => 6 | .u64 => 7
def kEq (a b : IntKind) : Bool := Nat.beq (kN a) (kN b)
theorem kEq_eq {a b : IntKind} (h : kEq a b = true) : a = b := by
  cases a <;> cases b <;> first | rfl | (exact absurd h (by decide))
theorem bne_of_beq {a b : Nat} (h : Nat.beq a b = false) : a ≠ b := Nat.ne_of_beq_eq_false h
noncomputable def isAg (P : Program) (t : TypeId) : Bool := match P.underlying t with | some (.struct _) => true | some (.array ..) => true | _ => false
theorem run_isAg {P : Program} {t : TypeId} {d : TypeDesc} (h : P.underlying t = some d) (w : World) : (isAgg t).run P w = .ok (isAg P t) w := by
  unfold isAgg isAg
  rw [Sem.run_bind, run_underlying h, h]
  cases d <;> rfl
theorem run_sizeOf {P : Program} {t : TypeId} {i : TypeInfo} (h : P.info? t = some i) (w : World) : (sizeOf t).run P w = .ok i.size w := by
  simp [sizeOf, typeInfo, h]
theorem run_zero {P : Program} {t : TypeId} {i : TypeInfo} {z : Value} (h : P.info? t = some i) (hz : i.zero = some z) (w : World) : (zeroValue t).run P w = .ok z w := by
  simp [zeroValue, typeInfo, h, hz]
/-- a part of an aggregate -/
noncomputable def partA (P : Program) (t : TypeId) (c : List AV) (off : Nat) : Option AV :=
  match P.underlying t, P.info? t with
  | some _, some i => bif isAg P t then some (.a (take (drop c off) i.size)) else nth c off
  | _, _ => none
theorem extract_eq (l : List Value) (o n : Nat) : (l.toArray.extract o (o + n)) = ((l.drop o).take n).toArray := by
  apply Array.ext'
  simp
theorem partA_run {P : Program} {t : TypeId} {c : List AV} {off : Nat} {v : AV} {R : Rf} {xs : List Value} (h : partA P t c off = some v) (hc : concL R c = some xs) (w : World) :
    ∃ x, conc R v = some x ∧ (Go.part t xs.toArray off).run P w = .ok x w := by
  unfold partA at h
  split at h
  · rename_i d i hd hi
    unfold Go.part
    simp only [Sem.run_bind, run_isAg hd, Result.andThen_ok]
    cases hb : isAg P t with
    | true =>
      rw [hb] at h
      simp only [cond_true, Option.some.injEq, take_eq, drop_eq] at h; subst h
      refine ⟨_, by rw [conc, concL_take i.size (concL_drop off hc)]; rfl, ?_⟩
      simp only [if_true, Sem.run_bind, run_sizeOf hi, Result.andThen_ok, extract_eq, Sem.run_pure]
    | false =>
      rw [hb] at h
      simp only [cond_false, nth_eq] at h
      obtain ⟨x, h1, h2⟩ := concL_get hc h
      refine ⟨x, h2, ?_⟩
      simp [h1]
  · cases h
theorem partA_isSome {P : Program} {t : TypeId} {c : List AV} {off : Nat} {v : AV} (h : partA P t c off = some v) : ∃ d, P.underlying t = some d := by
  unfold partA at h
  split at h
  · exact ⟨_, ‹_›⟩
  · cases h
noncomputable def eqFs (P : Program) (eq : TypeId → AV → AV → Option Bool) (xs ys : List AV) : List Field → Option Bool
  | [] => some true
  | f :: fs => bif f.name == "_" then eqFs P eq xs ys fs else
    match partA P f.type xs f.offset, partA P f.type ys f.offset with
    | some x, some y => match eq f.type x y with
      | some true => eqFs P eq xs ys fs
      | r => r
    | _, _ => none
noncomputable def eqAr (P : Program) (eq : AV → AV → Option Bool) (e : TypeId) (s : Nat) (xs ys : List AV) : List Nat → Option Bool
  | [] => some true
  | i :: is => match partA P e xs (i * s), partA P e ys (i * s) with
    | some x, some y => match eq x y with
      | some true => eqAr P eq e s xs ys is
      | r => r
    | _, _ => none
noncomputable def aEq (P : Program) : Nat → TypeId → AV → AV → Option Bool
  | 0, _, _, _ => none
  | d + 1, t, x, y => match x, y with
    | .i k a, .i k' b => (match P.underlying t with | some (.int _) => bif kEq k k' then some (iEq a b) else none | _ => none)
    | .s a, .s b => (match P.underlying t with | some .string => some (sEq a b) | _ => none)
    | .b a, .b b => (match P.underlying t with | some .bool => some (a == b) | _ => none)
    | .p0, .p0 => (match P.underlying t with | some (.pointer _) => some true | _ => none)
    | .p0, .p .. => (match P.underlying t with | some (.pointer _) => some false | _ => none)
    | .p .., .p0 => (match P.underlying t with | some (.pointer _) => some false | _ => none)
    | .l0, .l0 => (match P.underlying t with | some (.slice _) => some true | _ => none)
    | .l0, .l .. => (match P.underlying t with | some (.slice _) => some false | _ => none)
    | .l .., .l0 => (match P.underlying t with | some (.slice _) => some false | _ => none)
    | .m0, .m0 => (match P.underlying t with | some (.map ..) => some true | _ => none)
    | .m0, .m .. => (match P.underlying t with | some (.map ..) => some false | _ => none)
    | .m .., .m0 => (match P.underlying t with | some (.map ..) => some false | _ => none)
    | .nf, .nf => (match P.underlying t with | some (.func ..) => some true | _ => none)
    | .nf, .f .. => (match P.underlying t with | some (.func ..) => some false | _ => none)
    | .f .., .nf => (match P.underlying t with | some (.func ..) => some false | _ => none)
    | .a xs, .a ys => (match P.underlying t with
      | some (.struct fs) => bif P.stoodInHeld t then none else eqFs P (aEq P d) xs ys fs.toList
      | some (.array n e) => (match P.info? e with | some i => eqAr P (aEq P d e) e i.size xs ys (List.range n) | none => none)
      | _ => none)
    | _, _ => none
def EqOk (P : Program) (d : Nat) (eq : TypeId → AV → AV → Option Bool) : Prop :=
  ∀ (t : TypeId) (x y : AV) (r : Bool) (R : Rf) (X Y : Value) (w : World), eq t x y = some r → conc R x = some X → conc R y = some Y → (Op.equalIn d t X Y).run P w = .ok r w
theorem eqFs_run {P : Program} {d : Nat} {eq : TypeId → AV → AV → Option Bool} (he : EqOk P d eq) {R : Rf} {xs ys : List AV} {Xs Ys : List Value} (hx : concL R xs = some Xs) (hy : concL R ys = some Ys) (w : World) :
    ∀ (fs : List Field) (r : Bool), eqFs P eq xs ys fs = some r → (Op.eqFields d Xs.toArray Ys.toArray fs).run P w = .ok r w
  | [], r, h => by simp only [eqFs, Option.some.injEq] at h; subst h; rfl
  | f :: fs, r, h => by
    simp only [eqFs] at h
    by_cases hn : f.name = "_"
    · rw [show (f.name == "_") = true by simpa using hn] at h
      simp only [cond_true] at h
      simp only [Op.eqFields, hn, ne_eq, not_true_eq_false, if_false]
      exact eqFs_run he hx hy w fs r h
    · rw [show (f.name == "_") = false by simpa using hn] at h
      simp only [cond_false] at h
      split at h
      · rename_i x y h1 h2
        obtain ⟨X, hX, hrX⟩ := partA_run h1 hx w
        obtain ⟨Y, hY, hrY⟩ := partA_run h2 hy w
        simp only [Op.eqFields, ne_eq, hn, not_false_eq_true, if_true, Sem.run_bind, hrX, hrY, Result.andThen_ok]
        split at h
        · rename_i h3
          rw [he _ _ _ _ R _ _ w h3 hX hY]
          simp only [Result.andThen_ok, Bool.not_true, Bool.false_eq_true, if_false]
          exact eqFs_run he hx hy w fs r h
        · rename_i h3
          cases r with
          | true => exact absurd h h3
          | false => rw [he _ _ _ _ R _ _ w h hX hY]; rfl
      · cases h
theorem eqAr_run {P : Program} {d : Nat} {e : TypeId} {s : Nat} {eq : TypeId → AV → AV → Option Bool} (he : EqOk P d eq) {R : Rf} {xs ys : List AV} {Xs Ys : List Value} (hx : concL R xs = some Xs) (hy : concL R ys = some Ys) (w : World) :
    ∀ (is : List Nat) (r : Bool), eqAr P (eq e) e s xs ys is = some r →
      ((forIn is ((none, ()) : Option Bool × Unit) fun i _ => do
          let a ← Go.part e Xs.toArray (i * s)
          let b ← Go.part e Ys.toArray (i * s)
          let r ← Op.equalIn d e a b
          if (!r) = true then pure (ForInStep.done (some false, ())) else pure (ForInStep.yield (none, ())) : Sem _)).run P w = .ok (if r then (none, ()) else (some false, ())) w
  | [], r, h => by simp only [eqAr, Option.some.injEq] at h; subst h; rfl
  | i :: is, r, h => by
    simp only [eqAr] at h
    split at h
    · rename_i x y h1 h2
      obtain ⟨X, hX, hrX⟩ := partA_run h1 hx w
      obtain ⟨Y, hY, hrY⟩ := partA_run h2 hy w
      simp only [List.forIn_cons, Sem.run_bind, hrX, hrY, Result.andThen_ok]
      split at h
      · rename_i h3
        rw [he _ _ _ _ R _ _ w h3 hX hY]
        simp only [Result.andThen_ok, Bool.not_true, Bool.false_eq_true, if_false, Sem.run_pure]
        exact eqAr_run he hx hy w is r h
      · rename_i h3
        cases r with
        | true => exact absurd h h3
        | false => rw [he _ _ _ _ R _ _ w h hX hY]; simp
    · cases h
theorem conc_p {R : Rf} {b : Ps} {o : Nat} {x : Value} (h : conc R (.p b o) = some x) : ∃ k e, R b = some (k, e) ∧ x = .pointer (some ⟨k, o, none⟩) := by
  simp only [conc, Option.map_eq_some_iff] at h
  obtain ⟨⟨k, e⟩, h1, h2⟩ := h
  exact ⟨k, e, h1, h2.symm⟩
theorem conc_l {R : Rf} {b : Ps} {o n c : Nat} {x : Value} (h : conc R (.l b o n c) = some x) : ∃ k e, R b = some (k, e) ∧ x = .slice (some ⟨k, o, none⟩) n (c + e) := by
  simp only [conc, Option.map_eq_some_iff] at h
  obtain ⟨⟨k, e⟩, h1, h2⟩ := h
  exact ⟨k, e, h1, h2.symm⟩
theorem conc_m {R : Rf} {b : Ps} {x : Value} (h : conc R (.m b) = some x) : ∃ k e, R b = some (k, e) ∧ x = .map (some k) := by
  simp only [conc, Option.map_eq_some_iff] at h
  obtain ⟨⟨k, e⟩, h1, h2⟩ := h
  exact ⟨k, e, h1, h2.symm⟩
theorem conc_f {R : Rf} {g : FuncId} {c : List AV} {x : Value} (h : conc R (.f g c) = some x) : ∃ xs, concL R c = some xs ∧ x = .func (.func g) #[] xs.toArray := by
  simp only [conc, Option.map_eq_some_iff] at h
  obtain ⟨xs, h1, h2⟩ := h
  exact ⟨xs, h1, h2.symm⟩
theorem conc_lx {R : Rf} {b : Ps} {o n c : Nat} {x : Value} (h : conc R (.lx b o n c) = some x) : ∃ k e, R b = some (k, e) ∧ x = .slice (some ⟨k, o, none⟩) n c := by
  simp only [conc, Option.map_eq_some_iff] at h
  obtain ⟨⟨k, e⟩, h1, h2⟩ := h
  exact ⟨k, e, h1, h2.symm⟩
theorem conc_y {R : Rf} {b : Ps} {x : Value} (h : conc R (.y b) = some x) : ∃ k e, R b = some (k, e) ∧ x = .func (.yield k) #[] #[] := by
  simp only [conc, Option.map_eq_some_iff] at h
  obtain ⟨⟨k, e⟩, h1, h2⟩ := h
  exact ⟨k, e, h1, h2.symm⟩
theorem conc_fm {R : Rf} {g : FuncId} {v : AV} {x : Value} (h : conc R (.fm g v) = some x) : ∃ y, conc R v = some y ∧ x = .func (.func g) #[y] #[] := by
  simp only [conc, Option.map_eq_some_iff] at h
  obtain ⟨y, h1, h2⟩ := h
  exact ⟨y, h1, h2.symm⟩
theorem conc_a {R : Rf} {c : List AV} {x : Value} (h : conc R (.a c) = some x) : ∃ xs, concL R c = some xs ∧ x = .agg xs.toArray := by
  simp only [conc, Option.map_eq_some_iff] at h
  obtain ⟨xs, h1, h2⟩ := h
  exact ⟨xs, h1, h2.symm⟩
theorem conc_t {R : Rf} {c : List AV} {x : Value} (h : conc R (.t c) = some x) : ∃ xs, concL R c = some xs ∧ x = .tuple xs.toArray := by
  simp only [conc, Option.map_eq_some_iff] at h
  obtain ⟨xs, h1, h2⟩ := h
  exact ⟨xs, h1, h2.symm⟩
theorem aEq_ok (P : Program) : ∀ (d m : Nat), EqOk P (d + m) (aEq P d)
  | 0, _ => fun t x y r R X Y w h => by cases h
  | d + 1, m => fun t x y r R X Y w h hX hY => by
    have ih := aEq_ok P d m
    rw [show d + 1 + m = (d + m) + 1 by omega]
    unfold aEq at h
    split at h
    case h_1 k a k' b =>
      split at h
      · rename_i k2 hu
        cases hk : kEq k k' with
        | false => rw [hk] at h; cases h
        | true =>
          rw [hk] at h
          simp only [cond_true, Option.some.injEq] at h; subst h
          obtain rfl := kEq_eq hk
          simp only [conc, Option.some.injEq] at hX hY; subst hX; subst hY
          rw [run_equalIn_int w _ t k k2 a b hu, iEq_eq]
      · cases h
    case h_2 a b =>
      split at h
      · rename_i hu
        simp only [Option.some.injEq] at h; subst h
        simp only [conc, Option.some.injEq] at hX hY; subst hX; subst hY
        rw [run_equalIn_string w _ t _ _ hu, bytes_mk, bytes_mk, sEq_eq]
      · cases h
    case h_3 a b =>
      split at h
      · rename_i hu
        simp only [Option.some.injEq] at h; subst h
        simp only [conc, Option.some.injEq] at hX hY; subst hX; subst hY
        rw [run_equalIn_bool w _ t _ _ hu]
      · cases h
    case h_16 xs ys =>
      obtain ⟨Xs, hXs, rfl⟩ := conc_a hX
      obtain ⟨Ys, hYs, rfl⟩ := conc_a hY
      split at h
      · rename_i fs hu
        cases hp : P.stoodInHeld t with
        | true => rw [hp] at h; cases h
        | false =>
          rw [hp] at h
          simp only [cond_false] at h
          have hf : P.fieldsOf t = fs := by unfold Program.fieldsOf; rw [hu]
          rw [run_equalIn_struct w _ t _ _ (by rw [hf]; exact hu) hp, hf]
          exact eqFs_run ih hXs hYs w _ _ h
      · rename_i n e hu
        split at h
        · rename_i i hi
          have hr := eqAr_run (e := e) (s := i.size) ih hXs hYs w _ _ h
          simp only [Op.equalIn, Sem.run_bind, run_underlying hu, Result.andThen_ok, run_sizeOf hi]
          rw [Std.Legacy.Range.forIn_eq_forIn_range']
          simp only [Std.Legacy.Range.size, Nat.sub_zero, Nat.add_sub_cancel, Nat.div_one, ← List.range_eq_range']
          rw [hr]
          cases r <;> rfl
        · cases h
      · cases h
    all_goals first
      | (cases h; done)
      | (split at h
         · rename_i hu
           simp only [Option.some.injEq] at h; subst h
           simp only [conc, Option.map_eq_some_iff, Option.some.injEq] at hX hY
           first
             | (subst hX; subst hY; simp [Op.equalIn, run_underlying hu]; done)
             | (subst hX; obtain ⟨q, _, rfl⟩ := hY; simp [Op.equalIn, run_underlying hu]; done)
             | (subst hY; obtain ⟨q, _, rfl⟩ := hX; simp [Op.equalIn, run_underlying hu]; done)
         · cases h)
end Go.Ev
