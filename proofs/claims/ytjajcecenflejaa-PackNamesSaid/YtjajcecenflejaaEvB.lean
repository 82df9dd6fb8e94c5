/- A machine that runs a Go text by reckoning: values, memory, what they stand for. Of no program. -/
import Derived.Test.YtjajcecenflejaaEvA
import Derived.Below
namespace Go.Ev

/-- values, their blocks by keys -/
inductive AV where
  | b (x : Bool) | i (k : IntKind) (n : Int) | s (l : List UInt8) | p0 | p (b : Ps) (off : Nat) | gp (g off : Nat) | l0 | l (b : Ps) (off len cap : Nat) | le (b : Ps) (off off2 : Nat) | m0 | m (b : Ps)
  | f (f : FuncId) (c : List AV) | fm (f : FuncId) (v : AV) | nf | ni | a (c : List AV) | t (c : List AV) | y (b : Ps) | lx (b : Ps) (off len cap : Nat) | mo (t : TypeId) (m : String)
/-- what a block holds. cells: what is known of a row, and whether it is all of it -/
inductive AO where
  | cells (c : List AV) (e : TypeId) (ex : Bool)
  | map (es : List (AV × AV × Nat)) (clock : Nat)
  | iter (m : Ps) (n : Nat) (seen : List Nat) (last : Nat)
  | iter0
  | ro (c : List AV) (e : TypeId)
  | dead
  | loop (st : LoopState) (pe : Option Code) (N : Nat) (ts : List AV) (ps : List Tmp) (as bd : Code)
structure S where
  h : PT AO
  n : Ps
abbrev Fr := Nat → AV
/-- where a block lies, and how many elements it has beyond what is known -/
abbrev Rf := Ps → Option (Nat × Nat)

mutual
def conc (R : Rf) : AV → Option Value
  | .b x => some (.bool x)
  | .i k n => some (.int k n)
  | .s l => some (.string ⟨l.toArray⟩)
  | .p0 => some (.pointer none)
  | .p b o => (R b).map fun x => .pointer (some ⟨x.1, o, none⟩)
  | .gp g o => some (.pointer (some ⟨g, o, none⟩))
  | .l0 => some (.slice none 0 0)
  | .l b o n c => (R b).map fun x => .slice (some ⟨x.1, o, none⟩) n (c + x.2)
  | .le b o o' => (R b).map fun x => .slice (some ⟨x.1, (if x.2 = 0 then o else o'), none⟩) 0 x.2
  | .m0 => some (.map none)
  | .m b => (R b).map fun x => .map (some x.1)
  | .f g c => (concL R c).map fun xs => .func (.func g) #[] xs.toArray
  | .fm g v => (conc R v).map fun x => .func (.func g) #[x] #[]
  | .nf => some .nilFunc
  | .ni => some .nilIface
  | .a c => (concL R c).map fun xs => .agg xs.toArray
  | .t c => (concL R c).map fun xs => .tuple xs.toArray
  | .y b => (R b).map fun x => .func (.yield x.1) #[] #[]
  | .lx b o n c => (R b).map fun x => .slice (some ⟨x.1, o, none⟩) n c
  | .mo t m => some (.func (.methodOf t m) #[] #[])
def concL (R : Rf) : List AV → Option (List Value)
  | [] => some []
  | v :: l => match conc R v, concL R l with
    | some x, some xs => some (x :: xs)
    | _, _ => none
end
def Rf.le (R R' : Rf) : Prop := ∀ b x, R b = some x → R' b = some x
theorem Rf.le_refl (R : Rf) : R.le R := fun _ _ h => h
theorem Rf.le_trans {R R' R'' : Rf} (h : R.le R') (h' : R'.le R'') : R.le R'' := fun b x e => h' b x (h b x e)
mutual
theorem conc_mono {R R' : Rf} (h : R.le R') : ∀ (v : AV) (x : Value), conc R v = some x → conc R' v = some x
  | .b _, _, e => e
  | .i .., _, e => e
  | .s _, _, e => e
  | .p0, _, e => e
  | .p b o, x, e => by
    simp only [conc, Option.map_eq_some_iff] at e ⊢
    obtain ⟨y, h1, h2⟩ := e
    exact ⟨y, h _ _ h1, h2⟩
  | .gp .., _, e => e
  | .l0, _, e => e
  | .l b o n c, x, e => by
    simp only [conc, Option.map_eq_some_iff] at e ⊢
    obtain ⟨y, h1, h2⟩ := e
    exact ⟨y, h _ _ h1, h2⟩
  | .le b o o', x, e => by
    simp only [conc, Option.map_eq_some_iff] at e ⊢
    obtain ⟨y, h1, h2⟩ := e
    exact ⟨y, h _ _ h1, h2⟩
  | .m0, _, e => e
  | .m b, x, e => by
    simp only [conc, Option.map_eq_some_iff] at e ⊢
    obtain ⟨y, h1, h2⟩ := e
    exact ⟨y, h _ _ h1, h2⟩
  | .f g c, x, e => by
    simp only [conc, Option.map_eq_some_iff] at e ⊢
    obtain ⟨y, h1, h2⟩ := e
    exact ⟨y, concL_mono h c y h1, h2⟩
  | .fm g v, x, e => by
    simp only [conc, Option.map_eq_some_iff] at e ⊢
    obtain ⟨y, h1, h2⟩ := e
    exact ⟨y, conc_mono h v y h1, h2⟩
  | .nf, _, e => e
  | .ni, _, e => e
  | .mo .., _, e => e
  | .a c, x, e => by
    simp only [conc, Option.map_eq_some_iff] at e ⊢
    obtain ⟨y, h1, h2⟩ := e
    exact ⟨y, concL_mono h c y h1, h2⟩
  | .t c, x, e => by
    simp only [conc, Option.map_eq_some_iff] at e ⊢
    obtain ⟨y, h1, h2⟩ := e
    exact ⟨y, concL_mono h c y h1, h2⟩
  | .y b, x, e => by
    simp only [conc, Option.map_eq_some_iff] at e ⊢
    obtain ⟨y, h1, h2⟩ := e
    exact ⟨y, h _ _ h1, h2⟩
  | .lx b o n c, x, e => by
    simp only [conc, Option.map_eq_some_iff] at e ⊢
    obtain ⟨y, h1, h2⟩ := e
    exact ⟨y, h _ _ h1, h2⟩
theorem concL_mono {R R' : Rf} (h : R.le R') : ∀ (l : List AV) (xs : List Value), concL R l = some xs → concL R' l = some xs
  | [], _, e => e
  | v :: l, xs, e => by
    simp only [concL] at e
    split at e
    · rename_i x ys h1 h2
      simp only [concL, conc_mono h v x h1, concL_mono h l ys h2]; exact e
    · cases e
end
theorem concL_cons {R : Rf} {v : AV} {l : List AV} {xs : List Value} : concL R (v :: l) = some xs ↔ ∃ x ys, conc R v = some x ∧ concL R l = some ys ∧ xs = x :: ys := by
  simp only [concL]
  constructor
  · intro e
    split at e
    · rename_i x ys h1 h2; simp at e; exact ⟨x, ys, h1, h2, e.symm⟩
    · cases e
  · rintro ⟨x, ys, h1, h2, rfl⟩; simp [h1, h2]
theorem concL_len {R : Rf} : ∀ {l : List AV} {xs : List Value}, concL R l = some xs → xs.length = l.length
  | [], _, e => by simp [concL] at e; subst e; rfl
  | v :: l, xs, e => by
    obtain ⟨x, ys, _, h2, rfl⟩ := concL_cons.1 e
    simp [concL_len h2]
theorem concL_get {R : Rf} : ∀ {l : List AV} {xs : List Value} {n : Nat} {v : AV}, concL R l = some xs → l[n]? = some v → ∃ x, xs[n]? = some x ∧ conc R v = some x
  | [], _, _, _, _, h => by simp at h
  | a :: l, xs, 0, v, e, h => by
    obtain ⟨x, ys, h1, h2, rfl⟩ := concL_cons.1 e
    simp at h; subst h
    exact ⟨x, rfl, h1⟩
  | a :: l, xs, n + 1, v, e, h => by
    obtain ⟨x, ys, h1, h2, rfl⟩ := concL_cons.1 e
    simpa using concL_get h2 (by simpa using h)
theorem concL_app {R : Rf} : ∀ {l m : List AV} {xs ys : List Value}, concL R l = some xs → concL R m = some ys → concL R (l ++ m) = some (xs ++ ys)
  | [], _, _, _, e, h => by simp [concL] at e; subst e; simpa using h
  | a :: l, m, xs, ys, e, h => by
    obtain ⟨x, zs, h1, h2, rfl⟩ := concL_cons.1 e
    rw [List.cons_append, List.cons_append]
    exact concL_cons.2 ⟨x, zs ++ ys, h1, concL_app h2 h, rfl⟩
theorem concL_take {R : Rf} : ∀ {l : List AV} {xs : List Value} (n : Nat), concL R l = some xs → concL R (l.take n) = some (xs.take n)
  | _, _, 0, _ => by simp [concL]
  | [], xs, n + 1, e => by simp [concL] at e; subst e; simp [concL]
  | a :: l, xs, n + 1, e => by
    obtain ⟨x, zs, h1, h2, rfl⟩ := concL_cons.1 e
    rw [List.take_succ_cons, List.take_succ_cons]
    exact concL_cons.2 ⟨x, _, h1, concL_take n h2, rfl⟩
theorem concL_drop {R : Rf} : ∀ {l : List AV} {xs : List Value} (n : Nat), concL R l = some xs → concL R (l.drop n) = some (xs.drop n)
  | _, _, 0, e => by simpa using e
  | [], xs, n + 1, e => by simp [concL] at e; subst e; simp [concL]
  | a :: l, xs, n + 1, e => by
    obtain ⟨x, zs, h1, h2, rfl⟩ := concL_cons.1 e
    rw [List.drop_succ_cons, List.drop_succ_cons]
    exact concL_drop n h2
theorem concL_map {α : Type} {R : Rf} (f : α → Option AV) (g : α → Value) (h : ∀ a v, f a = some v → conc R v = some (g a)) : ∀ {l : List α} {vs : List AV}, l.mapM f = some vs → concL R vs = some (l.map g)
  | [], vs, e => by simp at e; subst e; simp [concL]
  | a :: l, vs, e => by
    simp only [List.mapM_cons, Option.bind_eq_bind, Option.bind_eq_some_iff] at e
    obtain ⟨v, h1, us, h2, e⟩ := e
    simp at e; subst e
    exact concL_cons.2 ⟨_, _, h a v h1, concL_map f g h h2, rfl⟩

/-! ## frames -/
def und : AV := .t []
def getF (fr : Fr) (t : Nat) : AV := fr t
/-- a frame with a slot written -/
def setF (fr : Fr) (t : Nat) (v : AV) : Fr := fun u => bif Nat.beq u t then v else fr u
def putF (fr : Fr) (d : Option Tmp) (v : AV) : Fr := match d with | some t => setF fr t v | none => fr
structure FrR (R : Rf) (fr : Fr) (a : Act) : Prop where
  at_ : ∀ t, conc R (getF fr t) = some (a.tmps.getD t undef)
theorem FrR.mono {R R' : Rf} {fr : Fr} {a : Act} (h : FrR R fr a) (hr : R.le R') : FrR R' fr a := ⟨fun t => conc_mono hr _ _ (h.at_ t)⟩
theorem getF_set_ne (fr : Fr) {t u : Nat} (v : AV) (h : u ≠ t) : getF (setF fr u v) t = getF fr t := by
  unfold getF setF
  cases hb : Nat.beq t u with
  | false => rfl
  | true => exact absurd (Nat.eq_of_beq_eq_true hb).symm h
theorem getF_set (fr : Fr) (t : Nat) (v : AV) : getF (setF fr t v) t = v := by
  unfold getF setF
  rw [Nat.beq_refl]; rfl
theorem FrR.put {R : Rf} {fr : Fr} {a : Act} {d : Option Tmp} {v : AV} {x : Value} (h : FrR R fr a) (hd : ∀ t, d = some t → t < a.tmps.size) (hx : conc R v = some x) :
    FrR R (putF fr d v) (a.put d x) ∧ (a.put d x).tmps.size = a.tmps.size := by
  cases d with
  | none => exact ⟨h, rfl⟩
  | some u =>
    have hu := hd u rfl
    refine ⟨⟨fun t => ?_⟩, by simp [Act.put]⟩
    by_cases e : u = t
    · subst e
      simp only [putF, Act.put, getF_set, Array.getD_eq_getD_getElem?, Array.getElem?_setIfInBounds_self_of_lt hu, Option.getD_some]
      exact hx
    · simp only [putF, Act.put, getF_set_ne fr v e, Array.getD_eq_getD_getElem?, Array.getElem?_setIfInBounds_ne e]
      rw [← Array.getD_eq_getD_getElem?]; exact h.at_ t

/-! ## memory -/
def entC (R : Rf) : List (AV × AV × Nat) → Option (List MapEntry)
  | [] => some []
  | (k, v, n) :: l => match conc R k, conc R v, entC R l with
    | some x, some y, some es => some (⟨x, y, n⟩ :: es)
    | _, _, _ => none
theorem entC_mono {R R' : Rf} (h : R.le R') : ∀ (l : List (AV × AV × Nat)) (es : List MapEntry), entC R l = some es → entC R' l = some es
  | [], _, e => e
  | (k, v, n) :: l, es, e => by
    simp only [entC] at e
    split at e
    · rename_i x y zs h1 h2 h3
      simp only [entC, conc_mono h _ _ h1, conc_mono h _ _ h2, entC_mono h l zs h3]; exact e
    · cases e
/-- what block k, of x elements beyond what is known, holds -/
def HObj (P : Program) (R : Rf) (w : World) (k x : Nat) : AO → Prop
  | .cells c e ex => ∃ xs tail, concL R c = some xs ∧ w.heap[k]? = some (.cells (xs ++ tail).toArray e (0, 0)) ∧ tail.length = x * P.cellsOf e ∧ (ex = true → x = 0)
  | .map es cl => ∃ ys, entC R es = some ys ∧ w.heap[k]? = some (.map ys.toArray cl)
  | .iter m n seen last => ∃ y, R m = some y ∧ w.heap[k]? = some (.mapIter (some y.1) n seen.reverse.toArray last)
  | .iter0 => w.heap[k]? = some (.mapIter none 0 #[] 0)
  | .ro c e => ∃ xs tail fz, concL R c = some xs ∧ w.heap[k]? = some (.cells (xs ++ tail).toArray e fz)
  | .dead => True
  | .loop st pe N ts ps as bd => ∃ xs fn df, concL R ts = some xs ∧ xs.length = N ∧ w.heap[k]? = some (.loop { state := st, pending := pe, fn := fn, tmps := xs.toArray, params := ps.toArray, assign := as, body := bd, defers := df })
def AO.live : AO → Bool
  | .dead => false
  | _ => true
/-- The blocks of a set are as they were; the streams are; no block has gone. -/
structure Kept (B : Nat → Prop) (w w' : World) : Prop where
  os : w'.os = w.os
  tape : w'.tape = w.tape
  output : w'.output = w.output
  size : w.heap.size ≤ w'.heap.size
  block : ∀ k, B k → w'.heap[k]? = w.heap[k]?
theorem Kept.refl (B : Nat → Prop) (w : World) : Kept B w w := ⟨rfl, rfl, rfl, Nat.le_refl _, fun _ _ => rfl⟩
theorem Kept.trans {B : Nat → Prop} {a b c : World} (h : Kept B a b) (k : Kept B b c) : Kept B a c :=
  ⟨k.os.trans h.os, k.tape.trans h.tape, k.output.trans h.output, Nat.le_trans h.size k.size, fun i hi => (k.block i hi).trans (h.block i hi)⟩
theorem Kept.drew {B : Nat → Prop} {a w : World} (h : Kept B a w) : Kept B a w.drew := ⟨h.os, h.tape, h.output, h.size, h.block⟩
theorem Kept.alloc {B : Nat → Prop} {a w : World} (h : Kept B a w) (hB : ∀ k, B k → k < w.heap.size) (o : Obj) : Kept B a (w.alloc o) :=
  h.trans ⟨rfl, rfl, rfl, by simp, fun k hk => RowKit.Below.heap_alloc _ _ _ (hB k hk)⟩
theorem Kept.of_below {B : Nat → Prop} {w w' : World} {n : Nat} (h : RowKit.Below n w w') (hB : ∀ k, B k → k < n) : Kept B w w' := ⟨h.os, h.tape, h.output, h.size, fun k hk => h.block k (hB k hk)⟩
theorem Kept.below {w w' : World} {n : Nat} (h : Kept (fun k => k < n) w w') : RowKit.Below n w w' := ⟨h.os, h.tape, h.output, h.size, h.block⟩
/-- blocks that are told ahead, and lie nowhere yet -/
abbrev Dn := List (Ps × AO)
structure Rel (P : Program) (B : Nat → Prop) (W : World) (D : Dn) (R : Rf) (h : PT AO) (w : World) : Prop where
  obj : ∀ b o k x, h.get b = some o → R b = some (k, x) → HObj P R w k x o
  pend : ∀ b o, (b, o) ∈ D → h.get b = some o ∧ R b = none
  nd : (D.map (·.1)).Nodup
  inj : ∀ b b' o o' k x x', h.get b = some o → h.get b' = some o' → o.live = true → o'.live = true → R b = some (k, x) → R b' = some (k, x') → b = b'
  new : ∀ b, h.get b = none → R b = none
  lo : ∀ b k x, R b = some (k, x) → ¬ B k ∧ k < w.heap.size
  base : ∀ k, B k → k < w.heap.size
  old : Kept B W w
theorem HObj.mono {P : Program} {R R' : Rf} {w w' : World} {k x : Nat} {o : AO} (h : HObj P R w k x o) (hr : R.le R') (hw : w'.heap[k]? = w.heap[k]?) : HObj P R' w' k x o := by
  cases o with
  | cells c e ex => obtain ⟨xs, tail, h1, h2, h3⟩ := h; exact ⟨xs, tail, concL_mono hr _ _ h1, hw.trans h2, h3⟩
  | map es cl => obtain ⟨ys, h1, h2⟩ := h; exact ⟨ys, entC_mono hr _ _ h1, hw.trans h2⟩
  | iter m n seen last => obtain ⟨y, h1, h2⟩ := h; exact ⟨y, hr _ _ h1, hw.trans h2⟩
  | iter0 => exact hw.trans h
  | ro c e => obtain ⟨xs, tail, fz, h1, h2⟩ := h; exact ⟨xs, tail, fz, concL_mono hr _ _ h1, hw.trans h2⟩
  | dead => trivial
  | loop st pe N ts ps as bd => obtain ⟨xs, fn, df, h1, h2, h3⟩ := h; exact ⟨xs, fn, df, concL_mono hr _ _ h1, h2, hw.trans h3⟩
end Go.Ev
