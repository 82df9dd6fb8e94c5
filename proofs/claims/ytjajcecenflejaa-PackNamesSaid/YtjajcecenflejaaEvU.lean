/- A machine that runs a Go text by reckoning: functions of the library that are told, soundly. Of no program. -/
import Derived.Test.YtjajcecenflejaaEvT
import Derived.Shelf.SlIter.Nil
namespace Go.Ev
open Go.RowKit Go.Maps Go.Sort Go.Proofs

theorem sortU_perm : ∀ l, (sortU l).Perm l
  | [] => .nil
  | x :: l => by
    have h : ∀ m, (insU x m).Perm (x :: m) := by
      intro m
      induction m with
      | nil => exact .refl _
      | cons y m ih =>
        show (bif decide (x ≤ y) then x :: y :: m else y :: insU x m).Perm _
        cases decide (x ≤ y) with
        | true => exact .refl _
        | false => exact (ih.cons y).trans (.swap ..)
    exact (h _).trans ((sortU_perm l).cons x)
theorem insU_sorted (x : List UInt8) : ∀ m, m.Pairwise (fun a b => leB a b = true) → (insU x m).Pairwise (fun a b => leB a b = true)
  | [], _ => by simp [insU]
  | y :: m, h => by
    show (bif decide (x ≤ y) then x :: y :: m else y :: insU x m).Pairwise _
    cases hd : decide (x ≤ y) with
    | true =>
      have hxy : x ≤ y := by simpa using hd
      refine List.pairwise_cons.2 ⟨fun z hz => ?_, h⟩
      rcases List.mem_cons.1 hz with rfl | hz
      · simpa [leB] using hxy
      · have := (List.pairwise_cons.1 h).1 z hz
        simp only [leB, decide_eq_true_eq] at this ⊢
        exact List.le_trans hxy this
    | false =>
      have hxy : ¬ x ≤ y := by simpa using hd
      have hyx : y ≤ x := (List.le_total x y).resolve_left hxy
      refine List.pairwise_cons.2 ⟨fun z hz => ?_, insU_sorted x m (List.pairwise_cons.1 h).2⟩
      have hp : ∀ m, (insU x m).Perm (x :: m) := by
        intro m
        induction m with
        | nil => exact .refl _
        | cons y m ih =>
          show (bif decide (x ≤ y) then x :: y :: m else y :: insU x m).Perm _
          cases decide (x ≤ y) with
          | true => exact .refl _
          | false => exact (ih.cons y).trans (.swap ..)
      rcases List.mem_cons.1 ((hp m).mem_iff.1 hz) with rfl | hz
      · simpa [leB] using hyx
      · exact (List.pairwise_cons.1 h).1 z hz
theorem sortU_sorted : ∀ l, (sortU l).Pairwise (fun a b => leB a b = true)
  | [] => .nil
  | x :: l => insU_sorted x _ (sortU_sorted l)
theorem sortU_eq {l m : List (List UInt8)} (h : m.Perm l) : m.mergeSort leB = sortU l := by
  have tr : ∀ a b c : List UInt8, leB a b = true → leB b c = true → leB a c = true := fun a b c h1 h2 => by simp only [leB, decide_eq_true_eq] at *; exact List.le_trans h1 h2
  have to : ∀ a b : List UInt8, (leB a b || leB b a) = true := fun a b => by simp only [leB, Bool.or_eq_true, decide_eq_true_eq]; exact List.le_total a b
  refine List.Perm.eq_of_pairwise (le := fun a b => leB a b = true) (fun a b _ _ h1 h2 => ?_) (List.pairwise_mergeSort tr to m) (sortU_sorted l) (((List.mergeSort_perm m leB).trans h).trans (sortU_perm l).symm)
  simp only [leB, decide_eq_true_eq] at h1 h2
  exact List.le_antisymm h1 h2
theorem strsA_spec {R : Rf} : ∀ {c : List AV} {l : List (List UInt8)}, strsA c = some l → concL R c = some (l.map encStr)
  | [], l, h => by
    have h' : some [] = some l := h
    simp only [Option.some.injEq] at h'; subst h'; rfl
  | v :: c, l, h => by
    have h' : (match v with | .s x => (match strsA c with | some l => some (x :: l) | none => none) | _ => none) = some l := by
      cases v <;> exact h
    cases v <;> try cases h'
    rename_i x
    dsimp only at h'
    split at h'
    · rename_i m hm
      simp only [Option.some.injEq] at h'; subst h'
      exact concL_cons.2 ⟨encStr x, _, rfl, strsA_spec hm, rfl⟩
    · cases h'
theorem shortU_spec {l : List (List UInt8)} (h : shortU l = true) : l.length ≤ 1000000000000 ∧ ∀ x ∈ l, x.length ≤ 1000000000000 := by
  have h0 : (bif Nat.ble (len l) 1000000000000 then List.rec true (fun x _ ih => bif Nat.ble (len x) 1000000000000 then ih else false) l else false) = true := h
  cases h1 : Nat.ble (len l) 1000000000000 with
  | false => rw [h1] at h0; cases h0
  | true =>
    rw [h1, cond_true] at h0
    have h2 := ble_le h1
    rw [len_eq] at h2
    refine ⟨h2, ?_⟩
    clear h h1 h2
    induction l with
    | nil => intro x hx; cases hx
    | cons y l ih =>
      have h3 : (bif Nat.ble (len y) 1000000000000 then List.rec true (fun x _ ih => bif Nat.ble (len x) 1000000000000 then ih else false) l else false) = true := h0
      cases h4 : Nat.ble (len y) 1000000000000 with
      | false => rw [h4] at h3; cases h3
      | true =>
        rw [h4, cond_true] at h3
        have h5 := ble_le h4
        rw [len_eq] at h5
        intro x hx
        rcases List.mem_cons.1 hx with rfl | hx
        · exact h5
        · exact ih h3 x hx
section
variable {P : Program} {B : Nat → Prop} {W : World} {D : Dn} {R : Rf} {w w' : World}
/-- what a call that only makes memory leaves behind -/
theorem Rel.below {h : PT AO} (r : Rel P B W D R h w) (hb : Below w.heap.size w w') : Rel P B W D R h w' := by
  refine ⟨fun b o k x e hk => (r.obj b o k x e hk).mono R.le_refl (hb.block k (r.lo b k x hk).2), r.pend, r.nd, r.inj, r.new, fun b k x e => ?_, (fun k hk => Nat.lt_of_lt_of_le (r.base k hk) hb.size), r.old.trans (Kept.of_below hb r.base)⟩
  have := r.lo b k x e
  exact ⟨this.1, Nat.lt_of_lt_of_le this.2 hb.size⟩
/-- and a block of its own that is ours now -/
theorem Rel.came {h : PT AO} (r : Rel P B W D R h w) (hb : Below w.heap.size w w') {p : Ps} (hp : h.get p = none) {o : AO} {k0 x0 : Nat} (hk1 : w.heap.size ≤ k0) (hk2 : k0 < w'.heap.size)
    (ho : HObj P (R.put p (k0, x0)) w' k0 x0 o) : Rel P B W D (R.put p (k0, x0)) (h.set (some o) p) w' ∧ R.le (R.put p (k0, x0)) := by
  have hn := r.new p hp
  have hle := Rf.le_put (k0, x0) hn
  have r' := r.below hb
  refine ⟨⟨?_, ?_, r.nd, ?_, ?_, ?_, r'.base, r'.old⟩, hle⟩
  · intro b o' k y e hk
    by_cases hb : p = b
    · subst hb
      rw [PT.get_set] at e
      simp only [Option.some.injEq] at e; subst e
      rw [Rf.put_at] at hk
      simp only [Option.some.injEq, Prod.mk.injEq] at hk
      obtain ⟨rfl, rfl⟩ := hk
      exact ho
    · rw [PT.get_set_ne _ _ _ _ hb] at e
      rw [Rf.put_ne R _ (fun e => hb e.symm)] at hk
      exact (r'.obj b o' k y e hk).mono hle rfl
  · intro b o' hm
    obtain ⟨g1, g2⟩ := r.pend b o' hm
    have hne : p ≠ b := fun e => by subst e; rw [hp] at g1; cases g1
    exact ⟨by rw [PT.get_set_ne _ _ _ _ hne]; exact g1, by rw [Rf.put_ne R _ (fun e => hne e.symm)]; exact g2⟩
  · intro b b' o1 o2 k y y' e1 e2 l1 l2 r1 r2
    by_cases hb : p = b
    · subst hb
      by_cases hb' : p = b'
      · exact hb'
      · rw [Rf.put_at] at r1
        rw [Rf.put_ne R _ (fun e => hb' e.symm)] at r2
        simp only [Option.some.injEq, Prod.mk.injEq] at r1
        have := (r.lo b' k y' r2).2; omega
    · rw [Rf.put_ne R _ (fun e => hb e.symm)] at r1
      by_cases hb' : p = b'
      · subst hb'
        rw [Rf.put_at] at r2
        simp only [Option.some.injEq, Prod.mk.injEq] at r2
        have := (r.lo b k y r1).2; omega
      · rw [Rf.put_ne R _ (fun e => hb' e.symm)] at r2
        rw [PT.get_set_ne _ _ _ _ hb] at e1
        rw [PT.get_set_ne _ _ _ _ hb'] at e2
        exact r.inj b b' o1 o2 k y y' e1 e2 l1 l2 r1 r2
  · intro b e
    by_cases hb : p = b
    · subst hb; rw [PT.get_set] at e; cases e
    · rw [PT.get_set_ne _ _ _ _ hb] at e
      rw [Rf.put_ne R _ (fun e => hb e.symm)]; exact r.new b e
  · intro b k y e
    by_cases hb : b = p
    · subst hb; rw [Rf.put_at] at e
      simp only [Option.some.injEq, Prod.mk.injEq] at e
      obtain ⟨rfl, rfl⟩ := e
      exact ⟨fun hB => by have := r.base _ hB; omega, hk2⟩
    · rw [Rf.put_ne R _ hb] at e
      exact r'.lo b k y e
theorem came_one {v : AV} {s' : S} {X : Value} (h : Came P B W D R w [(v, s')] X w') : CameK P B W D R w (fun u t => u = v ∧ t = s') X w' := by
  obtain ⟨u, t, R', h1, h2⟩ := h
  have : (u, t) = (v, s') := by simpa using h1
  simp only [Prod.mk.injEq] at this
  exact ⟨u, t, R', this, h2⟩
theorem rowU_run {s s' : S} (r : Rel P B W D R s.h w) {st : TypeId} (hst : P.cellsOf st = 1) {l : List (List UInt8)} {v : AV} (h : rowU st l s = some (v, s')) {V : Value}
    (hown : w'.ownsRow w.heap.size st 1 V l.length (l.map encStr)) (hnil : V = .slice none 0 0 ↔ l = []) (hb : Below w.heap.size w w') : Came P B W D R w [(v, s')] V w' := by
  cases l with
  | nil =>
    have h' : some (AV.l0, s) = some (v, s') := h
    simp only [Option.some.injEq, Prod.mk.injEq] at h'
    obtain ⟨rfl, rfl⟩ := h'
    have hV := hnil.2 rfl
    subst hV
    exact ⟨.l0, s, R, List.mem_cons_self, R.le_refl, rfl, r.below hb, Kept.of_below hb r.base⟩
  | cons x l =>
    unfold rowU at h
    dsimp only at h
    split at h
    · rename_i p s2 hn
      simp only [Option.some.injEq, Prod.mk.injEq] at h
      obtain ⟨rfl, rfl⟩ := h
      obtain ⟨n1, n2⟩ := newO_spec hn
      rcases hown.2 with ⟨hV, _⟩ | ⟨g, cap, cur, rfl, hbase, hgb, r1, r2, r3, r4⟩
      · exact absurd (hnil.1 hV) (by simp)
      · have hlt : g < w'.heap.size := (Array.getElem?_eq_some_iff.1 hgb).1
        have hc : ∀ R' : Rf, concL R' ((x :: l).map AV.s) = some ((x :: l).map encStr) := by
          intro R'
          generalize x :: l = m
          induction m with
          | nil => rfl
          | cons y m ih => exact concL_cons.2 ⟨encStr y, _, rfl, ih, rfl⟩
        have hcur : cur = ((x :: l).map encStr ++ cur.toList.drop (x :: l).length).toArray := by
          apply Array.ext'
          simp only []
          rw [← r4, Nat.mul_one, List.take_append_drop]
        obtain ⟨q1, q2⟩ := r.came hb n1 (o := .cells ((x :: l).map .s) st false) (x0 := cap - (x :: l).length) hbase hlt ⟨(x :: l).map encStr, cur.toList.drop (x :: l).length, hc _, by rw [← hcur]; exact hgb, by
          rw [hst, List.length_drop, Array.length_toList, r3]; omega, fun e => by cases e⟩
        refine ⟨_, s2, _, List.mem_cons_self, q2, ?_, by rw [n2]; exact q1, Kept.of_below hb r.base⟩
        simp only [conc, Rf.put_at, Option.map_some, len_eq]
        rw [Nat.add_sub_cancel' r1]
    · cases h
/-- what slices.AppendSeq does with slices.Values -/
def AppVals (P : Program) (st g g0 : Nat) : Prop := ∀ (Bm b off cap : Nat) (xs : List (List UInt8)) (w : World), xs.length ≤ 8000000000000 → Bm < w.heap.size → b < w.heap.size →
  w.cell? ⟨Bm, 0, none⟩ = some (.slice (some ⟨b, off, none⟩) xs.length cap) → (∀ (i : Nat) (h : i < xs.length), w.cell? ⟨b, off + i, none⟩ = some (encStr xs[i])) →
  Calls P g #[.slice none 0 0, .func (.func g0) #[] #[.pointer (some ⟨Bm, 0, none⟩)]] w fun e w' => ∃ v, e = .returned v ∧ w'.ownsRow w.heap.size st 1 v xs.length (xs.map encStr) ∧ (v = .slice none 0 0 ↔ xs = []) ∧ Below w.heap.size w w'
/-- the one cell of a box -/
theorem box_cell {h : PT AO} (r : Rel P B W D R h w) {b : Ps} {v : AV} {e : TypeId} {ex : Bool} (hb : h.get b = some (.cells [v] e ex)) {y : Nat × Nat} (hy : R b = some y) : ∃ k X, R b = some (k, 0) ∧ conc R v = some X ∧ w.cell? ⟨k, 0, none⟩ = some X ∧ k < w.heap.size ∨ ex = false := by
  obtain ⟨k, x, xs, tail, h1, h2, h3, _, h5⟩ := cells_at r hb hy
  cases ex with
  | false => exact ⟨0, .nilFunc, .inr rfl⟩
  | true =>
    obtain ⟨X, ys, x1, x2, rfl⟩ := concL_cons.1 h2
    obtain rfl := h5 rfl
    exact ⟨k, X, .inl ⟨h1, x1, by simp [World.cell?, h3], (r.lo b k 0 h1).2⟩⟩
theorem appSeq_ok {st g g0 : Nat} (hst : P.cellsOf st = 1) (hen : ∀ args w, (callFunc g args).run P w = .ok (.enter g args) w) (hc : AppVals P st g g0) : IntrOk P B W g (appSeqI st g0) := by
  intro vs s s' v h D R w xs r hx
  refine ⟨hen _ _, ?_⟩
  unfold appSeqI at h
  split at h
  · rename_i g' b
    cases hg : Nat.beq g' g0 with
    | false => rw [hg] at h; cases h
    | true =>
      rw [hg, cond_true] at h
      have hg' := Nat.eq_of_beq_eq_true hg
      subst hg'
      split at h
      · rename_i b' o n c e hb
        split at h
        · rename_i cs hcs
          split at h
          · rename_i l hl
            cases hs : shortU l with
            | false => rw [hs] at h; cases h
            | true =>
              rw [hs, cond_true] at h
              obtain ⟨s1, s2⟩ := shortU_spec hs
              obtain ⟨x0, x1, z1, z2, rfl⟩ := concL_cons.1 hx
              obtain ⟨x2, x3, z3, z4, rfl⟩ := concL_cons.1 z2
              have z3' := z3
              simp only [conc, concL] at z3'
              obtain ⟨yb, hyb⟩ : ∃ y, R b = some y := by
                cases hRb : R b with
                | none => rw [hRb] at z3'; cases z3'
                | some y => exact ⟨y, rfl⟩
              clear z3'
              obtain ⟨k, X, hk⟩ := box_cell r hb hyb
              obtain ⟨k1, k2, k3, k4⟩ := hk.resolve_right (by simp)
              obtain ⟨kb0, eb0, hkb0, _⟩ := conc_l k2
              obtain ⟨kb, xb, ys, y1, y2, y3, y4⟩ := ldN_run r hcs hkb0
              have hys : ys = l.map encStr := by
                have := strsA_spec (R := R) hl
                rw [y2] at this
                simpa using this
              subst hys
              rw [List.length_map] at y3
              subst y3
              simp only [concL, Option.some.injEq] at z4
              subst z4
              simp only [conc, Option.some.injEq] at z1
              subst z1
              simp only [conc, concL, k1, Option.map_some, Option.some.injEq] at z3
              subst z3
              simp only [conc, y1, Option.map_some, Option.some.injEq] at k2
              subst k2
              refine Calls.mono (hc k kb o _ l w (by omega) k4 (r.lo _ _ _ y1).2 k3 fun i hi => ?_) ?_
              · exact y4 i _ (by simp [List.getElem?_map, List.getElem?_eq_getElem hi])
              · rintro e w' ⟨V, rfl, o1, o2, o3⟩
                exact ⟨V, rfl, came_one (rowU_run r hst h o1 o2 o3)⟩
          · cases h
        · cases h
      · cases h
  · cases h
/-- how a value of any kind is read, where only the keys matter -/
def rdKey (_ : Value) : Option (DataW Unit × List MemPlace) := some (.lit (.bool false), [])
/-- what slices.Sorted does with maps.Keys -/
def SortKeys (P : Program) (st g g0 : Nat) : Prop := ∀ (Bm mb n : Nat) (D : DataW Unit) (w : World), Bm < w.heap.size → w.cell? ⟨Bm, 0, none⟩ = some (.map (some mb)) → w.ownsMap P st rdKey mb n D → Maps.size D ≤ 8000000000000 →
  Calls P g #[.func (.func g0) #[] #[.pointer (some ⟨Bm, 0, none⟩)]] w fun e w' => ∃ v ss, e = .returned v ∧ ss.Perm (strKeys D) ∧ w'.ownsRow w.heap.size st 1 v ss.length ((ss.mergeSort leB).map encStr) ∧ (v = .slice none 0 0 ↔ ss = []) ∧ Below w.heap.size w w'
theorem entC_keys {R : Rf} : ∀ {es : List (AV × AV × Nat)} {ys : List MapEntry}, entC R es = some ys → concL R (es.map fun e => e.1) = some (ys.map (·.key)) ∧ ys.map (·.born) = es.map fun e => e.2.2
  | [], ys, h => by simp only [entC, Option.some.injEq] at h; subst h; exact ⟨rfl, rfl⟩
  | (k, v, n) :: es, ys, h => by
    obtain ⟨x, y, zs, h1, h2, h3, rfl⟩ := entC_cons.1 h
    obtain ⟨i1, i2⟩ := entC_keys h3
    exact ⟨concL_cons.2 ⟨x, _, h1, i1, rfl⟩, by simp [i2]⟩
/-- a map of ours whose keys are texts, as the library's laws have it -/
theorem owns_of {st : TypeId} (hst : P.underlying st = some .string) {b n clock : Nat} {ys : List MapEntry} (hb : w.heap[b]? = some (.map ys.toArray clock)) {l : List (List UInt8)} (hk : ys.map (·.key) = l.map encStr)
    (hs : ∀ x ∈ l, x.length ≤ 1000000000000) (hn : l.length ≤ 1000000000000) (h1 : l.Nodup) (h2 : (ys.map (·.born)).Nodup) (h3 : ∀ y ∈ ys, y.born < clock) (hln : l.length ≤ n) :
    ∃ D : DataW Unit, w.ownsMap P st rdKey b n D ∧ (strKeys D).Perm l ∧ Maps.size D = l.length := by
  have hlen : ys.length = l.length := by have := congrArg List.length hk; simpa using this
  have inj : ∀ x y : List UInt8, encStr x = encStr y → x = y := fun x y e => by simpa [encStr] using e
  have hrd : ∀ y ∈ ys, ∃ x ∈ l, y.key = encStr x ∧ WideElems.rd P st rdKey y = some (.string x, .lit (.bool false)) := by
    intro y hy
    have hm : y.key ∈ ys.map (·.key) := List.mem_map_of_mem hy
    rw [hk] at hm
    obtain ⟨x, hx, he⟩ := List.mem_map.1 hm
    refine ⟨x, hx, he.symm, ?_⟩
    have hz : (⟨x.toArray⟩ : ByteArray).size ≤ maxLen := by
      have h9 := hs x hx
      have h8 : (⟨x.toArray⟩ : ByteArray).size = x.length := by simp [ByteArray.size]
      rw [h8]; unfold maxLen; omega
    unfold WideElems.rd
    rw [← he, _root_.Go.WideMaps.keyOf_string_mk hst hz]
    rfl
  refine ⟨_, ⟨ys.toArray, clock, hb, ⟨by simp only [List.size_toArray]; unfold maxLen; omega, ⟨fun x hx => h3 x (by simpa using hx), by simpa using h2, ?_⟩, fun x hx => by obtain ⟨_, _, _, hr⟩ := hrd x (by simpa using hx); exact ⟨_, hr⟩⟩, by simp; omega, rfl⟩, ?_, ?_⟩
  · simp only []
    rw [hk]
    exact List.Pairwise.map encStr (fun x y hxy e => hxy (inj x y e)) h1
  · have hp := (WideShapes.sorted_perm (ys.map (WideElems.rg P st rdKey))).map fun p => strOf p.1
    refine List.Perm.trans hp (List.Perm.of_eq ?_)
    have e1 : ((ys.map (WideElems.rg P st rdKey)).map fun p => strOf p.1) = (ys.map (·.key)).map fun v => (match v with | .string s => s.data.toList | _ => ([] : List UInt8)) := by
      rw [List.map_map, List.map_map]
      refine List.map_congr_left fun y hy => ?_
      obtain ⟨x, _, he, hr⟩ := hrd y hy
      simp only [Function.comp, WideElems.rg, hr, Option.getD_some, strOf, he]
    rw [e1, hk, List.map_map]
    simp [Function.comp_def]
  · have := (WideShapes.sorted_perm (ys.map (WideElems.rg P st rdKey))).length_eq
    simp only [Maps.size]
    rw [this]; simp [hlen]
theorem sorted_ok {st g g0 : Nat} (hst : P.cellsOf st = 1) (hu : P.underlying st = some .string) (hen : ∀ args w, (callFunc g args).run P w = .ok (.enter g args) w) (hc : SortKeys P st g g0) : IntrOk P B W g (sortedI st g0) := by
  intro vs s s' v h D R w xs r hx
  refine ⟨hen _ _, ?_⟩
  unfold sortedI at h
  split at h
  · rename_i g' b
    cases hg : Nat.beq g' g0 with
    | false => rw [hg] at h; cases h
    | true =>
      rw [hg, cond_true] at h
      have hg' := Nat.eq_of_beq_eq_true hg
      subst hg'
      split at h
      · rename_i m e hb
        split at h
        · rename_i es cl hm
          split at h
          · rename_i l hl
            cases hs : shortU l with
            | false => rw [hs] at h; cases h
            | true =>
              rw [hs, cond_true] at h
              obtain ⟨s1, s2⟩ := shortU_spec hs
              cases ha : stampA l es cl with
              | false => rw [ha] at h; cases h
              | true =>
                rw [ha, cond_true] at h
                have ha' : l.Nodup ∧ (es.map fun e => e.2.2).Nodup ∧ ∀ e ∈ es, e.2.2 < cl := by
                  unfold stampA at ha
                  cases q1 : decide l.Nodup with
                  | false => rw [q1] at ha; cases ha
                  | true =>
                    rw [q1, cond_true] at ha
                    cases q2 : decide (es.map fun e => e.2.2).Nodup with
                    | false => rw [q2] at ha; cases ha
                    | true =>
                      rw [q2, cond_true] at ha
                      exact ⟨of_decide_eq_true q1, of_decide_eq_true q2, of_decide_eq_true ha⟩
                obtain ⟨t1, t2, t3⟩ := ha'
                obtain ⟨x0, x1, z1, z2, rfl⟩ := concL_cons.1 hx
                have z1' := z1
                simp only [conc, concL] at z1'
                obtain ⟨yb, hyb⟩ : ∃ y, R b = some y := by
                  cases hRb : R b with
                  | none => rw [hRb] at z1'; cases z1'
                  | some y => exact ⟨y, rfl⟩
                clear z1'
                obtain ⟨k, X, hk⟩ := box_cell r hb hyb
                obtain ⟨k1, k2, k3, k4⟩ := hk.resolve_right (by simp)
                obtain ⟨km, xm, m1, _⟩ := conc_m k2
                obtain ⟨ys, m2, m3⟩ := r.obj m _ km xm hm m1
                obtain ⟨e1, e2⟩ := entC_keys m2
                have hkeys : ys.map (·.key) = l.map encStr := by
                  have := strsA_spec (R := R) hl
                  rw [e1] at this
                  simpa using this
                simp only [conc, m1, Option.map_some, Option.some.injEq] at k2
                subst k2
                obtain ⟨D, d1, d2, d3⟩ := owns_of hu m3 hkeys s2 s1 t1 (by rw [e2]; exact t2) (fun y hy => by
                  have : y.born ∈ ys.map (·.born) := List.mem_map_of_mem hy
                  rw [e2] at this
                  obtain ⟨e0, h0, h00⟩ := List.mem_map.1 this
                  rw [← h00]; exact t3 e0 h0) (Nat.le_refl _)
                simp only [concL, Option.some.injEq] at z2
                subst z2
                simp only [conc, concL, k1, Option.map_some, Option.some.injEq] at z1
                subst z1
                refine Calls.mono (hc k km l.length D w k4 k3 d1 (by omega)) ?_
                rintro e w' ⟨V, ss, rfl, o0, o1, o2, o3⟩
                have hp := o0.trans d2
                have hq := sortU_eq hp
                rw [hq] at o1
                have hl1 : ss.length = (sortU l).length := by rw [hp.length_eq, (sortU_perm l).length_eq]
                rw [hl1] at o1
                refine ⟨V, rfl, came_one (rowU_run r hst h o1 (o2.trans ?_) o3)⟩
                constructor
                · rintro rfl; exact List.eq_nil_of_length_eq_zero (by rw [← hl1]; rfl)
                · intro h0; exact List.eq_nil_of_length_eq_zero (by rw [hl1, h0]; rfl)
          · cases h
        · cases h
      · cases h
  · cases h
theorem or_ok {g : Nat} {f f' : Intr} (h : IntrOk P B W g f) (h' : IntrOk P B W g f') : IntrOk P B W g (orI f f') := by
  intro vs s s' v hv
  unfold orI at hv
  split at hv
  · rename_i q hq
    simp only [Option.some.injEq] at hv; subst hv
    exact h vs s _ _ hq
  · exact h' vs s s' v hv
end
end Go.Ev
