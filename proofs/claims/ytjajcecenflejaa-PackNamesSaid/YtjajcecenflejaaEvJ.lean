/- A machine that runs a Go text by reckoning: maps are written, slices grow. Of no program. -/
import Derived.Test.YtjajcecenflejaaEvI
namespace Go.Ev
open Go.RowKit

/-! ## maps -/
noncomputable def sbA : Nat → AV → AV → Bool
  | 0, _, _ => false
  | n + 1, x, y => match x, y with
    | .b a, .b c => a == c
    | .i j a, .i k c => bif kEq j k then iEq a c else false
    | .s a, .s c => sEq a c
    | .a a, .a c => (List.rec (fun m => List.rec true (fun _ _ _ => false) m) (fun x _ ih m => List.rec false (fun y m _ => bif sbA n x y then ih m else false) m) a : List AV → Bool) c
    | _, _ => false
noncomputable def sbL (n : Nat) (a : List AV) : List AV → Bool := List.rec (fun m => List.rec true (fun _ _ _ => false) m) (fun x _ ih m => List.rec false (fun y m _ => bif sbA n x y then ih m else false) m) a
theorem sbA_run (R : Rf) : ∀ (n m : Nat) (x y : AV) (X Y : Value), sbA n x y = true → conc R x = some X → conc R y = some Y → Instr.sameBits (n + m) X Y = true
  | 0, _, _, _, _, _, h, _, _ => by cases h
  | n + 1, m, x, y, X, Y, h, hX, hY => by
    have ih := sbA_run R n m
    rw [show n + 1 + m = (n + m) + 1 by omega]
    unfold sbA at h
    split at h
    · simp only [conc, Option.some.injEq] at hX hY; subst hX; subst hY; exact h
    · rename_i j a k c
      simp only [conc, Option.some.injEq] at hX hY; subst hX; subst hY
      cases hk : kEq j k with
      | false => rw [hk] at h; cases h
      | true =>
        rw [hk, cond_true, iEq_eq] at h
        obtain rfl := kEq_eq hk
        simp only [Instr.sameBits, beq_self_eq_true, Bool.true_and]; exact h
    · simp only [conc, Option.some.injEq] at hX hY; subst hX; subst hY
      rw [sEq_eq] at h
      simp only [beq_iff_eq] at h
      simp [Instr.sameBits, h, beq_toListBytes]
    · rename_i a c
      obtain ⟨xs, hxs, rfl⟩ := conc_a hX
      obtain ⟨ys, hys, rfl⟩ := conc_a hY
      have h' : sbL n a c = true := h
      have key : ∀ (a c : List AV) (xs ys : List Value), sbL n a c = true → concL R a = some xs → concL R c = some ys → xs.length = ys.length ∧ ∀ p ∈ xs.zip ys, Instr.sameBits (n + m) p.1 p.2 = true := by
        intro a
        induction a with
        | nil =>
          intro c xs ys h1 h2 h3
          cases c with
          | nil => simp only [concL, Option.some.injEq] at h2 h3; subst h2; subst h3; simp
          | cons y c => cases h1
        | cons x a iha =>
          intro c xs ys h1 h2 h3
          cases c with
          | nil => cases h1
          | cons y c =>
            obtain ⟨X, xs', a1, a2, rfl⟩ := concL_cons.1 h2
            obtain ⟨Y, ys', b1, b2, rfl⟩ := concL_cons.1 h3
            have h1' : (bif sbA n x y then sbL n a c else false) = true := h1
            cases hs : sbA n x y with
            | false => rw [hs] at h1'; cases h1'
            | true =>
              rw [hs, cond_true] at h1'
              obtain ⟨c1, c2⟩ := iha c xs' ys' h1' a2 b2
              refine ⟨by simp [c1], fun p hp => ?_⟩
              rw [List.zip_cons_cons] at hp
              rcases List.mem_cons.1 hp with rfl | hp
              · exact ih x y X Y hs a1 b1
              · exact c2 p hp
      obtain ⟨k1, k2⟩ := key a c xs ys h' hxs hys
      simp only [Instr.sameBits, List.size_toArray, k1, beq_self_eq_true, Bool.true_and, List.all_eq_true]
      exact fun p hp => k2 p hp
    · cases h
noncomputable def putE (es : List (AV × AV × Nat)) (k v : AV) : Nat → List (AV × AV × Nat) := List.rec (fun _ => []) (fun e es ih i => Nat.rec ((k, v, e.2.2) :: es) (fun i _ => e :: ih i) i) es
theorem putE_conc {R : Rf} {k v : AV} {X Y : Value} (hk : conc R k = some X) (hv : conc R v = some Y) : ∀ {es : List (AV × AV × Nat)} {ES : List MapEntry} (i : Nat), entC R es = some ES → entC R (putE es k v i) = some (ES.modify i fun e => { e with key := X, val := Y })
  | [], ES, i, h => by simp only [entC, Option.some.injEq] at h; subst h; cases i <;> rfl
  | (k', v', n) :: es, ES, i, h => by
    obtain ⟨x, y, zs, h1, h2, h3, rfl⟩ := entC_cons.1 h
    cases i with
    | zero => exact entC_cons.2 ⟨X, Y, zs, hk, hv, h3, rfl⟩
    | succ i => exact entC_cons.2 ⟨x, y, _, h1, h2, putE_conc hk hv i h3, rfl⟩
theorem entC_app {R : Rf} : ∀ {l m : List (AV × AV × Nat)} {es fs : List MapEntry}, entC R l = some es → entC R m = some fs → entC R (l ++ m) = some (es ++ fs)
  | [], _, _, _, e, h => by simp only [entC, Option.some.injEq] at e; subst e; simpa using h
  | (k, v, n) :: l, m, es, fs, e, h => by
    obtain ⟨x, y, zs, h1, h2, h3, rfl⟩ := entC_cons.1 e
    exact entC_cons.2 ⟨x, y, _, h1, h2, entC_app h3 h, rfl⟩
theorem entC_get {R : Rf} : ∀ {l : List (AV × AV × Nat)} {es : List MapEntry} {i : Nat} {k v : AV} {n : Nat}, entC R l = some es → l[i]? = some (k, v, n) → ∃ X Y, es[i]? = some ⟨X, Y, n⟩ ∧ conc R k = some X ∧ conc R v = some Y
  | [], _, _, _, _, _, _, h => by simp at h
  | (k', v', n') :: l, es, 0, k, v, n, e, h => by
    obtain ⟨x, y, zs, h1, h2, h3, rfl⟩ := entC_cons.1 e
    simp at h; obtain ⟨rfl, rfl, rfl⟩ := h
    exact ⟨x, y, rfl, h1, h2⟩
  | (k', v', n') :: l, es, i + 1, k, v, n, e, h => by
    obtain ⟨x, y, zs, h1, h2, h3, rfl⟩ := entC_cons.1 e
    simpa using entC_get h3 (by simpa using h)
noncomputable def mMapU (P : Program) (s : S) (t : TypeId) (m k v : AV) : Option (AV × S) :=
  match m, P.underlying t with
  | .m b, some (.map kt _) => (match s.h.get b with
    | some (.map es cl) => bif ckA P 6 kt k then (match findA P kt k es 0 with
        | some none => some (und, ⟨s.h.set (some (.map (app es [(k, v, cl)]) (cl + 1))) b, s.n⟩)
        | some (some (i, _)) => (match nth es i with
          | some e => bif sbA 12 e.1 k then some (und, ⟨s.h.set (some (.map (putE es k v i) cl)) b, s.n⟩) else none
          | none => none)
        | none => none) else none
    | _ => none)
  | _, _ => none
theorem map_at {P : Program} {B : Nat → Prop} {W : World} {D : Dn} {R : Rf} {h : PT AO} {w : World} (r : Rel P B W D R h w) {b : Ps} {es : List (AV × AV × Nat)} {cl : Nat} (hb : h.get b = some (.map es cl)) {y : Nat × Nat} (hy : R b = some y) :
    ∃ k x ys, R b = some (k, x) ∧ entC R es = some ys ∧ w.heap[k]? = some (.map ys.toArray cl) := by
  obtain ⟨ys, h2, h3⟩ := r.obj b _ y.1 y.2 hb hy
  exact ⟨y.1, y.2, ys, hy, h2, h3⟩
theorem run_getMap {P : Program} {w : World} {k : Nat} {ys : Array MapEntry} {cl : Nat} (h : w.heap[k]? = some (.map ys cl)) : (getObj k).run P w = .ok (.map ys cl) w := by simp [getObj, Sem.run, h]
def setO (w : World) (k : Nat) (O : Obj) : World := { w with heap := w.heap.setIfInBounds k O }
theorem run_setMap {P : Program} {w : World} {k : Nat} {ys : Array MapEntry} {cl : Nat} (h : w.heap[k]? = some (.map ys cl)) (O : Obj) : (setObj k O).run P w = .ok () (setO w k O) := by simp [setObj, Sem.run, h, setO]
theorem setO_at {w : World} {k : Nat} {O : Obj} (h : k < w.heap.size) : (setO w k O).heap[k]? = some O := by simp [setO, h]
theorem setO_ne (w : World) {k j : Nat} (O : Obj) (h : j ≠ k) : (setO w k O).heap[j]? = w.heap[j]? := by simp only [setO]; rw [Array.getElem?_setIfInBounds_ne (fun e => h e.symm)]
theorem setO_size (w : World) (k : Nat) (O : Obj) : (setO w k O).heap.size = w.heap.size := by simp [setO]
theorem setO_below {w : World} {k : Nat} {B : Nat → Prop} (O : Obj) (h : ¬ B k) : Kept B w (setO w k O) := ⟨rfl, rfl, rfl, by rw [setO_size]; exact Nat.le_refl _, fun j hj => setO_ne w O (fun e => h (e ▸ hj))⟩
theorem mMapU_run {P : Program} {B : Nat → Prop} {W : World} {D : Dn} {R : Rf} {s s' : S} {w : World} (r : Rel P B W D R s.h w) {t : TypeId} {m k v x : AV} {M K V : Value} (hm : conc R m = some M) (hk : conc R k = some K) (hv : conc R v = some V) (h : mMapU P s t m k v = some (x, s')) :
    ∃ w', (Instr.mapUpdate t M K V).run P w = .ok () w' ∧ x = und ∧ Rel P B W D R s'.h w' ∧ Kept B w w' := by
  unfold mMapU at h
  split at h
  · rename_i b kt et ht
    obtain ⟨kb, e, hkb, rfl⟩ := conc_m hm
    split at h
    · rename_i es cl hb
      obtain ⟨kb', x', ys, hkb', hys, hheap⟩ := map_at r hb hkb
      have hlo := r.lo b kb' x' hkb'
      have hkb2 := hkb'
      rw [hkb] at hkb'
      simp only [Option.some.injEq, Prod.mk.injEq] at hkb'
      obtain ⟨rfl, rfl⟩ := hkb'
      cases hck : ckA P 6 kt k with
      | false => rw [hck] at h; cases h
      | true =>
        rw [hck, cond_true] at h
        obtain ⟨u, hu⟩ := ckA_under hck
        have hcr := ckA_run false R w 6 9994 kt k K hck hk
        split at h
        · rename_i hfa
          simp only [Option.some.injEq, Prod.mk.injEq] at h
          obtain ⟨rfl, rfl⟩ := h
          obtain ⟨q, hq1, hq2⟩ := findKey_run hu hk w hfa hys
          cases q with
          | some q => cases hq1
          | none =>
            refine ⟨setO w kb (.map (ys.toArray.push { key := K, val := V, born := cl }) (cl + 1)), ?_, rfl, ?_, setO_below _ hlo.1⟩
            · simp only [Instr.mapUpdate, Sem.run_bind, run_underlying ht, Result.andThen_ok, run_getMap hheap, hcr, hq2]
              exact run_setMap hheap _
            · refine r.write hb rfl hkb2 (setO_below _ hlo.1) (setO_size ..) ?_ (fun j hj => setO_ne w _ hj)
              refine ⟨ys ++ [⟨K, V, cl⟩], ?_, ?_⟩
              · rw [app_eq]; exact entC_app hys (entC_cons.2 ⟨K, V, [], hk, hv, rfl, rfl⟩)
              · rw [setO_at hlo.2]; simp
        · rename_i i y hfa
          split at h
          · rename_i e1 he1
            rw [nth_eq] at he1
            obtain ⟨k1, v1, n1⟩ := e1
            cases hsb : sbA 12 k1 k with
            | false => rw [hsb] at h; cases h
            | true =>
              rw [hsb] at h
              simp only [cond_true, Option.some.injEq, Prod.mk.injEq] at h
              obtain ⟨rfl, rfl⟩ := h
              obtain ⟨q, hq1, hq2⟩ := findKey_run hu hk w hfa hys
              cases q with
              | none => cases hq1
              | some q =>
                obtain ⟨i', Y⟩ := q
                obtain ⟨rfl, hY⟩ := hq1
                obtain ⟨K1, V1, g1, g2, g3⟩ := entC_get hys he1
                have hsame : Instr.sameBits 10000 K1 K = true := sbA_run R 12 9988 k1 k K1 K hsb g2 hk
                refine ⟨setO w kb (.map (ys.toArray.modify i fun e => { e with key := K, val := V }) cl), ?_, rfl, ?_, setO_below _ hlo.1⟩
                · simp only [Instr.mapUpdate, Sem.run_bind, run_underlying ht, Result.andThen_ok, run_getMap hheap, hcr, hq2]
                  have hks : (Instr.keyThatStays (((ys.toArray[i]?).map (·.key)).getD K) K).run P w = .ok K w := by
                    simp [Instr.keyThatStays, g1, hsame]
                  rw [hks]
                  exact run_setMap hheap _
                · refine r.write hb rfl hkb2 (setO_below _ hlo.1) (setO_size ..) ?_ (fun j hj => setO_ne w _ hj)
                  refine ⟨_, putE_conc hk hv i hys, ?_⟩
                  rw [setO_at hlo.2]
                  congr 2
                  apply Array.ext'
                  simp
          · cases h
        · cases h
    · cases h
  · cases h
theorem new_map {P : Program} {B : Nat → Prop} {W : World} {D : Dn} {R : Rf} {s s' : S} {w : World} (r : Rel P B W D R s.h w) {o : AO} {O : Obj} {p : Ps} (hn : newO o s = some (p, s'))
    (ho : ∀ R' w', R.le R' → w'.heap[w.heap.size]? = some O → HObj P R' w' w.heap.size 0 o) :
    ∃ R', R.le R' ∧ R' p = some (w.heap.size, 0) ∧ Rel P B W D R' s'.h (w.alloc O) ∧ Kept B w (w.alloc O) := by
  obtain ⟨h1, h2⟩ := newO_spec hn
  have hle := Rf.le_put (w.heap.size, 0) (r.new p h1)
  have := r.alloc (O := O) (x := 0) (o := o) h1 (ho _ _ hle (alloc_at w _))
  rw [h2]
  exact ⟨_, hle, Rf.put_at .., this.1, this.2.2⟩

/-! ## slices grow -/
noncomputable def lenA : AV → Option Nat
  | .l0 => some 0
  | .l _ _ n _ => some n
  | .lx _ _ n _ => some n
  | .le .. => some 0
  | .s l => some (len l)
  | _ => none
noncomputable def srcA (h : PT AO) (size n : Nat) : AV → Option (List AV)
  | .l0 => some []
  | .l b o _ _ => ldN h b o (n * size)
  | .lx b o _ _ => ldN h b o (n * size)
  | .le .. => bif Nat.beq n 0 then some [] else none
  | .s l => some ((take l n).map fun c => .i .u8 (.ofNat c.toNat))
  | _ => none
theorem lenA_run {P : Program} {R : Rf} {v : AV} {X : Value} {n : Nat} (h : lenA v = some n) (hv : conc R v = some X) (w : World) : (Builtin.lenOf X).run P w = .ok n w := by
  unfold lenA at h
  split at h
  · simp only [conc, Option.some.injEq] at hv h; subst hv; subst h; rfl
  · obtain ⟨k, e, _, rfl⟩ := conc_l hv
    simp only [Option.some.injEq] at h; subst h; rfl
  · obtain ⟨k, e, _, rfl⟩ := conc_lx hv
    simp only [Option.some.injEq] at h; subst h; rfl
  · simp only [conc, Option.map_eq_some_iff] at hv
    obtain ⟨_, _, rfl⟩ := hv
    simp only [Option.some.injEq] at h; subst h; rfl
  · rename_i l
    simp only [conc, Option.some.injEq] at hv h; subst hv; subst h
    have : (⟨l.toArray⟩ : ByteArray).size = l.length := by simp [ByteArray.size]
    simp [Builtin.lenOf, this, len_eq]
  · cases h
theorem concL_u8 (R : Rf) : ∀ l : List UInt8, concL R (l.map fun c => .i .u8 (.ofNat c.toNat)) = some (l.map fun b => .int .u8 (b.toNat : Int))
  | [] => rfl
  | _ :: l => concL_cons.2 ⟨_, _, rfl, concL_u8 R l, rfl⟩
theorem srcA_run {P : Program} {B : Nat → Prop} {W : World} {D : Dn} {R : Rf} {h : PT AO} {w : World} (r : Rel P B W D R h w) {v : AV} {X : Value} {size n : Nat} {l : List AV} (hs : srcA h size n v = some l) (hv : conc R v = some X) :
    ∃ xs, concL R l = some xs ∧ (Builtin.firstCells size n X).run P w = .ok xs.toArray w := by
  unfold srcA at hs
  split at hs
  · simp only [conc, Option.some.injEq] at hv hs; subst hv; subst hs
    exact ⟨[], rfl, rfl⟩
  · obtain ⟨k, e, hk, rfl⟩ := conc_l hv
    obtain ⟨k', x', ys, h1, h2, h3, h4⟩ := ldN_run r hs hk
    rw [hk] at h1
    simp only [Option.some.injEq, Prod.mk.injEq] at h1
    obtain ⟨rfl, rfl⟩ := h1
    refine ⟨ys, h2, ?_⟩
    have := loadCells_at (P := P) h4
    rw [h3] at this
    exact this
  · obtain ⟨k, e, hk, rfl⟩ := conc_lx hv
    obtain ⟨k', x', ys, h1, h2, h3, h4⟩ := ldN_run r hs hk
    rw [hk] at h1
    simp only [Option.some.injEq, Prod.mk.injEq] at h1
    obtain ⟨rfl, rfl⟩ := h1
    refine ⟨ys, h2, ?_⟩
    have := loadCells_at (P := P) h4
    rw [h3] at this
    exact this
  · simp only [conc, Option.map_eq_some_iff] at hv
    obtain ⟨_, _, rfl⟩ := hv
    cases h0 : Nat.beq n 0 with
    | false => rw [h0] at hs; cases hs
    | true =>
      rw [h0, cond_true, Option.some.injEq] at hs
      subst hs
      obtain rfl := Nat.eq_of_beq_eq_true h0
      exact ⟨[], rfl, by simp [Builtin.firstCells, loadCellsFrom, loadCells]⟩
  · rename_i l
    simp only [conc, Option.some.injEq] at hv hs; subst hv; subst hs
    refine ⟨_, concL_u8 R _, ?_⟩
    simp only [Builtin.firstCells, Sem.run_pure, Result.ok.injEq, and_true, take_eq]
    rw [extract_mk]
    simp
  · cases hs
def isIntT : TypeDesc → Bool
  | .int _ => true
  | _ => false
/-- append(nil, make(.., n)..) -/
noncomputable def mAppZ (P : Program) (s : S) (e : TypeId) (x y : AV) : Option (AV × S) :=
  match x, y with
  | .l0, .i _ (.ofNat n) => (match P.info? e, zerA P e with
    | some i, some z => bif Nat.beq (len (cellsA z)) i.size then (bif Nat.beq n 0 then some (.l0, s) else (bif Nat.beq i.size 0 then none else
        (bif Nat.ble (n * i.bytes) 140737488355328 then (bif Nat.ble n 1000000000000 then (match newO (.cells (rep (cellsA z) n) e false) s with
          | some (p, s) => some (.l p 0 n n, s)
          | none => none) else none) else none))) else none
    | _, _ => none)
  | _, _ => none
noncomputable def mApp (P : Program) (s : S) (t t2 : TypeId) (x y : AV) : Option (AV × S) :=
  match P.underlying t, P.underlying t2 with
  | some (.slice e), some u2 => bif isIntT u2 then mAppZ P s e x y else (match P.info? e, zerA P e, lenA y with
    | some i, some z, some n => bif Nat.beq (len (cellsA z)) i.size then (match srcA s.h i.size n y with
      | some new => bif allOne new then (bif Nat.beq (len new) (n * i.size) then (match x with
        | .l0 => bif Nat.beq n 0 then some (.l0, s) else (bif Nat.ble (n * i.bytes) 140737488355328 then (bif Nat.ble n 1000000000000 then (match newO (.cells new e false) s with
            | some (p, s) => some (.l p 0 n n, s)
            | none => none) else none) else none)
        | .l b o l c => (match s.h.get b with
          | some (.cells cs e' ex) => bif Nat.beq e e' then (bif Nat.ble (l + n) c
              then (match over new cs (o + l * i.size) with
                | some cs' => some (.l b o (l + n) c, ⟨s.h.set (some (.cells cs' e' ex)) b, s.n⟩)
                | none => none)
              else (match Ev.part cs o (l * i.size) with
                | some old => bif Nat.ble ((l + n) * i.bytes) 140737488355328 then (bif Nat.ble (l + n) 1000000000000 then (match newO (.cells (app old new) e false) s with
                    | some (p, s') => bif ex then some (.l p 0 (l + n) (l + n), s') else
                        (bif Nat.beq o 0 then (bif Nat.beq (len cs) (c * i.size) then some (.l p 0 (l + n) (l + n), ⟨s'.h.set (some .dead) b, s'.n⟩) else none) else none)
                    | none => none) else none) else none
                | none => none)) else none
          | _ => none)
        | .lx b o l c => (match s.h.get b with
          | some (.cells cs e' _) => bif Nat.beq e e' then (bif Nat.ble (l + n) c then none
              else (match Ev.part cs o (l * i.size) with
                | some old => bif Nat.ble ((l + n) * i.bytes) 140737488355328 then (bif Nat.ble (l + n) 1000000000000 then (match newO (.cells (app old new) e false) s with
                    | some (p, s') => some (.l p 0 (l + n) (l + n), s')
                    | none => none) else none) else none
                | none => none)) else none
          | _ => none)
        | _ => none) else none) else none
      | none => none) else none
    | _, _, _ => none)
  | _, _ => none
end Go.Ev
