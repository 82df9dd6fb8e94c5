/- A machine that runs a Go text by reckoning: operations that make memory, or write it. Of no program. -/
import Derived.Test.YtjajcecenflejaaEvH
namespace Go.Ev
open Go.RowKit

noncomputable def newO (o : AO) (s : S) : Option (Ps × S) := match s.h.get s.n with
  | none => some (s.n, ⟨s.h.set (some o) s.n, s.n.succ⟩)
  | some _ => none
def oneA : AV → Bool
  | .a _ => false
  | .t _ => false
  | _ => true
noncomputable def allOne (l : List AV) : Bool := List.rec true (fun x _ ih => bif oneA x then ih else false) l
theorem oneA_conc {R : Rf} {v : AV} {x : Value} (h : oneA v = true) (hx : conc R v = some x) : x.oneCell' = true := by
  cases v <;> simp only [conc, Option.map_eq_some_iff, Option.some.injEq] at hx
  all_goals first
    | (cases h; done)
    | (subst hx; rfl)
    | (obtain ⟨_, _, rfl⟩ := hx; rfl)
theorem allOne_conc {R : Rf} : ∀ {l : List AV} {xs : List Value}, allOne l = true → concL R l = some xs → ∀ x ∈ xs, x.oneCell' = true
  | [], xs, _, h, x, hx => by simp only [concL, Option.some.injEq] at h; subst h; simp at hx
  | v :: l, xs, ho, h, x, hx => by
    obtain ⟨y, ys, h1, h2, rfl⟩ := concL_cons.1 h
    have ho' : (bif oneA v then allOne l else false) = true := ho
    cases hv : oneA v with
    | false => rw [hv] at ho'; cases ho'
    | true =>
      rw [hv, cond_true] at ho'
      rcases List.mem_cons.1 hx with rfl | hx
      · exact oneA_conc hv h1
      · exact allOne_conc ho' h2 x hx
/-- what an operation does -/
def Eff (P : Program) (B : Nat → Prop) (W : World) (D : Dn) (R : Rf) (w : World) (run : Result Next) (v : AV) (h' : PT AO) : Prop :=
  ∃ R' x w', R.le R' ∧ (run = .ok (.value x) w' ∨ run = .ok .skip w' ∧ x = undef) ∧ conc R' v = some x ∧ Rel P B W D R' h' w' ∧ Kept B w w'
section
variable {P : Program} {B : Nat → Prop} {W : World} {D : Dn} {R : Rf} {s : S} {w : World}
theorem newO_spec {o : AO} {p : Ps} {s' : S} (h : newO o s = some (p, s')) : s.h.get p = none ∧ s'.h = s.h.set (some o) p := by
  unfold newO at h
  split at h
  · rename_i hn
    simp only [Option.some.injEq, Prod.mk.injEq] at h
    obtain ⟨rfl, rfl⟩ := h
    exact ⟨hn, rfl⟩
  · cases h
theorem alloc_at (w : World) (O : Obj) : (w.alloc O).heap[w.heap.size]? = some O := by
  show (w.heap.push O)[w.heap.size]? = _
  simp
/-- a new row, all of it known -/
theorem new_row (r : Rel P B W D R s.h w) {c : List AV} {e : TypeId} {p : Ps} {s' : S} (hn : newO (.cells c e true) s = some (p, s')) {xs : List Value} (hc : concL R c = some xs) :
    ∃ R', R.le R' ∧ R' p = some (w.heap.size, 0) ∧ Rel P B W D R' s'.h (w.alloc (.cells xs.toArray e)) ∧ Kept B w (w.alloc (.cells xs.toArray e)) := by
  obtain ⟨h1, h2⟩ := newO_spec hn
  have hle := Rf.le_put (w.heap.size, 0) (r.new p h1)
  have := r.alloc (O := .cells xs.toArray e) (x := 0) (o := .cells c e true) h1 ⟨xs, [], concL_mono hle _ _ hc, by rw [List.append_nil]; exact alloc_at w _, by simp, fun _ => rfl⟩
  rw [h2]
  exact ⟨_, hle, Rf.put_at .., this.1, this.2.2⟩
/-- a new row, with more behind what is known -/
theorem new_long (r : Rel P B W D R s.h w) {c : List AV} {e : TypeId} {p : Ps} {s' : S} (hn : newO (.cells c e false) s = some (p, s')) {xs tail : List Value} {x : Nat} (hc : concL R c = some xs) (ht : tail.length = x * P.cellsOf e) :
    ∃ R', R.le R' ∧ R' p = some (w.heap.size, x) ∧ Rel P B W D R' s'.h (w.alloc (.cells (xs ++ tail).toArray e)) ∧ Kept B w (w.alloc (.cells (xs ++ tail).toArray e)) := by
  obtain ⟨h1, h2⟩ := newO_spec hn
  have hle := Rf.le_put (w.heap.size, x) (r.new p h1)
  have := r.alloc (O := .cells (xs ++ tail).toArray e) (x := x) (o := .cells c e false) h1 ⟨xs, tail, concL_mono hle _ _ hc, alloc_at w _, ht, fun h => by cases h⟩
  rw [h2]
  exact ⟨_, hle, Rf.put_at .., this.1, this.2.2⟩
theorem kept_setRow {B : Nat → Prop} {g : Nat} {w0 w : World} (hb : Kept B w0 w) (hBg : ¬ B g) (cs : Array Value) : Kept B w0 (w.setRow g cs) :=
  hb.trans ⟨rfl, rfl, rfl, by simp, fun k hk => setRow_other w g k _ (fun e => hBg (e ▸ hk))⟩
/-- some of a row is written -/
theorem write_row (r : Rel P B W D R s.h w) {b : Ps} {c c' m : List AV} {e : TypeId} {ex : Bool} {o : Nat} (hb : s.h.get b = some (.cells c e ex)) (ho : over m c o = some c') {ms : List Value} (hm : concL R m = some ms) (h1 : allOne m = true) {y : Nat × Nat} (hy : R b = some y) :
    ∃ k x w', R b = some (k, x) ∧ (storeCells ⟨k, o, none⟩ ms).run P w = .ok () w' ∧ Rel P B W D R (s.h.set (some (.cells c' e ex)) b) w' ∧ Kept B w w' := by
  obtain ⟨k, x, xs, tail, hk, hxs, hheap, htl, hex⟩ := cells_at r hb hy
  obtain ⟨hle, hc'⟩ := over_conc ho hm hxs
  have hst := run_storeCells_at (P := P) k o e ms 0 (xs ++ tail).toArray w hheap (by simp; omega) (allOne_conc h1 hm)
  refine ⟨k, x, _, hk, hst, ?_, kept_setRow (Kept.refl B w) (r.lo b k x hk).1 _⟩
  refine r.write hb rfl hk (kept_setRow (Kept.refl B w) (r.lo b k x hk).1 _) (by simp) ?_ (fun j hj => setRow_other w k j _ hj)
  refine ⟨_, tail, hc', ?_, htl, hex⟩
  rw [setRow_heap w k _ _ e (0, 0) hheap]
  simp only [Nat.add_zero]
  congr 3
  rw [List.take_append_of_le_length (by omega), List.drop_append_of_le_length (by omega)]
  simp [List.append_assoc]
end

/-! ## the making of rows -/
theorem rep_conc {R : Rf} {z : List AV} {zs : List Value} (h : concL R z = some zs) : ∀ n, concL R (rep z n) = some (List.replicate n zs).flatten
  | 0 => rfl
  | n + 1 => by
    show concL R (app z (rep z n)) = _
    rw [app_eq, List.replicate_succ, List.flatten_cons]
    exact concL_app h (rep_conc h n)
theorem flat_get (zs : List Value) (d : Value) : ∀ (n i : Nat), i < n * zs.length → ((List.replicate n zs).flatten)[i]? = some (zs.getD (i % zs.length) d)
  | 0, i, h => by simp at h
  | n + 1, i, h => by
    rw [List.replicate_succ, List.flatten_cons]
    by_cases hi : i < zs.length
    · rw [List.getElem?_append_left hi, Nat.mod_eq_of_lt hi]
      simp [List.getD, List.getElem?_eq_getElem hi]
    · rw [List.getElem?_append_right (by omega), flat_get zs d n (i - zs.length) (by rw [Nat.succ_mul] at h; omega)]
      congr 2
      rw [Nat.mod_eq_sub_mod (by omega : i ≥ zs.length)]
theorem range_cells (z : Array Value) (n : Nat) : ((Array.range (n * z.size)).map (z[· % z.size]!)) = ((List.replicate n z.toList).flatten).toArray := by
  apply Array.ext'
  apply List.ext_getElem?
  intro i
  simp only [Array.toList_map, Array.toList_range, List.getElem?_map]
  by_cases hi : i < n * z.size
  · rw [List.getElem?_range hi, flat_get z.toList default n i (by simpa using hi)]
    have hz : 0 < z.size := by
      rcases Nat.eq_zero_or_pos z.size with h | h
      · rw [h] at hi; simp at hi
      · exact h
    have hm : i % z.size < z.size := Nat.mod_lt _ hz
    simp [hm, List.getD]
  · rw [List.getElem?_eq_none (by simpa using hi), List.getElem?_eq_none (by simp; omega)]; rfl

noncomputable def mAlloc (P : Program) (s : S) (e : TypeId) : Option (AV × S) :=
  match zerA P e with
  | some z => (match newO (.cells (cellsA z) e true) s with
    | some (p, s) => some (.p p 0, s)
    | none => none)
  | none => none
theorem mAlloc_run {P : Program} {B : Nat → Prop} {W : World} {D : Dn} {R : Rf} {s s' : S} {w : World} (r : Rel P B W D R s.h w) {e : TypeId} {v : AV} (h : mAlloc P s e = some (v, s')) :
    ∃ R' x w', R.le R' ∧ (Instr.alloc e true (.tuple #[])).run P w = .ok x w' ∧ conc R' v = some x ∧ Rel P B W D R' s'.h w' ∧ Kept B w w' := by
  unfold mAlloc at h
  split at h
  · rename_i z hz
    obtain ⟨i, zv, hi, hzv, hc⟩ := zerA_spec hz
    split at h
    · rename_i p s2 hn
      simp only [Option.some.injEq, Prod.mk.injEq] at h
      obtain ⟨rfl, rfl⟩ := h
      obtain ⟨R', h1, h2, h3, h4⟩ := new_row r hn (cellsA_conc (cvC_conc R 12 zv z hc))
      refine ⟨R', .pointer (some ⟨w.heap.size, 0, none⟩), _, h1, ?_, by simp only [conc, h2, Option.map_some], h3, h4⟩
      simp [Instr.alloc, run_zero hi hzv, newVar, newRow]
    · cases h
  · cases h
noncomputable def mBox (s : S) (e : TypeId) (v : AV) : Option (AV × S) :=
  match newO (.cells (cellsA v) e true) s with
  | some (p, s) => some (.p p 0, s)
  | none => none
theorem mBox_run {P : Program} {B : Nat → Prop} {W : World} {D : Dn} {R : Rf} {s s' : S} {w : World} (r : Rel P B W D R s.h w) {e : TypeId} {u v : AV} {X : Value} (hu : conc R u = some X) (h : mBox s e u = some (v, s')) :
    ∃ R' x w', R.le R' ∧ (Instr.box e X).run P w = .ok x w' ∧ conc R' v = some x ∧ Rel P B W D R' s'.h w' ∧ Kept B w w' := by
  unfold mBox at h
  split at h
  · rename_i p s2 hn
    simp only [Option.some.injEq, Prod.mk.injEq] at h
    obtain ⟨rfl, rfl⟩ := h
    obtain ⟨R', h1, h2, h3, h4⟩ := new_row r hn (cellsA_conc hu)
    refine ⟨R', .pointer (some ⟨w.heap.size, 0, none⟩), _, h1, ?_, by simp only [conc, h2, Option.map_some], h3, h4⟩
    simp [Instr.box, newVar, newRow]
  · cases h
noncomputable def mBuildS (P : Program) (fr : Fr) (s : S) (t : TypeId) (n : Nat) (ps : List (Nat × Operand)) : Option (AV × S) :=
  match P.underlying t with
  | some (.slice e) => (match P.info? e, zerA P e with
    | some i, some z => bif Nat.beq (len (cellsA z)) i.size then (bif Nat.ble (n * i.size) 16777216 then
        (match fillA (fun j => some (j * i.size, i.size)) fr ps (rep (cellsA z) n) with
        | some c => (match newO (.cells c e true) s with
          | some (p, s) => some (.l p 0 n n, s)
          | none => none)
        | none => none) else none) else none
    | _, _ => none)
  | _ => none
theorem mBuildS_run {P : Program} {B : Nat → Prop} {W : World} {D : Dn} {R : Rf} {s s' : S} {w : World} (r : Rel P B W D R s.h w) {fr : Fr} {a : Act} (hf : FrR R fr a) {t : TypeId} {n : Nat} {ps : Array (Nat × Operand)} {v : AV} (h : mBuildS P fr s t n ps.toList = some (v, s')) :
    ∃ R' x w', R.le R' ∧ (Instr.buildSlice t n (ps.map fun (i, x) => (i, a.eval x))).run P w = .ok x w' ∧ conc R' v = some x ∧ Rel P B W D R' s'.h w' ∧ Kept B w w' := by
  unfold mBuildS at h
  have hmap : (ps.map fun (i, x) => (i, a.eval x)).toList = ps.toList.map fun p => (p.1, a.eval p.2) := by simp
  split at h
  · rename_i e hu
    split at h
    · rename_i i z hi hz
      obtain ⟨i', zv, hi', hzv, hc⟩ := zerA_spec hz
      rw [hi] at hi'
      simp only [Option.some.injEq] at hi'; subst hi'
      cases hb : Nat.beq (len (cellsA z)) i.size with
      | false => rw [hb] at h; cases h
      | true =>
        have hs := Nat.eq_of_beq_eq_true hb
        rw [len_eq] at hs
        cases hb2 : Nat.ble (n * i.size) 16777216 with
        | false => rw [hb, hb2] at h; cases h
        | true =>
          have hsz := ble_le hb2
          rw [hb, hb2, cond_true, cond_true] at h
          have hcz := cellsA_conc (cvC_conc R 12 zv z hc)
          have hzs : zv.cells.size = i.size := by have := concL_len hcz; simp at this; omega
          split at h
          · rename_i c hfl
            split at h
            · rename_i p s2 hn
              simp only [Option.some.injEq, Prod.mk.injEq] at h
              obtain ⟨rfl, rfl⟩ := h
              obtain ⟨ys, h1, h2⟩ := fillA_run hf hfl (rep_conc hcz n)
              obtain ⟨R', h3, h4, h5, h6⟩ := new_row r hn h1
              refine ⟨R', .slice (some ⟨w.heap.size, 0, none⟩) n (n + 0), _, h3, ?_, by simp only [conc, h4, Option.map_some], h5, h6⟩
              have hrc := range_cells zv.cells n
              rw [hzs] at hrc
              by_cases h0 : n * i.size = 0
              · have e0 : (List.replicate n zv.cells.toList).flatten = [] := by
                  apply List.eq_nil_of_length_eq_zero
                  simp [List.length_flatten, hzs, h0]
                rw [e0] at h2
                have e1 : ((Array.range (n * i.size)).map fun x => (#[] : Array Value)[x % (#[] : Array Value).size]!) = ([] : List Value).toArray := by
                  apply Array.ext'; simp [h0]
                have hlt : ¬ (n * i.size > 16777216) := by omega
                simp only [Instr.buildSlice, Sem.run_bind, run_underlying hu, Result.andThen_ok, run_sizeOf hi]
                simp only [Nat.reducePow]
                rw [if_neg hlt, if_pos h0]
                simp only [Sem.run_pure, Result.andThen_ok, e1, hmap, h2, Sem.run_bind, newRow, run_newObj]
                rfl
              · have hlt : ¬ (n * i.size > 16777216) := by omega
                simp only [Instr.buildSlice, Sem.run_bind, run_underlying hu, Result.andThen_ok, run_sizeOf hi]
                simp only [Nat.reducePow]
                rw [if_neg hlt, if_neg h0]
                simp only [Sem.run_bind, run_zero hi hzv, Sem.run_pure, Result.andThen_ok, hzs, hrc, hmap, h2, newRow, run_newObj]
                rfl
            · cases h
          · cases h
    · cases h
  · cases h
noncomputable def mStore (P : Program) (s : S) (t : TypeId) (a v : AV) : Option (AV × S) :=
  match a, P.info? t with
  | .p b o, some i => bif Nat.beq (len (cellsA v)) i.size then (bif allOne (cellsA v) then (match s.h.get b with
      | some (.cells c e ex) => (match over (cellsA v) c o with
        | some c => some (und, ⟨s.h.set (some (.cells c e ex)) b, s.n⟩)
        | none => none)
      | _ => none) else none) else none
  | _, _ => none
theorem mStore_run {P : Program} {B : Nat → Prop} {W : World} {D : Dn} {R : Rf} {s s' : S} {w : World} (r : Rel P B W D R s.h w) {t : TypeId} {u v x : AV} {X Y : Value} (hu : conc R u = some X) (hv : conc R v = some Y) (h : mStore P s t u v = some (x, s')) :
    ∃ w', (Instr.storeAt t X Y).run P w = .ok () w' ∧ x = und ∧ Rel P B W D R s'.h w' ∧ Kept B w w' := by
  unfold mStore at h
  split at h
  · rename_i b o i hi
    obtain ⟨k, e, hk, rfl⟩ := conc_p hu
    have hcv := cellsA_conc hv
    cases hb : Nat.beq (len (cellsA v)) i.size with
    | false => rw [hb] at h; cases h
    | true =>
      have hs := Nat.eq_of_beq_eq_true hb
      rw [len_eq] at hs
      cases h1 : allOne (cellsA v) with
      | false => rw [hb, h1] at h; cases h
      | true =>
        rw [hb, h1, cond_true, cond_true] at h
        split at h
        · rename_i c el ex hbl
          split at h
          · rename_i c2 ho
            simp only [Option.some.injEq, Prod.mk.injEq] at h
            obtain ⟨rfl, rfl⟩ := h
            obtain ⟨k', x', w', hk', hst, hr, hbl2⟩ := write_row r hbl ho hcv h1 hk
            rw [hk] at hk'
            simp only [Option.some.injEq, Prod.mk.injEq] at hk'
            obtain ⟨rfl, rfl⟩ := hk'
            refine ⟨w', ?_, rfl, hr, hbl2⟩
            have hsz : Y.cells.size = i.size := by have := concL_len hcv; simp at this; omega
            simp [Instr.storeAt, Instr.sureAddr, storeVar, run_sizeOf hi, hsz, hst]
          · cases h
        · cases h
  · cases h
noncomputable def mMakeS (P : Program) (s : S) (t : TypeId) (l c : AV) : Option (AV × S) :=
  match P.underlying t, l, c with
  | some (.slice e), .i _ (.ofNat l), .i _ (.ofNat c) => (match P.info? e, zerA P e with
    | some i, some z => bif Nat.beq (len (cellsA z)) i.size then (bif Nat.ble l c then (bif Nat.ble (i.bytes * c) 140737488355328 then (bif Nat.ble c 1000000000000 then
        (match newO (.cells (rep (cellsA z) c) e true) s with
        | some (p, s) => some (.l p 0 l c, s)
        | none => none) else none) else none) else none) else none
    | _, _ => none)
  | _, _, _ => none
theorem mMakeS_run {P : Program} {B : Nat → Prop} {W : World} {D : Dn} {R : Rf} {s s' : S} {w : World} (r : Rel P B W D R s.h w) {t : TypeId} {u v x : AV} {X Y : Value} (hu : conc R u = some X) (hv : conc R v = some Y) (h : mMakeS P s t u v = some (x, s')) :
    ∃ R' z w', R.le R' ∧ (Instr.makeSlice t X Y).run P w = .ok z w' ∧ conc R' x = some z ∧ Rel P B W D R' s'.h w' ∧ Kept B w w' := by
  unfold mMakeS at h
  split at h
  · rename_i e k l k' c ht
    simp only [conc, Option.some.injEq] at hu hv; subst hu; subst hv
    split at h
    · rename_i i z hi hz
      obtain ⟨i', zv, hi', hzv, hc⟩ := zerA_spec hz
      rw [hi] at hi'
      simp only [Option.some.injEq] at hi'; subst hi'
      cases hb : Nat.beq (len (cellsA z)) i.size with
      | false => rw [hb] at h; cases h
      | true =>
        have hs := Nat.eq_of_beq_eq_true hb
        rw [len_eq] at hs
        cases hb2 : Nat.ble l c with
        | false => rw [hb, hb2] at h; cases h
        | true =>
          cases hb3 : Nat.ble (i.bytes * c) 140737488355328 with
          | false => rw [hb, hb2, hb3] at h; cases h
          | true =>
            cases hb4 : Nat.ble c 1000000000000 with
            | false => rw [hb, hb2, hb3, hb4] at h; cases h
            | true =>
              have h2 := ble_le hb2
              have h3 := ble_le hb3
              have h4 := ble_le hb4
              rw [hb, hb2, hb3, hb4, cond_true, cond_true, cond_true, cond_true] at h
              have hcz := cellsA_conc (cvC_conc R 12 zv z hc)
              have hzs : zv.cells.size = i.size := by have := concL_len hcz; simp at this; omega
              split at h
              · rename_i p s2 hn
                simp only [Option.some.injEq, Prod.mk.injEq] at h
                obtain ⟨rfl, rfl⟩ := h
                obtain ⟨R', a1, a2, a3, a4⟩ := new_row r hn (rep_conc hcz c)
                refine ⟨R', .slice (some ⟨w.heap.size, 0, none⟩) l (c + 0), _, a1, ?_, by simp only [conc, a2, Option.map_some], a3, a4⟩
                have hby : (i.bytes : Int) * ((c : Nat) : Int) ≤ 281474976710656 := by
                  have : ((i.bytes * c : Nat) : Int) ≤ 281474976710656 := by omega
                  rwa [Int.natCast_mul] at this
                have hm := run_make (P := P) w t e i zv ht hi hzv k k' (l : Int) (c : Int) (by omega) (by omega) hby (by omega)
                simp only [Int.toNat_natCast, madeCells, ← hzs, range_cells] at hm
                exact hm
              · cases h
    · cases h
  · cases h
end Go.Ev
