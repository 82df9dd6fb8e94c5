/- YtjajcecenflejaaGreatCz31 -/
import Derived.Test.YtjajcecenflejaaGreatCz30
namespace Go.Ev
open Go.RowKit
noncomputable def newO (o : AO) (s : S) : Option (Ps × S) := match s.h.get s.n with
  | none => some (s.n, ⟨s.h.set (some o) s.n, s.n.succ⟩)
  | some _ => none
def oneA : AV → Bool
  | .a _ => false
  | .t _ => false
  | _ => true
noncomputable def allOne (l : List AV) : Bool := List.rec true (fun x _ ih => bif oneA x then ih else false) l
theorem oneA_conc {R : Rf} {v : AV} {x : Value} (h : oneA v = true) (hx : conc R v = some x) : x.oneCell' = true := by
  cases v <;> simp only [conc, Option.map_eq_some_iff, Option.some.injEq] at hx
  all_goals first
    | (cases h; done)
    | (subst hx; rfl)
    | (obtain ⟨_, _, rfl⟩ := hx; rfl)
theorem allOne_conc {R : Rf} : ∀ {l : List AV} {xs : List Value}, allOne l = true → concL R l = some xs → ∀ x ∈ xs, x.oneCell' = true
  | [], xs, _, h, x, hx => by simp only [concL, Option.some.injEq] at h; subst h; simp at hx
  | v :: l, xs, ho, h, x, hx => by
    obtain ⟨y, ys, h1, h2, rfl⟩ := concL_cons.1 h
    have ho' : (bif oneA v then allOne l else false) = true := ho
    cases hv : oneA v with
    | false => rw [hv] at ho'; cases ho'
    | true =>
      rw [hv, cond_true] at ho'
      rcases List.mem_cons.1 hx with rfl | hx
      · exact oneA_conc hv h1
      · exact allOne_conc ho' h2 x hx
def Eff (P : Program) (B : Nat → Prop) (W : World) (D : Dn) (R : Rf) (w : World) (run : Result Next) (v : AV) (h' : PT AO) : Prop :=
  ∃ R' x w', R.le R' ∧ (run = .ok (.value x) w' ∨ run = .ok .skip w' ∧ x = undef) ∧ conc R' v = some x ∧ Rel P B W D R' h' w' ∧ Kept B w w'
section
variable {P : Program} {B : Nat → Prop} {W : World} {D : Dn} {R : Rf} {s : S} {w : World}
theorem newO_spec {o : AO} {p : Ps} {s' : S} (h : newO o s = some (p, s')) : s.h.get p = none ∧ s'.h = s.h.set (some o) p := by
  unfold newO at h
  split at h
  · rename_i hn
    simp only [Option.some.injEq, Prod.mk.injEq] at h
    obtain ⟨rfl, rfl⟩ := h
    exact ⟨hn, rfl⟩
  · cases h
theorem alloc_at (w : World) (O : Obj) : (w.alloc O).heap[w.heap.size]? = some O := by
  show (w.heap.push O)[w.heap.size]? = _
  simp
theorem new_row (r : Rel P B W D R s.h w) {c : List AV} {e : TypeId} {p : Ps} {s' : S} (hn : newO (.cells c e true) s = some (p, s')) {xs : List Value} (hc : concL R c = some xs) :
    ∃ R', R.le R' ∧ R' p = some (w.heap.size, 0) ∧ Rel P B W D R' s'.h (w.alloc (.cells xs.toArray e)) ∧ Kept B w (w.alloc (.cells xs.toArray e)) := by
  obtain ⟨h1, h2⟩ := newO_spec hn
  have hle := Rf.le_put (w.heap.size, 0) (r.new p h1)
  have := r.alloc (O := .cells xs.toArray e) (x := 0) (o := .cells c e true) h1 ⟨xs, [], concL_mono hle _ _ hc, by rw [List.append_nil]; exact alloc_at w _, by simp, fun _ => rfl⟩
  rw [h2]
  exact ⟨_, hle, Rf.put_at .., this.1, this.2.2⟩
theorem new_long (r : Rel P B W D R s.h w) {c : List AV} {e : TypeId} {p : Ps} {s' : S} (hn : newO (.cells c e false) s = some (p, s')) {xs tail : List Value} {x : Nat} (hc : concL R c = some xs) (ht : tail.length = x * P.cellsOf e) :
    ∃ R', R.le R' ∧ R' p = some (w.heap.size, x) ∧ Rel P B W D R' s'.h (w.alloc (.cells (xs ++ tail).toArray e)) ∧ Kept B w (w.alloc (.cells (xs ++ tail).toArray e)) := by
  obtain ⟨h1, h2⟩ := newO_spec hn
  have hle := Rf.le_put (w.heap.size, x) (r.new p h1)
  have := r.alloc (O := .cells (xs ++ tail).toArray e) (x := x) (o := .cells c e false) h1 ⟨xs, tail, concL_mono hle _ _ hc, alloc_at w _, ht, fun h => by cases h⟩
  rw [h2]
  exact ⟨_, hle, Rf.put_at .., this.1, this.2.2⟩
theorem kept_setRow {B : Nat → Prop} {g : Nat} {w0 w : World} (hb : Kept B w0 w) (hBg : ¬ B g) (cs : Array Value) : Kept B w0 (w.setRow g cs) :=
  hb.trans ⟨rfl, rfl, rfl, by simp, fun k hk => setRow_other w g k _ (fun e => hBg (e ▸ hk))⟩
theorem write_row (r : Rel P B W D R s.h w) {b : Ps} {c c' m : List AV} {e : TypeId} {ex : Bool} {o : Nat} (hb : s.h.get b = some (.cells c e ex)) (ho : over m c o = some c') {ms : List Value} (hm : concL R m = some ms) (h1 : allOne m = true) {y : Nat × Nat} (hy : R b = some y) :
    ∃ k x w', R b = some (k, x) ∧ (storeCells ⟨k, o, none⟩ ms).run P w = .ok () w' ∧ Rel P B W D R (s.h.set (some (.cells c' e ex)) b) w' ∧ Kept B w w' := by
  obtain ⟨k, x, xs, tail, hk, hxs, hheap, htl, hex⟩ := cells_at r hb hy
  obtain ⟨hle, hc'⟩ := over_conc ho hm hxs
  have hst := run_storeCells_at (P := P) k o e ms 0 (xs ++ tail).toArray w hheap (by simp; omega) (allOne_conc h1 hm)
  refine ⟨k, x, _, hk, hst, ?_, kept_setRow (Kept.refl B w) (r.lo b k x hk).1 _⟩
  refine r.write hb rfl hk (kept_setRow (Kept.refl B w) (r.lo b k x hk).1 _) (by simp) ?_ (fun j hj => setRow_other w k j _ hj)
  refine ⟨_, tail, hc', ?_, htl, hex⟩
  rw [setRow_heap w k _ _ e (0, 0) hheap]
  simp only [Nat.add_zero]
  congr 3
  rw [List.take_append_of_le_length (by omega), List.drop_append_of_le_length (by omega)]
  simp [List.append_assoc]
end
theorem rep_conc {R : Rf} {z : List AV} {zs : List Value} (h : concL R z = some zs) : ∀ n, concL R (rep z n) = some (List.replicate n zs).flatten
  | 0 => rfl
  | n + 1 => by
    show concL R (app z (rep z n)) = _
    rw [app_eq, List.replicate_succ, List.flatten_cons]
    exact concL_app h (rep_conc h n)
theorem flat_get (zs : List Value) (d : Value) : ∀ (n i : Nat), i < n * zs.length → ((List.replicate n zs).flatten)[i]? = some (zs.getD (i % zs.length) d)
  | 0, i, h => by simp at h
  | n + 1, i, h => by
    rw [List.replicate_succ, List.flatten_cons]
    by_cases hi : i < zs.length
    · rw [List.getElem?_append_left hi, Nat.mod_eq_of_lt hi]
      simp [List.getD, List.getElem?_eq_getElem hi]
    · rw [List.getElem?_append_right (by omega), flat_get zs d n (i - zs.length) (by rw [Nat.succ_mul] at h; omega)]
      congr 2
      rw [Nat.mod_eq_sub_mod (by omega : i ≥ zs.length)]
theorem range_cells (z : Array Value) (n : Nat) : ((Array.range (n * z.size)).map (z[· % z.size]!)) = ((List.replicate n z.toList).flatten).toArray := by
  apply Array.ext'
  apply List.ext_getElem?
  intro i
  simp only [Array.toList_map, Array.toList_range, List.getElem?_map]
  by_cases hi : i < n * z.size
  · rw [List.getElem?_range hi, flat_get z.toList default n i (by simpa using hi)]
    have hz : 0 < z.size := by
      rcases Nat.eq_zero_or_pos z.size with h | h
      · rw [h] at hi; simp at hi
      · exact h
    have hm : i % z.size < z.size := Nat.mod_lt _ hz
    simp [hm, List.getD]
  · rw [List.getElem?_eq_none (by simpa using hi), List.getElem?_eq_none (by simp; omega)]; rfl
noncomputable def mAlloc (P : Program) (s : S) (e : TypeId) : Option (AV × S) :=
  match zerA P e with
  | some z => (match newO (.cells (cellsA z) e true) s with
    | some (p, s) => some (.p p 0, s)
    | none => none)
  | none => none
theorem mAlloc_run {P : Program} {B : Nat → Prop} {W : World} {D : Dn} {R : Rf} {s s' : S} {w : World} (r : Rel P B W D R s.h w) {e : TypeId} {v : AV} (h : mAlloc P s e = some (v, s')) :
    ∃ R' x w', R.le R' ∧ (Instr.alloc e true (.tuple #[])).run P w = .ok x w' ∧ conc R' v = some x ∧ Rel P B W D R' s'.h w' ∧ Kept B w w' := by
  unfold mAlloc at h
  split at h
  · rename_i z hz
    obtain ⟨i, zv, hi, hzv, hc⟩ := zerA_spec hz
    split at h
    · rename_i p s2 hn
      simp only [Option.some.injEq, Prod.mk.injEq] at h
      obtain ⟨rfl, rfl⟩ := h
      obtain ⟨R', h1, h2, h3, h4⟩ := new_row r hn (cellsA_conc (cvC_conc R 12 zv z hc))
      refine ⟨R', .pointer (some ⟨w.heap.size, 0, none⟩), _, h1, ?_, by simp only [conc, h2, Option.map_some], h3, h4⟩
      simp [Instr.alloc, run_zero hi hzv, newVar, newRow]
    · cases h
  · cases h
noncomputable def mBox (s : S) (e : TypeId) (v : AV) : Option (AV × S) :=
  match newO (.cells (cellsA v) e true) s with
  | some (p, s) => some (.p p 0, s)
  | none => none
theorem mBox_run {P : Program} {B : Nat → Prop} {W : World} {D : Dn} {R : Rf} {s s' : S} {w : World} (r : Rel P B W D R s.h w) {e : TypeId} {u v : AV} {X : Value} (hu : conc R u = some X) (h : mBox s e u = some (v, s')) :
    ∃ R' x w', R.le R' ∧ (Instr.box e X).run P w = .ok x w' ∧ conc R' v = some x ∧ Rel P B W D R' s'.h w' ∧ Kept B w w' := by
  unfold mBox at h
  split at h
  · rename_i p s2 hn
    simp only [Option.some.injEq, Prod.mk.injEq] at h
    obtain ⟨rfl, rfl⟩ := h
    obtain ⟨R', h1, h2, h3, h4⟩ := new_row r hn (cellsA_conc hu)
    refine ⟨R', .pointer (some ⟨w.heap.size, 0, none⟩), _, h1, ?_, by simp only [conc, h2, Option.map_some], h3, h4⟩
    simp [Instr.box, newVar, newRow]
  · cases h
noncomputable def mBuildS (P : Program) (fr : Fr) (s : S) (t : TypeId) (n : Nat) (ps : List (Nat × Operand)) : Option (AV × S) :=
  match P.underlying t with
  | some (.slice e) => (match P.info? e, zerA P e with
    | some i, some z => bif Nat.beq (len (cellsA z)) i.size then (bif Nat.ble (n * i.size) 16777216 then
        (match fillA (fun j => some (j * i.size, i.size)) fr ps (rep (cellsA z) n) with
        | some c => (match newO (.cells c e true) s with
          | some (p, s) => some (.l p 0 n n, s)
          | none => none)
        | none => none) else none) else none
    | _, _ => none)
  | _ => none
theorem mBuildS_run {P : Program} {B : Nat → Prop} {W : World} {D : Dn} {R : Rf} {s s' : S} {w : World} (r : Rel P B W D R s.h w) {fr : Fr} {a : Act} (hf : FrR R fr a) {t : TypeId} {n : Nat} {ps : Array (Nat × Operand)} {v : AV} (h : mBuildS P fr s t n ps.toList = some (v, s')) :
    ∃ R' x w', R.le R' ∧ (Instr.buildSlice t n (ps.map fun (i, x) => (i, a.eval x))).run P w = .ok x w' ∧ conc R' v = some x ∧ Rel P B W D R' s'.h w' ∧ Kept B w w' := by
  unfold mBuildS at h
  have hmap : (ps.map fun (i, x) => (i, a.eval x)).toList = ps.toList.map fun p => (p.1, a.eval p.2) := by simp
  split at h
  · rename_i e hu
    split at h
    · rename_i i z hi hz
      obtain ⟨i', zv, hi', hzv, hc⟩ := zerA_spec hz
      rw [hi] at hi'
      simp only [Option.some.injEq] at hi'; subst hi'
      cases hb : Nat.beq (len (cellsA z)) i.size with
      | false => rw [hb] at h; cases h
      | true =>
        have hs := Nat.eq_of_beq_eq_true hb
        rw [len_eq] at hs
        cases hb2 : Nat.ble (n * i.size) 16777216 with
        | false => rw [hb, hb2] at h; cases h
        | true =>
          have hsz := ble_le hb2
          rw [hb, hb2, cond_true, cond_true] at h
          have hcz := cellsA_conc (cvC_conc R 12 zv z hc)
          have hzs : zv.cells.size = i.size := by have := concL_len hcz; simp at this; omega
          split at h
          · rename_i c hfl
            split at h
            · rename_i p s2 hn
              simp only [Option.some.injEq, Prod.mk.injEq] at h
              obtain ⟨rfl, rfl⟩ := h
              obtain ⟨ys, h1, h2⟩ := fillA_run hf hfl (rep_conc hcz n)
              obtain ⟨R', h3, h4, h5, h6⟩ := new_row r hn h1
              refine ⟨R', .slice (some ⟨w.heap.size, 0, none⟩) n (n + 0), _, h3, ?_, by simp only [conc, h4, Option.map_some], h5, h6⟩
              have hrc := range_cells zv.cells n
              rw [hzs] at hrc
              by_cases h0 : n * i.size = 0
              · have e0 : (List.replicate n zv.cells.toList).flatten = [] := by
                  apply List.eq_nil_of_length_eq_zero
                  simp [List.length_flatten, hzs, h0]
                rw [e0] at h2
                have e1 : ((Array.range (n * i.size)).map fun x => (#[] : Array Value)[x % (#[] : Array Value).size]!) = ([] : List Value).toArray := by
                  apply Array.ext'; simp [h0]
                have hlt : ¬ (n * i.size > 16777216) := by omega
                simp only [Instr.buildSlice, Sem.run_bind, run_underlying hu, Result.andThen_ok, run_sizeOf hi]
                simp only [Nat.reducePow]
                rw [if_neg hlt, if_pos h0]
                simp only [Sem.run_pure, Result.andThen_ok, e1, hmap, h2, Sem.run_bind, newRow, run_newObj]
                rfl
              · have hlt : ¬ (n * i.size > 16777216) := by omega
                simp only [Instr.buildSlice, Sem.run_bind, run_underlying hu, Result.andThen_ok, run_sizeOf hi]
                simp only [Nat.reducePow]
                rw [if_neg hlt, if_neg h0]
                simp only [Sem.run_bind, run_zero hi hzv, Sem.run_pure, Result.andThen_ok, hzs, hrc, hmap, h2, newRow, run_newObj]
                rfl
            · cases h
          · cases h
    · cases h
  · cases h
noncomputable def mStore (P : Program) (s : S) (t : TypeId) (a v : AV) : Option (AV × S) :=
  match a, P.info? t with
  | .p b o, some i => bif Nat.beq (len (cellsA v)) i.size then (bif allOne (cellsA v) then (match s.h.get b with
      | some (.cells c e ex) => (match over (cellsA v) c o with
        | some c => some (und, ⟨s.h.set (some (.cells c e ex)) b, s.n⟩)
        | none => none)
      | _ => none) else none) else none
  | _, _ => none
theorem mStore_run {P : Program} {B : Nat → Prop} {W : World} {D : Dn} {R : Rf} {s s' : S} {w : World} (r : Rel P B W D R s.h w) {t : TypeId} {u v x : AV} {X Y : Value} (hu : conc R u = some X) (hv : conc R v = some Y) (h : mStore P s t u v = some (x, s')) :
    ∃ w', (Instr.storeAt t X Y).run P w = .ok () w' ∧ x = und ∧ Rel P B W D R s'.h w' ∧ Kept B w w' := by
  unfold mStore at h
  split at h
  · rename_i b o i hi
    obtain ⟨k, e, hk, rfl⟩ := conc_p hu
    have hcv := cellsA_conc hv
    cases hb : Nat.beq (len (cellsA v)) i.size with
    | false => rw [hb] at h; cases h
    | true =>
      have hs := Nat.eq_of_beq_eq_true hb
      rw [len_eq] at hs
      cases h1 : allOne (cellsA v) with
      | false => rw [hb, h1] at h; cases h
      | true =>
        rw [hb, h1, cond_true, cond_true] at h
        split at h
        · rename_i c el ex hbl
          split at h
          · rename_i c2 ho
            simp only [Option.some.injEq, Prod.mk.injEq] at h
            obtain ⟨rfl, rfl⟩ := h
            obtain ⟨k', x', w', hk', hst, hr, hbl2⟩ := write_row r hbl ho hcv h1 hk
            rw [hk] at hk'
            simp only [Option.some.injEq, Prod.mk.injEq] at hk'
            obtain ⟨rfl, rfl⟩ := hk'
            refine ⟨w', ?_, rfl, hr, hbl2⟩
            have hsz : Y.cells.size = i.size := by have := concL_len hcv; simp at this; omega
            simp [Instr.storeAt, Instr.sureAddr, storeVar, run_sizeOf hi, hsz, hst]
          · cases h
        · cases h
  · cases h
noncomputable def mMakeS (P : Program) (s : S) (t : TypeId) (l c : AV) : Option (AV × S) :=
  match P.underlying t, l, c with
  | some (.slice e), .i _ (.ofNat l), .i _ (.ofNat c) => (match P.info? e, zerA P e with
    | some i, some z => bif Nat.beq (len (cellsA z)) i.size then (bif Nat.ble l c then (bif Nat.ble (i.bytes * c) 140737488355328 then (bif Nat.ble c 1000000000000 then
        (match newO (.cells (rep (cellsA z) c) e true) s with
        | some (p, s) => some (.l p 0 l c, s)
        | none => none) else none) else none) else none) else none
    | _, _ => none)
  | _, _, _ => none
theorem mMakeS_run {P : Program} {B : Nat → Prop} {W : World} {D : Dn} {R : Rf} {s s' : S} {w : World} (r : Rel P B W D R s.h w) {t : TypeId} {u v x : AV} {X Y : Value} (hu : conc R u = some X) (hv : conc R v = some Y) (h : mMakeS P s t u v = some (x, s')) :
    ∃ R' z w', R.le R' ∧ (Instr.makeSlice t X Y).run P w = .ok z w' ∧ conc R' x = some z ∧ Rel P B W D R' s'.h w' ∧ Kept B w w' := by
  unfold mMakeS at h
  split at h
  · rename_i e k l k' c ht
    simp only [conc, Option.some.injEq] at hu hv; subst hu; subst hv
    split at h
    · rename_i i z hi hz
      obtain ⟨i', zv, hi', hzv, hc⟩ := zerA_spec hz
      rw [hi] at hi'
      simp only [Option.some.injEq] at hi'; subst hi'
      cases hb : Nat.beq (len (cellsA z)) i.size with
      | false => rw [hb] at h; cases h
      | true =>
        have hs := Nat.eq_of_beq_eq_true hb
        rw [len_eq] at hs
        cases hb2 : Nat.ble l c with
        | false => rw [hb, hb2] at h; cases h
        | true =>
          cases hb3 : Nat.ble (i.bytes * c) 140737488355328 with
          | false => rw [hb, hb2, hb3] at h; cases h
          | true =>
            cases hb4 : Nat.ble c 1000000000000 with
            | false => rw [hb, hb2, hb3, hb4] at h; cases h
            | true =>
              have h2 := ble_le hb2
              have h3 := ble_le hb3
              have h4 := ble_le hb4
              rw [hb, hb2, hb3, hb4, cond_true, cond_true, cond_true, cond_true] at h
              have hcz := cellsA_conc (cvC_conc R 12 zv z hc)
              have hzs : zv.cells.size = i.size := by have := concL_len hcz; simp at this; omega
              split at h
              · rename_i p s2 hn
                simp only [Option.some.injEq, Prod.mk.injEq] at h
                obtain ⟨rfl, rfl⟩ := h
                obtain ⟨R', a1, a2, a3, a4⟩ := new_row r hn (rep_conc hcz c)
                refine ⟨R', .slice (some ⟨w.heap.size, 0, none⟩) l (c + 0), _, a1, ?_, by simp only [conc, a2, Option.map_some], a3, a4⟩
                have hby : (i.bytes : Int) * ((c : Nat) : Int) ≤ 281474976710656 := by
                  have : ((i.bytes * c : Nat) : Int) ≤ 281474976710656 := by omega
                  rwa [Int.natCast_mul] at this
                have hm := run_make (P := P) w t e i zv ht hi hzv k k' (l : Int) (c : Int) (by omega) (by omega) hby (by omega)
                simp only [Int.toNat_natCast, madeCells, ← hzs, range_cells] at hm
                exact hm
              · cases h
    · cases h
  · cases h
end Go.Ev
namespace Go.Ev
open Go.RowKit
noncomputable def sbA : Nat → AV → AV → Bool
  | 0, _, _ => false
  | n + 1, x, y => match x, y with
    | .b a, .b c => a == c
    | .i j a, .i k c => bif kEq j k then iEq a c else false
    | .s a, .s c => sEq a c
    | .a a, .a c => (List.rec (fun m => List.rec true (fun _ _ _ => false) m) (fun x _ ih m => List.rec false (fun y m _ => bif sbA n x y then ih m else false) m) a : List AV → Bool) c
    | _, _ => false
noncomputable def sbL (n : Nat) (a : List AV) : List AV → Bool := List.rec (fun m => List.rec true (fun _ _ _ => false) m) (fun x _ ih m => List.rec false (fun y m _ => bif sbA n x y then ih m else false) m) a
theorem sbA_run (R : Rf) : ∀ (n m : Nat) (x y : AV) (X Y : Value), sbA n x y = true → conc R x = some X → conc R y = some Y → Instr.sameBits (n + m) X Y = true
  | 0, _, _, _, _, _, h, _, _ => by cases h
  | n + 1, m, x, y, X, Y, h, hX, hY => by
    have ih := sbA_run R n m
    rw [show n + 1 + m = (n + m) + 1 by omega]
    unfold sbA at h
    split at h
    · simp only [conc, Option.some.injEq] at hX hY; subst hX; subst hY; exact h
    · rename_i j a k c
      simp only [conc, Option.some.injEq] at hX hY; subst hX; subst hY
      cases hk : kEq j k with
      | false => rw [hk] at h; cases h
      | true =>
        rw [hk, cond_true, iEq_eq] at h
        obtain rfl := kEq_eq hk
        simp only [Instr.sameBits, beq_self_eq_true, Bool.true_and]; exact h
    · simp only [conc, Option.some.injEq] at hX hY; subst hX; subst hY
      rw [sEq_eq] at h
      simp only [beq_iff_eq] at h
      simp [Instr.sameBits, h, beq_toListBytes]
    · rename_i a c
      obtain ⟨xs, hxs, rfl⟩ := conc_a hX
      obtain ⟨ys, hys, rfl⟩ := conc_a hY
      have h' : sbL n a c = true := h
      have key : ∀ (a c : List AV) (xs ys : List Value), sbL n a c = true → concL R a = some xs → concL R c = some ys → xs.length = ys.length ∧ ∀ p ∈ xs.zip ys, Instr.sameBits (n + m) p.1 p.2 = true := by
        intro a
        induction a with
        | nil =>
          intro c xs ys h1 h2 h3
          cases c with
          | nil => simp only [concL, Option.some.injEq] at h2 h3; subst h2; subst h3; simp
          | cons y c => cases h1
        | cons x a iha =>
          intro c xs ys h1 h2 h3
          cases c with
          | nil => cases h1
          | cons y c =>
            obtain ⟨X, xs', a1, a2, rfl⟩ := concL_cons.1 h2
            obtain ⟨Y, ys', b1, b2, rfl⟩ := concL_cons.1 h3
            have h1' : (bif sbA n x y then sbL n a c else false) = true := h1
            cases hs : sbA n x y with
            | false => rw [hs] at h1'; cases h1'
            | true =>
              rw [hs, cond_true] at h1'
              obtain ⟨c1, c2⟩ := iha c xs' ys' h1' a2 b2
              refine ⟨by simp [c1], fun p hp => ?_⟩
              rw [List.zip_cons_cons] at hp
              rcases List.mem_cons.1 hp with rfl | hp
              · exact ih x y X Y hs a1 b1
              · exact c2 p hp
      obtain ⟨k1, k2⟩ := key a c xs ys h' hxs hys
      simp only [Instr.sameBits, List.size_toArray, k1, beq_self_eq_true, Bool.true_and, List.all_eq_true]
      exact fun p hp => k2 p hp
    · cases h
noncomputable def putE (es : List (AV × AV × Nat)) (k v : AV) : Nat → List (AV × AV × Nat) := List.rec (fun _ => []) (fun e es ih i => Nat.rec ((k, v, e.2.2) :: es) (fun i _ => e :: ih i) i) es
theorem putE_conc {R : Rf} {k v : AV} {X Y : Value} (hk : conc R k = some X) (hv : conc R v = some Y) : ∀ {es : List (AV × AV × Nat)} {ES : List MapEntry} (i : Nat), entC R es = some ES → entC R (putE es k v i) = some (ES.modify i fun e => { e with key := X, val := Y })
  | [], ES, i, h => by simp only [entC, Option.some.injEq] at h; subst h; cases i <;> rfl
  | (k', v', n) :: es, ES, i, h => by
    obtain ⟨x, y, zs, h1, h2, h3, rfl⟩ := entC_cons.1 h
    cases i with
    | zero => exact entC_cons.2 ⟨X, Y, zs, hk, hv, h3, rfl⟩
    | succ i => exact entC_cons.2 ⟨x, y, _, h1, h2, putE_conc hk hv i h3, rfl⟩
theorem entC_app {R : Rf} : ∀ {l m : List (AV × AV × Nat)} {es fs : List MapEntry}, entC R l = some es → entC R m = some fs → entC R (l ++ m) = some (es ++ fs)
  | [], _, _, _, e, h => by simp only [entC, Option.some.injEq] at e; subst e; simpa using h
  | (k, v, n) :: l, m, es, fs, e, h => by
    obtain ⟨x, y, zs, h1, h2, h3, rfl⟩ := entC_cons.1 e
    exact entC_cons.2 ⟨x, y, _, h1, h2, entC_app h3 h, rfl⟩
theorem entC_get {R : Rf} : ∀ {l : List (AV × AV × Nat)} {es : List MapEntry} {i : Nat} {k v : AV} {n : Nat}, entC R l = some es → l[i]? = some (k, v, n) → ∃ X Y, es[i]? = some ⟨X, Y, n⟩ ∧ conc R k = some X ∧ conc R v = some Y
  | [], _, _, _, _, _, _, h => by simp at h
  | (k', v', n') :: l, es, 0, k, v, n, e, h => by
    obtain ⟨x, y, zs, h1, h2, h3, rfl⟩ := entC_cons.1 e
    simp at h; obtain ⟨rfl, rfl, rfl⟩ := h
    exact ⟨x, y, rfl, h1, h2⟩
  | (k', v', n') :: l, es, i + 1, k, v, n, e, h => by
    obtain ⟨x, y, zs, h1, h2, h3, rfl⟩ := entC_cons.1 e
    simpa using entC_get h3 (by simpa using h)
noncomputable def mMapU (P : Program) (s : S) (t : TypeId) (m k v : AV) : Option (AV × S) :=
  match m, P.underlying t with
  | .m b, some (.map kt _) => (match s.h.get b with
    | some (.map es cl) => bif ckA P 6 kt k then (match findA P kt k es 0 with
        | some none => some (und, ⟨s.h.set (some (.map (app es [(k, v, cl)]) (cl + 1))) b, s.n⟩)
        | some (some (i, _)) => (match nth es i with
          | some e => bif sbA 12 e.1 k then some (und, ⟨s.h.set (some (.map (putE es k v i) cl)) b, s.n⟩) else none
          | none => none)
        | none => none) else none
    | _ => none)
  | _, _ => none
theorem map_at {P : Program} {B : Nat → Prop} {W : World} {D : Dn} {R : Rf} {h : PT AO} {w : World} (r : Rel P B W D R h w) {b : Ps} {es : List (AV × AV × Nat)} {cl : Nat} (hb : h.get b = some (.map es cl)) {y : Nat × Nat} (hy : R b = some y) :
    ∃ k x ys, R b = some (k, x) ∧ entC R es = some ys ∧ w.heap[k]? = some (.map ys.toArray cl) := by
  obtain ⟨ys, h2, h3⟩ := r.obj b _ y.1 y.2 hb hy
  exact ⟨y.1, y.2, ys, hy, h2, h3⟩
theorem run_getMap {P : Program} {w : World} {k : Nat} {ys : Array MapEntry} {cl : Nat} (h : w.heap[k]? = some (.map ys cl)) : (getObj k).run P w = .ok (.map ys cl) w := by simp [getObj, Sem.run, h]
def setO (w : World) (k : Nat) (O : Obj) : World := { w with heap := w.heap.setIfInBounds k O }
theorem run_setMap {P : Program} {w : World} {k : Nat} {ys : Array MapEntry} {cl : Nat} (h : w.heap[k]? = some (.map ys cl)) (O : Obj) : (setObj k O).run P w = .ok () (setO w k O) := by simp [setObj, Sem.run, h, setO]
theorem setO_at {w : World} {k : Nat} {O : Obj} (h : k < w.heap.size) : (setO w k O).heap[k]? = some O := by simp [setO, h]
theorem setO_ne (w : World) {k j : Nat} (O : Obj) (h : j ≠ k) : (setO w k O).heap[j]? = w.heap[j]? := by simp only [setO]; rw [Array.getElem?_setIfInBounds_ne (fun e => h e.symm)]
theorem setO_size (w : World) (k : Nat) (O : Obj) : (setO w k O).heap.size = w.heap.size := by simp [setO]
theorem setO_below {w : World} {k : Nat} {B : Nat → Prop} (O : Obj) (h : ¬ B k) : Kept B w (setO w k O) := ⟨rfl, rfl, rfl, by rw [setO_size]; exact Nat.le_refl _, fun j hj => setO_ne w O (fun e => h (e ▸ hj))⟩
theorem mMapU_run {P : Program} {B : Nat → Prop} {W : World} {D : Dn} {R : Rf} {s s' : S} {w : World} (r : Rel P B W D R s.h w) {t : TypeId} {m k v x : AV} {M K V : Value} (hm : conc R m = some M) (hk : conc R k = some K) (hv : conc R v = some V) (h : mMapU P s t m k v = some (x, s')) :
    ∃ w', (Instr.mapUpdate t M K V).run P w = .ok () w' ∧ x = und ∧ Rel P B W D R s'.h w' ∧ Kept B w w' := by
  unfold mMapU at h
  split at h
  · rename_i b kt et ht
    obtain ⟨kb, e, hkb, rfl⟩ := conc_m hm
    split at h
    · rename_i es cl hb
      obtain ⟨kb', x', ys, hkb', hys, hheap⟩ := map_at r hb hkb
      have hlo := r.lo b kb' x' hkb'
      have hkb2 := hkb'
      rw [hkb] at hkb'
      simp only [Option.some.injEq, Prod.mk.injEq] at hkb'
      obtain ⟨rfl, rfl⟩ := hkb'
      cases hck : ckA P 6 kt k with
      | false => rw [hck] at h; cases h
      | true =>
        rw [hck, cond_true] at h
        obtain ⟨u, hu⟩ := ckA_under hck
        have hcr := ckA_run false R w 6 9994 kt k K hck hk
        split at h
        · rename_i hfa
          simp only [Option.some.injEq, Prod.mk.injEq] at h
          obtain ⟨rfl, rfl⟩ := h
          obtain ⟨q, hq1, hq2⟩ := findKey_run hu hk w hfa hys
          cases q with
          | some q => cases hq1
          | none =>
            refine ⟨setO w kb (.map (ys.toArray.push { key := K, val := V, born := cl }) (cl + 1)), ?_, rfl, ?_, setO_below _ hlo.1⟩
            · simp only [Instr.mapUpdate, Sem.run_bind, run_underlying ht, Result.andThen_ok, run_getMap hheap, hcr, hq2]
              exact run_setMap hheap _
            · refine r.write hb rfl hkb2 (setO_below _ hlo.1) (setO_size ..) ?_ (fun j hj => setO_ne w _ hj)
              refine ⟨ys ++ [⟨K, V, cl⟩], ?_, ?_⟩
              · rw [app_eq]; exact entC_app hys (entC_cons.2 ⟨K, V, [], hk, hv, rfl, rfl⟩)
              · rw [setO_at hlo.2]; simp
        · rename_i i y hfa
          split at h
          · rename_i e1 he1
            rw [nth_eq] at he1
            obtain ⟨k1, v1, n1⟩ := e1
            cases hsb : sbA 12 k1 k with
            | false => rw [hsb] at h; cases h
            | true =>
              rw [hsb] at h
              simp only [cond_true, Option.some.injEq, Prod.mk.injEq] at h
              obtain ⟨rfl, rfl⟩ := h
              obtain ⟨q, hq1, hq2⟩ := findKey_run hu hk w hfa hys
              cases q with
              | none => cases hq1
              | some q =>
                obtain ⟨i', Y⟩ := q
                obtain ⟨rfl, hY⟩ := hq1
                obtain ⟨K1, V1, g1, g2, g3⟩ := entC_get hys he1
                have hsame : Instr.sameBits 10000 K1 K = true := sbA_run R 12 9988 k1 k K1 K hsb g2 hk
                refine ⟨setO w kb (.map (ys.toArray.modify i fun e => { e with key := K, val := V }) cl), ?_, rfl, ?_, setO_below _ hlo.1⟩
                · simp only [Instr.mapUpdate, Sem.run_bind, run_underlying ht, Result.andThen_ok, run_getMap hheap, hcr, hq2]
                  have hks : (Instr.keyThatStays (((ys.toArray[i]?).map (·.key)).getD K) K).run P w = .ok K w := by
                    simp [Instr.keyThatStays, g1, hsame]
                  rw [hks]
                  exact run_setMap hheap _
                · refine r.write hb rfl hkb2 (setO_below _ hlo.1) (setO_size ..) ?_ (fun j hj => setO_ne w _ hj)
                  refine ⟨_, putE_conc hk hv i hys, ?_⟩
                  rw [setO_at hlo.2]
                  congr 2
                  apply Array.ext'
                  simp
          · cases h
        · cases h
    · cases h
  · cases h
theorem new_map {P : Program} {B : Nat → Prop} {W : World} {D : Dn} {R : Rf} {s s' : S} {w : World} (r : Rel P B W D R s.h w) {o : AO} {O : Obj} {p : Ps} (hn : newO o s = some (p, s'))
    (ho : ∀ R' w', R.le R' → w'.heap[w.heap.size]? = some O → HObj P R' w' w.heap.size 0 o) :
    ∃ R', R.le R' ∧ R' p = some (w.heap.size, 0) ∧ Rel P B W D R' s'.h (w.alloc O) ∧ Kept B w (w.alloc O) := by
  obtain ⟨h1, h2⟩ := newO_spec hn
  have hle := Rf.le_put (w.heap.size, 0) (r.new p h1)
  have := r.alloc (O := O) (x := 0) (o := o) h1 (ho _ _ hle (alloc_at w _))
  rw [h2]
  exact ⟨_, hle, Rf.put_at .., this.1, this.2.2⟩
noncomputable def lenA : AV → Option Nat
  | .l0 => some 0
  | .l _ _ n _ => some n
  | .lx _ _ n _ => some n
  | .le .. => some 0
  | .s l => some (len l)
  | _ => none
noncomputable def srcA (h : PT AO) (size n : Nat) : AV → Option (List AV)
  | .l0 => some []
  | .l b o _ _ => ldN h b o (n * size)
  | .lx b o _ _ => ldN h b o (n * size)
  | .le .. => bif Nat.beq n 0 then some [] else none
  | .s l => some ((take l n).map fun c => .i .u8 (.ofNat c.toNat))
  | _ => none
theorem lenA_run {P : Program} {R : Rf} {v : AV} {X : Value} {n : Nat} (h : lenA v = some n) (hv : conc R v = some X) (w : World) : (Builtin.lenOf X).run P w = .ok n w := by
  unfold lenA at h
  split at h
  · simp only [conc, Option.some.injEq] at hv h; subst hv; subst h; rfl
  · obtain ⟨k, e, _, rfl⟩ := conc_l hv
    simp only [Option.some.injEq] at h; subst h; rfl
  · obtain ⟨k, e, _, rfl⟩ := conc_lx hv
    simp only [Option.some.injEq] at h; subst h; rfl
  · simp only [conc, Option.map_eq_some_iff] at hv
    obtain ⟨_, _, rfl⟩ := hv
    simp only [Option.some.injEq] at h; subst h; rfl
  · rename_i l
    simp only [conc, Option.some.injEq] at hv h; subst hv; subst h
    have : (⟨l.toArray⟩ : ByteArray).size = l.length := by simp [ByteArray.size]
    simp [Builtin.lenOf, this, len_eq]
  · cases h
theorem concL_u8 (R : Rf) : ∀ l : List UInt8, concL R (l.map fun c => .i .u8 (.ofNat c.toNat)) = some (l.map fun b => .int .u8 (b.toNat : Int))
  | [] => rfl
  | _ :: l => concL_cons.2 ⟨_, _, rfl, concL_u8 R l, rfl⟩
theorem srcA_run {P : Program} {B : Nat → Prop} {W : World} {D : Dn} {R : Rf} {h : PT AO} {w : World} (r : Rel P B W D R h w) {v : AV} {X : Value} {size n : Nat} {l : List AV} (hs : srcA h size n v = some l) (hv : conc R v = some X) :
    ∃ xs, concL R l = some xs ∧ (Builtin.firstCells size n X).run P w = .ok xs.toArray w := by
  unfold srcA at hs
  split at hs
  · simp only [conc, Option.some.injEq] at hv hs; subst hv; subst hs
    exact ⟨[], rfl, rfl⟩
  · obtain ⟨k, e, hk, rfl⟩ := conc_l hv
    obtain ⟨k', x', ys, h1, h2, h3, h4⟩ := ldN_run r hs hk
    rw [hk] at h1
    simp only [Option.some.injEq, Prod.mk.injEq] at h1
    obtain ⟨rfl, rfl⟩ := h1
    refine ⟨ys, h2, ?_⟩
    have := loadCells_at (P := P) h4
    rw [h3] at this
    exact this
  · obtain ⟨k, e, hk, rfl⟩ := conc_lx hv
    obtain ⟨k', x', ys, h1, h2, h3, h4⟩ := ldN_run r hs hk
    rw [hk] at h1
    simp only [Option.some.injEq, Prod.mk.injEq] at h1
    obtain ⟨rfl, rfl⟩ := h1
    refine ⟨ys, h2, ?_⟩
    have := loadCells_at (P := P) h4
    rw [h3] at this
    exact this
  · simp only [conc, Option.map_eq_some_iff] at hv
    obtain ⟨_, _, rfl⟩ := hv
    cases h0 : Nat.beq n 0 with
    | false => rw [h0] at hs; cases hs
    | true =>
      rw [h0, cond_true, Option.some.injEq] at hs
      subst hs
      obtain rfl := Nat.eq_of_beq_eq_true h0
      exact ⟨[], rfl, by simp [Builtin.firstCells, loadCellsFrom, loadCells]⟩
  · rename_i l
    simp only [conc, Option.some.injEq] at hv hs; subst hv; subst hs
    refine ⟨_, concL_u8 R _, ?_⟩
    simp only [Builtin.firstCells, Sem.run_pure, Result.ok.injEq, and_true, take_eq]
    rw [extract_mk]
    simp
  · cases hs
def isIntT : TypeDesc → Bool
  | .int _ => true
  | _ => false
noncomputable def mAppZ (P : Program) (s : S) (e : TypeId) (x y : AV) : Option (AV × S) :=
  match x, y with
  | .l0, .i _ (.ofNat n) => (match P.info? e, zerA P e with
    | some i, some z => bif Nat.beq (len (cellsA z)) i.size then (bif Nat.beq n 0 then some (.l0, s) else (bif Nat.beq i.size 0 then none else
        (bif Nat.ble (n * i.bytes) 140737488355328 then (bif Nat.ble n 1000000000000 then (match newO (.cells (rep (cellsA z) n) e false) s with
          | some (p, s) => some (.l p 0 n n, s)
          | none => none) else none) else none))) else none
    | _, _ => none)
  | _, _ => none
noncomputable def mApp (P : Program) (s : S) (t t2 : TypeId) (x y : AV) : Option (AV × S) :=
  match P.underlying t, P.underlying t2 with
  | some (.slice e), some u2 => bif isIntT u2 then mAppZ P s e x y else (match P.info? e, zerA P e, lenA y with
    | some i, some z, some n => bif Nat.beq (len (cellsA z)) i.size then (match srcA s.h i.size n y with
      | some new => bif allOne new then (bif Nat.beq (len new) (n * i.size) then (match x with
        | .l0 => bif Nat.beq n 0 then some (.l0, s) else (bif Nat.ble (n * i.bytes) 140737488355328 then (bif Nat.ble n 1000000000000 then (match newO (.cells new e false) s with
            | some (p, s) => some (.l p 0 n n, s)
            | none => none) else none) else none)
        | .l b o l c => (match s.h.get b with
          | some (.cells cs e' ex) => bif Nat.beq e e' then (bif Nat.ble (l + n) c
              then (match over new cs (o + l * i.size) with
                | some cs' => some (.l b o (l + n) c, ⟨s.h.set (some (.cells cs' e' ex)) b, s.n⟩)
                | none => none)
              else (match Ev.part cs o (l * i.size) with
                | some old => bif Nat.ble ((l + n) * i.bytes) 140737488355328 then (bif Nat.ble (l + n) 1000000000000 then (match newO (.cells (app old new) e false) s with
                    | some (p, s') => bif ex then some (.l p 0 (l + n) (l + n), s') else
                        (bif Nat.beq o 0 then (bif Nat.beq (len cs) (c * i.size) then some (.l p 0 (l + n) (l + n), ⟨s'.h.set (some .dead) b, s'.n⟩) else none) else none)
                    | none => none) else none) else none
                | none => none)) else none
          | _ => none)
        | .lx b o l c => (match s.h.get b with
          | some (.cells cs e' _) => bif Nat.beq e e' then (bif Nat.ble (l + n) c then none
              else (match Ev.part cs o (l * i.size) with
                | some old => bif Nat.ble ((l + n) * i.bytes) 140737488355328 then (bif Nat.ble (l + n) 1000000000000 then (match newO (.cells (app old new) e false) s with
                    | some (p, s') => some (.l p 0 (l + n) (l + n), s')
                    | none => none) else none) else none
                | none => none)) else none
          | _ => none)
        | _ => none) else none) else none
      | none => none) else none
    | _, _, _ => none)
  | _, _ => none
end Go.Ev
