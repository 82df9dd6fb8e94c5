/- A machine that runs a Go text by reckoning: one operation. Of no program. -/
import Derived.Test.YtjajcecenflejaaEvK
namespace Go.Ev
open Go.RowKit

noncomputable def mRange (P : Program) (s : S) (t : TypeId) (x : AV) : Option (AV × S) :=
  match x, P.underlying t with
  | .m b, some (.map ..) => (match s.h.get b with
    | some (.map _ cl) => (match newO (.iter b cl [] cl) s with
      | some (p, s) => some (.p p 0, s)
      | none => none)
    | _ => none)
  | .m0, some (.map ..) => (match newO .iter0 s with
    | some (p, s) => some (.p p 0, s)
    | none => none)
  | _, _ => none
theorem mRange_run {P : Program} {B : Nat → Prop} {W : World} {D : Dn} {R : Rf} {s s' : S} {w : World} (r : Rel P B W D R s.h w) {t : TypeId} {x v : AV} {X : Value} (hx : conc R x = some X) (h : mRange P s t x = some (v, s')) :
    ∃ R' z w', R.le R' ∧ (Instr.range t X).run P w = .ok z w' ∧ conc R' v = some z ∧ Rel P B W D R' s'.h w' ∧ Kept B w w' := by
  unfold mRange at h
  split at h
  · rename_i b kt et ht
    obtain ⟨kb, e, hkb, rfl⟩ := conc_m hx
    split at h
    · rename_i es cl hb
      obtain ⟨kb', x', ys, hkb', hys, hheap⟩ := map_at r hb hkb
      rw [hkb] at hkb'
      simp only [Option.some.injEq, Prod.mk.injEq] at hkb'
      obtain ⟨rfl, rfl⟩ := hkb'
      split at h
      · rename_i p s2 hn
        simp only [Option.some.injEq, Prod.mk.injEq] at h
        obtain ⟨rfl, rfl⟩ := h
        obtain ⟨R', a1, a2, a3, a4⟩ := new_map r (O := .mapIter (some kb) cl #[] cl) hn (fun R' w' hle hw => ⟨(kb, e), hle _ _ hkb, hw⟩)
        refine ⟨R', .pointer (some ⟨w.heap.size, 0, none⟩), _, a1, ?_, by simp only [conc, a2, Option.map_some], a3, a4⟩
        simp [Instr.range, run_underlying ht, run_getMap hheap]
      · cases h
    · cases h
  · rename_i kt et ht
    simp only [conc, Option.some.injEq] at hx; subst hx
    split at h
    · rename_i p s2 hn
      simp only [Option.some.injEq, Prod.mk.injEq] at h
      obtain ⟨rfl, rfl⟩ := h
      obtain ⟨R', a1, a2, a3, a4⟩ := new_map r (O := .mapIter none 0 #[] 0) hn (fun R' w' hle hw => hw)
      refine ⟨R', .pointer (some ⟨w.heap.size, 0, none⟩), _, a1, ?_, by simp only [conc, a2, Option.map_some], a3, a4⟩
      simp [Instr.range, run_underlying ht]
    · cases h
  · cases h
noncomputable def mCopy (P : Program) (s : S) (t : TypeId) (x y : AV) : Option (AV × S) :=
  match x, P.underlying t, lenA y with
  | .l b o l _, some (.slice e), some m => (match P.info? e, s.h.get b with
    | some i, some (.cells c e' ex) => (match srcA s.h i.size (Nat.min m l) y with
      | some new => bif allOne new then (match over new c o with
        | some c' => some (.i .i64 (.ofNat (Nat.min m l)), ⟨s.h.set (some (.cells c' e' ex)) b, s.n⟩)
        | none => none) else none
      | none => none)
    | _, _ => none)
  | .l0, some (.slice e), some m => (match P.info? e with
    | some i => (match srcA s.h i.size 0 y with
      | some _ => some (.i .i64 (.ofNat (Nat.min m 0)), s)
      | none => none)
    | none => none)
  | _, _, _ => none
theorem mCopy_run {P : Program} {B : Nat → Prop} {W : World} {D : Dn} {R : Rf} {s s' : S} {w : World} (r : Rel P B W D R s.h w) {t t2 ty : TypeId} {x y v : AV} {X Y : Value} (hx : conc R x = some X) (hy : conc R y = some Y) (h : mCopy P s t x y = some (v, s')) :
    ∃ z w', (Builtin.copy_ #[t, t2] ty #[X, Y]).run P w = .ok z w' ∧ conc R v = some z ∧ Rel P B W D R s'.h w' ∧ Kept B w w' := by
  unfold mCopy at h
  split at h
  · rename_i b o l c e m ht hm
    obtain ⟨k, ex', hk, rfl⟩ := conc_l hx
    have hlen := lenA_run (P := P) hm hy w
    split at h
    · rename_i i cs e' ex hi hb
      split at h
      · rename_i new hnew
        obtain ⟨ys, hys, hsrc⟩ := srcA_run r hnew hy
        cases h1 : allOne new with
        | false => rw [h1] at h; cases h
        | true =>
          rw [h1, cond_true] at h
          split at h
          · rename_i c' ho
            simp only [Option.some.injEq, Prod.mk.injEq] at h
            obtain ⟨rfl, rfl⟩ := h
            obtain ⟨k', x', w', hk', hst, hr, hbw⟩ := write_row r hb ho hys h1 hk
            rw [hk] at hk'
            simp only [Option.some.injEq, Prod.mk.injEq] at hk'
            obtain ⟨rfl, rfl⟩ := hk'
            refine ⟨_, w', ?_, rfl, hr, hbw⟩
            simp [Builtin.copy_, run_underlying ht, hlen, run_sizeOf hi, hsrc, hst, goInt]
          · cases h
      · cases h
    · cases h
  · rename_i e m ht hm
    simp only [conc, Option.some.injEq] at hx; subst hx
    have hlen := lenA_run (P := P) hm hy w
    split at h
    · rename_i i hi
      split at h
      · rename_i new hnew
        obtain ⟨ys, hys, hsrc⟩ := srcA_run r hnew hy
        simp only [Option.some.injEq, Prod.mk.injEq] at h
        obtain ⟨rfl, rfl⟩ := h
        refine ⟨_, w, ?_, rfl, r, Kept.refl B w⟩
        simp [Builtin.copy_, run_underlying ht, hlen, run_sizeOf hi, hsrc, goInt]
      · cases h
    · cases h
  · cases h
noncomputable def mConv (P : Program) (s : S) (st dt : TypeId) (x : AV) : Option (AV × S) :=
  match x, P.underlying st, P.underlying dt with
  | .s l, some .string, some (.slice e) => (match P.underlying e with
    | some (.int .u8) => (match newO (.ro (l.map fun c => .i .u8 (.ofNat c.toNat)) e) s with
      | some (p, s) => some (.l p 0 (len l) (len l), s)
      | none => none)
    | _ => none)
  | _, _, _ => none
theorem freeze_at {w : World} {k : Nat} {c : Array Value} {e : TypeId} (h : w.heap[k]? = some (.cells c e (0, 0))) (o n : Nat) : ∃ fz, (w.freeze ⟨k, o, none⟩ n).heap[k]? = some (.cells c e fz) := by
  unfold World.freeze
  split
  · exact ⟨_, h⟩
  · exact ⟨(o, o + n), by simp [Array.getElem?_modify, h]⟩
theorem freeze_ne (w : World) {k j : Nat} (h : j ≠ k) (o n : Nat) : (w.freeze ⟨k, o, none⟩ n).heap[j]? = w.heap[j]? := by
  unfold World.freeze
  split
  · rfl
  · simp [Array.getElem?_modify, Ne.symm h]
theorem freeze_size (w : World) (k o n : Nat) : (w.freeze ⟨k, o, none⟩ n).heap.size = w.heap.size := by
  unfold World.freeze
  split <;> simp
theorem freeze_below {w : World} {k : Nat} {B : Nat → Prop} (h : ¬ B k) (o n : Nat) : Kept B w (w.freeze ⟨k, o, none⟩ n) := by
  refine ⟨?_, ?_, ?_, by rw [freeze_size]; exact Nat.le_refl _, fun j hj => freeze_ne w (fun e => h (by rw [← e]; exact hj)) o n⟩ <;> (unfold World.freeze; split <;> rfl)
theorem mConv_run {P : Program} {B : Nat → Prop} {W : World} {D : Dn} {R : Rf} {s s' : S} {w : World} (r : Rel P B W D R s.h w) {st dt : TypeId} {x v : AV} {X : Value} (hx : conc R x = some X) (h : mConv P s st dt x = some (v, s')) :
    ∃ R' z w', R.le R' ∧ (convert st dt X).run P w = .ok z w' ∧ conc R' v = some z ∧ Rel P B W D R' s'.h w' ∧ Kept B w w' := by
  unfold mConv at h
  split at h
  · rename_i l e hs hd
    simp only [conc, Option.some.injEq] at hx; subst hx
    split at h
    · rename_i he
      split at h
      · rename_i p s2 hn
        simp only [Option.some.injEq, Prod.mk.injEq] at h
        obtain ⟨rfl, rfl⟩ := h
        obtain ⟨h1, h2⟩ := newO_spec hn
        have hsz : (⟨l.toArray⟩ : ByteArray).size = l.length := by simp [ByteArray.size]
        have hcap := grown_ge w l.length 0 e
        have hle := Rf.le_put (w.heap.size, grownCap w l.length 0 e - l.length) (r.new p h1)
        have ha := r.drew.alloc (O := .cells ((l.map fun (b : UInt8) => Value.int .u8 (b.toNat : Int)) ++ List.replicate (grownCap w l.length 0 e - l.length) (Value.int .u8 0)).toArray e) (x := grownCap w l.length 0 e - l.length) (o := .ro (l.map fun c => .i .u8 (.ofNat c.toNat)) e) h1
          ⟨_, _, (0, 0), concL_mono hle _ _ (concL_u8 R l), alloc_at w.drew _⟩
        have hat := alloc_at w.drew (.cells ((l.map fun (b : UInt8) => Value.int .u8 (b.toNat : Int)) ++ List.replicate (grownCap w l.length 0 e - l.length) (Value.int .u8 0)).toArray e)
        have hlen : (((l.map fun (b : UInt8) => Value.int .u8 (b.toNat : Int)) ++ List.replicate (grownCap w l.length 0 e - l.length) (Value.int .u8 0)).toArray).size = grownCap w l.length 0 e := by simp; omega
        generalize hO : (((l.map fun (b : UInt8) => Value.int .u8 (b.toNat : Int)) ++ List.replicate (grownCap w l.length 0 e - l.length) (Value.int .u8 0)).toArray) = C at ha hat hlen
        have hrun : (convert st dt (.string ⟨l.toArray⟩)).run P w = .ok (.slice (some ⟨w.heap.size, 0, none⟩) l.length (grownCap w l.length 0 e)) ((w.drew.alloc (.cells C e)).freeze ⟨w.heap.size, grownCap w l.length 0 e, none⟩ 1) := by
          have hC : ((l.map fun (b : UInt8) => Value.int .u8 (b.toNat : Int)).toArray ++ Array.replicate (grownCap w l.length 0 e - l.length) (Value.int .u8 0)) = C := by rw [← hO]; apply Array.ext'; simp
          have hsh : (w.drew.alloc (.cells C e)).shape? w.heap.size = some (e, grownCap w l.length 0 e) := by
            have : (w.drew.alloc (.cells C e)).heap[w.heap.size]? = some (.cells C e (0, 0)) := hat
            unfold World.shape?
            rw [this]
            simp only [hlen]
          have hgc : (Question.appendCap l.length 0 e).cut (w.tape w.drawn (.appendCap l.length 0 e)) = grownCap w l.length 0 e := rfl
          simp [convert, run_underlying hs, run_underlying hd, run_underlying he, Conv.stringToBytes, hsz, Question.forced, hgc, hC, newRow, markStringish, hsh]
        have hk : R.put p (w.heap.size, grownCap w l.length 0 e - l.length) p = some (w.heap.size, grownCap w l.length 0 e - l.length) := Rf.put_at ..
        have hg : (s.h.set (some (.ro (l.map fun c => .i .u8 (.ofNat c.toNat)) e)) p).get p = some (.ro (l.map fun c => .i .u8 (.ofNat c.toNat)) e) := PT.get_set ..
        have hfb : Kept B (w.drew.alloc (.cells C e)) ((w.drew.alloc (.cells C e)).freeze ⟨w.heap.size, grownCap w l.length 0 e, none⟩ 1) := freeze_below (fun hB => absurd (r.base _ hB) (Nat.lt_irrefl _)) _ _
        obtain ⟨xs, tail, fz, q2, q3⟩ := ha.1.obj p _ _ _ hg hk
        have hC3 : C = (xs ++ tail).toArray := by
          have : some (Obj.cells C e (0, 0)) = some (Obj.cells (xs ++ tail).toArray e fz) := hat.symm.trans q3
          simp only [Option.some.injEq, Obj.cells.injEq] at this
          exact this.1
        obtain ⟨fz2, hfz⟩ := freeze_at hat (grownCap w l.length 0 e) 1
        have hw := ha.1.write (o' := .ro (l.map fun c => .i .u8 (.ofNat c.toNat)) e) hg rfl hk hfb (freeze_size ..) ⟨xs, tail, fz2, q2, by rw [← hC3]; exact hfz⟩ (fun j hj => freeze_ne _ hj _ _)
        refine ⟨_, _, _, hle, hrun, ?_, ?_, ((Kept.refl B w).drew.trans ha.2.2).trans hfb⟩
        · simp only [conc, hk, Option.map_some, len_eq]
          rw [show l.length + (grownCap w l.length 0 e - l.length) = grownCap w l.length 0 e by omega]
        · rw [h2]
          refine ⟨fun b o k x e => ?_, fun b o hm => ?_, hw.nd, fun b b' o o' k x x' e1 e2 l1 l2 => ?_, fun b e => ?_, hw.lo, hw.base, hw.old⟩
          · by_cases hb : p = b
            · subst hb
              rw [PT.get_set] at e; simp only [Option.some.injEq] at e; subst e
              exact hw.obj p _ k x (PT.get_set ..)
            · rw [PT.get_set_ne _ _ _ _ hb] at e
              exact hw.obj b o k x (by rw [PT.get_set_ne _ _ _ _ hb, PT.get_set_ne _ _ _ _ hb]; exact e)
          · obtain ⟨g1, g2⟩ := hw.pend b o hm
            refine ⟨?_, g2⟩
            by_cases hb : p = b
            · subst hb; rw [PT.get_set] at g1 ⊢; exact g1
            · rw [PT.get_set_ne _ _ _ _ hb, PT.get_set_ne _ _ _ _ hb] at g1; rw [PT.get_set_ne _ _ _ _ hb]; exact g1
          · refine hw.inj b b' o o' k x x' ?_ ?_ l1 l2
            · by_cases hb : p = b
              · subst hb; rw [PT.get_set] at e1 ⊢; exact e1
              · rw [PT.get_set_ne _ _ _ _ hb] at e1 ⊢; rw [PT.get_set_ne _ _ _ _ hb]; exact e1
            · by_cases hb : p = b'
              · subst hb; rw [PT.get_set] at e2 ⊢; exact e2
              · rw [PT.get_set_ne _ _ _ _ hb] at e2 ⊢; rw [PT.get_set_ne _ _ _ _ hb]; exact e2
          · refine hw.new b ?_
            by_cases hb : p = b
            · subst hb; rw [PT.get_set] at e; cases e
            · rw [PT.get_set_ne _ _ _ _ hb] at e ⊢; rw [PT.get_set_ne _ _ _ _ hb]; exact e
      · cases h
    · cases h
  · cases h
/-- what an operation does that makes memory, or writes it -/
noncomputable def mop (P : Program) (fr : Fr) (s : S) (op : Op) : Option (AV × S) :=
  match op with
  | .alloc e => mAlloc P s e
  | .box e x => (match evx fr x with
    | some v => mBox s e v
    | none => none)
  | .buildSlice t n ps => mBuildS P fr s t n ps.toList
  | .store t a x => (match evx fr a, evx fr x with
    | some u, some v => mStore P s t u v
    | _, _ => none)
  | .makeMap _ none => (match newO (.map [] 0) s with
    | some (p, s) => some (.m p, s)
    | none => none)
  | .makeSlice t l c => (match evx fr l, evx fr c with
    | some u, some v => mMakeS P s t u v
    | _, _ => none)
  | .mapUpdate t m k v => (match evx fr m, evx fr k, evx fr v with
    | some m, some k, some v => mMapU P s t m k v
    | _, _, _ => none)
  | .insert t m k v => (match evx fr m, evx fr k, evx fr v with
    | some m, some k, some v => mMapU P s t m k v
    | _, _, _ => none)
  | .range t x => (match evx fr x with
    | some v => mRange P s t v
    | none => none)
  | .convert st dt x => (match evx fr x with
    | some v => mConv P s st dt v
    | none => none)
  | .call c => (match c.callee, c.argTypes.toList, evxs fr c.args.toList with
    | .builtin .append, [t, t2], some [x, y] => mApp P s t t2 x y
    | .builtin .copy, [t, _], some [x, y] => mCopy P s t x y
    | _, _, _ => none)
  | _ => none
theorem two_conc {R : Rf} {x y : AV} {l : List Value} (h : concL R [x, y] = some l) : ∃ X Y, conc R x = some X ∧ conc R y = some Y ∧ l = [X, Y] := by
  obtain ⟨X, ys, hX, hys, rfl⟩ := concL_cons.1 h
  obtain ⟨Y, zs, hY, hzs, rfl⟩ := concL_cons.1 hys
  simp only [concL, Option.some.injEq] at hzs; subst hzs
  exact ⟨X, Y, hX, hY, rfl⟩
theorem mop_run {P : Program} {B : Nat → Prop} {W : World} {D : Dn} {R : Rf} {s s' : S} {w : World} (r : Rel P B W D R s.h w) {fr : Fr} {a : Act} (hf : FrR R fr a) {o : Oper} {v : AV} (h : mop P fr s o.op = some (v, s')) :
    Eff P B W D R w ((execOp a.eval o).run P w) v s'.h := by
  obtain ⟨dst, op, type, pos, after, guard⟩ := o
  dsimp only at h
  have hu : conc R und = some undef := rfl
  unfold mop at h
  split at h
  · obtain ⟨R', x, w', a1, a2, a3, a4, a5⟩ := mAlloc_run r h
    exact ⟨R', x, w', a1, .inl (by simp only [execOp, Sem.run_bind, a2, Result.andThen_ok, Sem.run_pure]), a3, a4, a5⟩
  · split at h
    · rename_i hx
      obtain ⟨R', x, w', a1, a2, a3, a4, a5⟩ := mBox_run r (evx_conc hf hx) h
      exact ⟨R', x, w', a1, .inl (by simp only [execOp, Sem.run_bind, a2, Result.andThen_ok, Sem.run_pure]), a3, a4, a5⟩
    · cases h
  · obtain ⟨R', x, w', a1, a2, a3, a4, a5⟩ := mBuildS_run r hf h
    exact ⟨R', x, w', a1, .inl (by simp only [execOp, Sem.run_bind, a2, Result.andThen_ok, Sem.run_pure]), a3, a4, a5⟩
  · split at h
    · rename_i h1 h2
      obtain ⟨w', a1, rfl, a3, a4⟩ := mStore_run r (evx_conc hf h1) (evx_conc hf h2) h
      exact ⟨R, undef, w', R.le_refl, .inr ⟨by simp only [execOp, Sem.run_bind, a1, Result.andThen_ok, Sem.run_pure], rfl⟩, hu, a3, a4⟩
    · cases h
  · split at h
    · rename_i p s2 hn
      simp only [Option.some.injEq, Prod.mk.injEq] at h
      obtain ⟨rfl, rfl⟩ := h
      obtain ⟨R', a1, a2, a3, a4⟩ := new_map r (O := .map #[] 0) hn (fun R' w' _ hw => ⟨[], rfl, hw⟩)
      refine ⟨R', .map (some w.heap.size), _, a1, .inl ?_, by simp only [conc, a2, Option.map_some], a3, a4⟩
      simp [execOp, Instr.makeMap]
    · cases h
  · split at h
    · rename_i h1 h2
      obtain ⟨R', x, w', a1, a2, a3, a4, a5⟩ := mMakeS_run r (evx_conc hf h1) (evx_conc hf h2) h
      exact ⟨R', x, w', a1, .inl (by simp only [execOp, Sem.run_bind, a2, Result.andThen_ok, Sem.run_pure]), a3, a4, a5⟩
    · cases h
  · split at h
    · rename_i h1 h2 h3
      obtain ⟨w', a1, rfl, a3, a4⟩ := mMapU_run r (evx_conc hf h1) (evx_conc hf h2) (evx_conc hf h3) h
      exact ⟨R, undef, w', R.le_refl, .inr ⟨by simp only [execOp, Sem.run_bind, a1, Result.andThen_ok, Sem.run_pure], rfl⟩, hu, a3, a4⟩
    · cases h
  · split at h
    · rename_i h1 h2 h3
      obtain ⟨w', a1, rfl, a3, a4⟩ := mMapU_run r (evx_conc hf h1) (evx_conc hf h2) (evx_conc hf h3) h
      exact ⟨R, undef, w', R.le_refl, .inr ⟨by simp only [execOp, Sem.run_bind, a1, Result.andThen_ok, Sem.run_pure], rfl⟩, hu, a3, a4⟩
    · cases h
  · split at h
    · rename_i h1
      obtain ⟨R', x, w', a1, a2, a3, a4, a5⟩ := mRange_run r (evx_conc hf h1) h
      exact ⟨R', x, w', a1, .inl (by simp only [execOp, Sem.run_bind, a2, Result.andThen_ok, Sem.run_pure]), a3, a4, a5⟩
    · cases h
  · split at h
    · rename_i h1
      obtain ⟨R', x, w', a1, a2, a3, a4, a5⟩ := mConv_run r (evx_conc hf h1) h
      exact ⟨R', x, w', a1, .inl (by simp only [execOp, Sem.run_bind, a2, Result.andThen_ok, Sem.run_pure]), a3, a4, a5⟩
    · cases h
  · rename_i c
    have ea : ∀ l, c.args.toList.map a.eval = l → (c.args.map a.eval) = l.toArray := fun l e => by apply Array.ext'; simpa using e
    have et : ∀ l, c.argTypes.toList = l → c.argTypes = l.toArray := fun l e => by apply Array.ext'; simpa using e
    split at h
    · rename_i t t2 x y hc hts hvs
      obtain ⟨X, Y, hX, hY, he⟩ := two_conc (evxs_conc hf hvs)
      obtain ⟨R', z, w', a1, a2, a3, a4, a5⟩ := mApp_run (ty := type) r hX hY h
      refine ⟨R', z, w', a1, .inl ?_, a3, a4, a5⟩
      simp only [execOp, resolve, hc, Sem.run_bind, Sem.run_pure, Result.andThen_ok, invoke, builtin, ea _ he, et _ hts]
      rw [a2]; rfl
    · rename_i t t2 x y hc hts hvs
      obtain ⟨X, Y, hX, hY, he⟩ := two_conc (evxs_conc hf hvs)
      obtain ⟨z, w', a2, a3, a4, a5⟩ := mCopy_run (t2 := t2) (ty := type) r hX hY h
      refine ⟨R, z, w', R.le_refl, .inl ?_, a3, a4, a5⟩
      simp only [execOp, resolve, hc, Sem.run_bind, Sem.run_pure, Result.andThen_ok, invoke, builtin, ea _ he, et _ hts]
      rw [a2]; rfl
    · cases h
  · cases h
end Go.Ev
