/- A machine that runs a Go text by reckoning: blocks that are told ahead. Of no program. -/
import Derived.Test.YtjajcecenflejaaEvS
namespace Go.Ev
open Go.RowKit

/-- an operation that does nothing but make a block: what the block holds, and what is yielded, where the block's key is known -/
noncomputable def alq (P : Program) (fr : Fr) (op : Op) : Option (AO × (Ps → AV)) :=
  match op with
  | .alloc e => (match zerA P e with
    | some z => some (.cells (cellsA z) e true, fun p => .p p 0)
    | none => none)
  | .box e x => (match evx fr x with
    | some v => some (.cells (cellsA v) e true, fun p => .p p 0)
    | none => none)
  | .buildSlice t n ps => (match P.underlying t with
    | some (.slice e) => (match P.info? e, zerA P e with
      | some i, some z => bif Nat.beq (len (cellsA z)) i.size then (bif Nat.ble (n * i.size) 16777216 then
          (match fillA (fun j => some (j * i.size, i.size)) fr ps.toList (rep (cellsA z) n) with
          | some c => some (.cells c e true, fun p => .l p 0 n n)
          | none => none) else none) else none
      | _, _ => none)
    | _ => none)
  | .makeMap _ none => some (.map [] 0, fun p => .m p)
  | .makeSlice t l c => (match P.underlying t, evx fr l, evx fr c with
    | some (.slice e), some (.i _ (.ofNat l)), some (.i _ (.ofNat c)) => (match P.info? e, zerA P e with
      | some i, some z => bif Nat.beq (len (cellsA z)) i.size then (bif Nat.ble l c then (bif Nat.ble (i.bytes * c) 140737488355328 then (bif Nat.ble c 1000000000000 then
          some (.cells (rep (cellsA z) c) e true, fun p => .l p 0 l c) else none) else none) else none) else none
      | _, _ => none)
    | _, _, _ => none)
  | _ => none
theorem alq_like {P : Program} {fr fr' : Fr} {op : Op} (h : Like fr fr' op.operands.toList) : alq P fr op = alq P fr' op := by
  cases op
  case box t x => simp only [alq, h x (by simp [Op.operands])]
  case buildSlice t n ps =>
    have e : ∀ place c, fillA place fr ps.toList c = fillA place fr' ps.toList c := fun place c => fillA_like c (by simpa [Op.operands] using h)
    simp only [alq, e]
  case makeSlice t a x => simp only [alq, h x (by simp [Op.operands]), h a (by simp [Op.operands])]
  case makeMap t r => cases r <;> rfl
  all_goals rfl
/-- where a block comes to lie that was told ahead -/
def AlAt (P : Program) (R : Rf) (w : World) (ob : AO) (mk : Ps → AV) (O : Obj) (X : Value) : Prop :=
  ∀ (R' : Rf) (w' : World) (p : Ps), R.le R' → R' p = some (w.heap.size, 0) → w'.heap[w.heap.size]? = some O → HObj P R' w' w.heap.size 0 ob ∧ conc R' (mk p) = some X
theorem alAt_row {P : Program} {R : Rf} {w : World} {c : List AV} {e : TypeId} {mk : Ps → AV} {X : Value} {xs : List Value} (hc : concL R c = some xs) (hm : ∀ (R' : Rf) (p : Ps), R' p = some (w.heap.size, 0) → conc R' (mk p) = some X) :
    AlAt P R w (.cells c e true) mk (.cells xs.toArray e) X := fun R' w' p hle hp hw =>
  ⟨⟨xs, [], concL_mono hle _ _ hc, by rw [List.append_nil]; exact hw, by simp, fun _ => rfl⟩, hm R' p hp⟩
theorem alq_run {P : Program} {R : Rf} {fr : Fr} {a : Act} (hf : FrR R fr a) {o : Oper} {ob : AO} {mk : Ps → AV} (h : alq P fr o.op = some (ob, mk)) (w : World) :
    ∃ O X, (execOp a.eval o).run P w = .ok (.value X) (w.alloc O) ∧ AlAt P R w ob mk O X := by
  obtain ⟨dst, op, type, pos, after, guard⟩ := o
  dsimp only at h
  unfold alq at h
  split at h
  · rename_i e
    split at h
    · rename_i z hz
      obtain ⟨i, zv, hi, hzv, hc⟩ := zerA_spec hz
      simp only [Option.some.injEq, Prod.mk.injEq] at h
      obtain ⟨rfl, rfl⟩ := h
      refine ⟨_, .pointer (some ⟨w.heap.size, 0, none⟩), ?_, alAt_row (cellsA_conc (cvC_conc R 12 zv z hc)) fun R' p hp => by simp only [conc, hp, Option.map_some]⟩
      simp [execOp, Instr.alloc, run_zero hi hzv, newVar, newRow]
    · cases h
  · rename_i e x
    split at h
    · rename_i v hv
      simp only [Option.some.injEq, Prod.mk.injEq] at h
      obtain ⟨rfl, rfl⟩ := h
      refine ⟨_, .pointer (some ⟨w.heap.size, 0, none⟩), ?_, alAt_row (cellsA_conc (evx_conc hf hv)) fun R' p hp => by simp only [conc, hp, Option.map_some]⟩
      simp [execOp, Instr.box, newVar, newRow]
    · cases h
  · rename_i t n ps
    have hmap : (ps.map fun (i, x) => (i, a.eval x)).toList = ps.toList.map fun p => (p.1, a.eval p.2) := by simp
    split at h
    · rename_i e hu
      split at h
      · rename_i i z hi hz
        obtain ⟨i', zv, hi', hzv, hc⟩ := zerA_spec hz
        rw [hi] at hi'
        simp only [Option.some.injEq] at hi'; subst hi'
        cases hb : Nat.beq (len (cellsA z)) i.size with
        | false => rw [hb] at h; cases h
        | true =>
          have hs := Nat.eq_of_beq_eq_true hb
          rw [len_eq] at hs
          cases hb2 : Nat.ble (n * i.size) 16777216 with
          | false => rw [hb, hb2] at h; cases h
          | true =>
            have hsz := ble_le hb2
            rw [hb, hb2, cond_true, cond_true] at h
            have hcz := cellsA_conc (cvC_conc R 12 zv z hc)
            have hzs : zv.cells.size = i.size := by have := concL_len hcz; simp at this; omega
            split at h
            · rename_i c hfl
              simp only [Option.some.injEq, Prod.mk.injEq] at h
              obtain ⟨rfl, rfl⟩ := h
              obtain ⟨ys, h1, h2⟩ := fillA_run hf hfl (rep_conc hcz n)
              refine ⟨_, .slice (some ⟨w.heap.size, 0, none⟩) n (n + 0), ?_, alAt_row h1 fun R' p hp => by simp only [conc, hp, Option.map_some]⟩
              have hrc := range_cells zv.cells n
              rw [hzs] at hrc
              by_cases h0 : n * i.size = 0
              · have e0 : (List.replicate n zv.cells.toList).flatten = [] := by
                  apply List.eq_nil_of_length_eq_zero
                  simp [List.length_flatten, hzs, h0]
                rw [e0] at h2
                have e1 : ((Array.range (n * i.size)).map fun x => (#[] : Array Value)[x % (#[] : Array Value).size]!) = ([] : List Value).toArray := by
                  apply Array.ext'; simp [h0]
                have hlt : ¬ (n * i.size > 16777216) := by omega
                simp only [execOp, Instr.buildSlice, Sem.run_bind, run_underlying hu, Result.andThen_ok, run_sizeOf hi]
                simp only [Nat.reducePow]
                rw [if_neg hlt, if_pos h0]
                simp only [Sem.run_pure, Result.andThen_ok, e1, hmap, h2, Sem.run_bind, newRow, run_newObj]
                rfl
              · have hlt : ¬ (n * i.size > 16777216) := by omega
                simp only [execOp, Instr.buildSlice, Sem.run_bind, run_underlying hu, Result.andThen_ok, run_sizeOf hi]
                simp only [Nat.reducePow]
                rw [if_neg hlt, if_neg h0]
                simp only [Sem.run_bind, run_zero hi hzv, Sem.run_pure, Result.andThen_ok, hzs, hrc, hmap, h2, newRow, run_newObj]
                rfl
            · cases h
      · cases h
    · cases h
  · simp only [Option.some.injEq, Prod.mk.injEq] at h
    obtain ⟨rfl, rfl⟩ := h
    refine ⟨.map #[] 0, .map (some w.heap.size), by simp [execOp, Instr.makeMap], fun R' w' p _ hp hw => ⟨⟨[], rfl, hw⟩, by simp only [conc, hp, Option.map_some]⟩⟩
  · rename_i t lx cx
    split at h
    · rename_i e k l k' c ht hl hcx
      have hu := evx_conc hf hl
      have hv := evx_conc hf hcx
      simp only [conc, Option.some.injEq] at hu hv
      split at h
      · rename_i i z hi hz
        obtain ⟨i', zv, hi', hzv, hc⟩ := zerA_spec hz
        rw [hi] at hi'
        simp only [Option.some.injEq] at hi'; subst hi'
        cases hb : Nat.beq (len (cellsA z)) i.size with
        | false => rw [hb] at h; cases h
        | true =>
          have hs := Nat.eq_of_beq_eq_true hb
          rw [len_eq] at hs
          cases hb2 : Nat.ble l c with
          | false => rw [hb, hb2] at h; cases h
          | true =>
            cases hb3 : Nat.ble (i.bytes * c) 140737488355328 with
            | false => rw [hb, hb2, hb3] at h; cases h
            | true =>
              cases hb4 : Nat.ble c 1000000000000 with
              | false => rw [hb, hb2, hb3, hb4] at h; cases h
              | true =>
                have h2 := ble_le hb2
                have h3 := ble_le hb3
                have h4 := ble_le hb4
                rw [hb, hb2, hb3, hb4, cond_true, cond_true, cond_true, cond_true] at h
                simp only [Option.some.injEq, Prod.mk.injEq] at h
                obtain ⟨rfl, rfl⟩ := h
                have hcz := cellsA_conc (cvC_conc R 12 zv z hc)
                have hzs : zv.cells.size = i.size := by have := concL_len hcz; simp at this; omega
                refine ⟨_, .slice (some ⟨w.heap.size, 0, none⟩) l (c + 0), ?_, alAt_row (rep_conc hcz c) fun R' p hp => by simp only [conc, hp, Option.map_some]⟩
                have hby : (i.bytes : Int) * ((c : Nat) : Int) ≤ 281474976710656 := by
                  have : ((i.bytes * c : Nat) : Int) ≤ 281474976710656 := by omega
                  rwa [Int.natCast_mul] at this
                have hm := run_make (P := P) w t e i zv ht hi hzv k k' (l : Int) (c : Int) (by omega) (by omega) hby (by omega)
                simp only [Int.toNat_natCast, madeCells, ← hzs, range_cells] at hm
                simp only [execOp, Sem.run_bind, ← hu, ← hv]
                have hm' := hm
                simp only [Int.ofNat_eq_natCast]
                rw [hm']
                rfl
      · cases h
    · cases h
  · cases h
end Go.Ev
