/- YtjajcecenflejaaGreatCz32 -/
import Derived.Test.YtjajcecenflejaaGreatCz31
namespace Go.Ev
open Go.RowKit
theorem cellsOf_eq {P : Program} {e : TypeId} {i : TypeInfo} (h : P.info? e = some i) : P.cellsOf e = i.size := by simp [Program.cellsOf, h]
set_option maxHeartbeats 4000000 in
theorem run_append_fits {P : Program} {w w' : World} {t t2 e ty : TypeId} {u2 : TypeDesc} {i : TypeInfo} {base : Option Addr} {l c n : Nat} {Y : Value} {ys : List Value} (ht : P.underlying t = some (.slice e)) (h2 : P.underlying t2 = some u2) (hu : isIntT u2 = false) (hi : P.info? e = some i)
    (hlen : (Builtin.lenOf Y).run P w = .ok n w) (hsrc : (Builtin.firstCells i.size n Y).run P w = .ok ys.toArray w) (hfit : l + n ≤ c)
    (hst : ∀ a, base = some a → (storeCells (a.add (l * i.size)) ys).run P w = .ok () w') (hnil : base = none → w' = w) :
    (Builtin.append_ #[t, t2] ty #[.slice base l c, Y]).run P w = .ok (.slice base (l + n) c) w' := by
  cases base with
  | none =>
    obtain rfl := hnil rfl
    cases u2 <;> first | (cases hu; done) | (simp [Builtin.append_, run_underlying ht, run_underlying h2, run_sizeOf hi, hlen, hsrc, hfit]; done)
  | some a =>
    have hst := hst a rfl
    cases u2 <;> first | (cases hu; done) | (simp [Builtin.append_, run_underlying ht, run_underlying h2, run_sizeOf hi, hlen, hsrc, hfit, hst]; done)
set_option maxHeartbeats 4000000 in
theorem run_append_more {P : Program} {w : World} {t t2 e ty : TypeId} {u2 : TypeDesc} {i : TypeInfo} {zv : Value} {base : Option Addr} {l c n : Nat} {Y : Value} {xs ys : List Value} (ht : P.underlying t = some (.slice e)) (h2 : P.underlying t2 = some u2) (hu : isIntT u2 = false) (hi : P.info? e = some i) (hz : i.zero = some zv)
    (hlen : (Builtin.lenOf Y).run P w = .ok n w) (hold : (Builtin.firstCells i.size l (.slice base l c)).run P w.drew = .ok xs.toArray w.drew) (hsrc : (Builtin.firstCells i.size n Y).run P w.drew = .ok ys.toArray w.drew)
    (hfit : c < l + n) (hb : (l + n) * i.bytes ≤ 140737488355328) (hm : l + n ≤ 1000000000000) :
    (Builtin.append_ #[t, t2] ty #[.slice base l c, Y]).run P w =
      .ok (.slice (some ⟨w.heap.size, 0, none⟩) (l + n) (grownCap w (l + n) c e)) (w.drew.alloc (.cells (xs ++ ys ++ (Builtin.zeroCells zv.cells (grownCap w (l + n) c e - (l + n))).toList).toArray e)) := by
  have h1 : ¬ (l + n ≤ c) := by omega
  have h48 : ¬ (281474976710656 < Builtin.nextslicecap (l + n) c * i.bytes) := by have := growslice_fits (bytes := i.bytes) hfit hb; omega
  have h63 : ¬ (9223372036854775807 < ((l : Int) + (n : Int))) := by omega
  cases u2 <;> first
    | (cases hu; done)
    | (simp [Builtin.append_, run_underlying ht, run_underlying h2, run_sizeOf hi, typeInfo, zeroValue, hi, hz, hlen, h1, h48, h63, Question.forced, hold, hsrc, newRow, grownCap]
       try (congr 2; apply Array.ext'; simp))
theorem grown_ge (w : World) (need old : Nat) (e : TypeId) : need ≤ grownCap w need old e := by simp [grownCap, Question.cut]
theorem srcA_drew {P : Program} {w : World} {v : Value} {size n : Nat} {xs : Array Value} (h : (Builtin.firstCells size n v).run P w = .ok xs w) : (Builtin.firstCells size n v).run P w.drew = .ok xs w.drew := by
  unfold Builtin.firstCells at *
  split at h
  · rename_i a l c
    have key : ∀ (m k : Nat) (acc : Array Value) (r : Array Value) (w2 : World), (loadCellsFrom a k m acc).run P w = .ok r w2 → w2 = w ∧ (loadCellsFrom a k m acc).run P w.drew = .ok r w.drew := by
      intro m
      induction m with
      | zero => intro k acc r w2 h; simp only [loadCellsFrom, Sem.run_pure, Result.ok.injEq] at h ⊢; exact ⟨h.2.symm, h.1, trivial⟩
      | succ m ih =>
        intro k acc r w2 h
        simp only [loadCellsFrom, Sem.run_bind, run_load, World.cell?_drew] at h ⊢
        cases hc : w.cell? (a.add k) with
        | some v => rw [hc] at h; simp only [Result.andThen_ok] at h ⊢; exact ih _ _ _ _ h
        | none =>
          rw [hc] at h
          have hf : w.drew.farLoad P (a.add k) (Mode.plain == .atomic) = w.farLoad P (a.add k) (Mode.plain == .atomic) := rfl
          simp only [hf]
          cases hfl : w.farLoad P (a.add k) (Mode.plain == .atomic) with
          | error e => rw [hfl] at h; simp at h
          | ok p =>
            obtain ⟨v, q⟩ := p
            rw [hfl] at h
            simp only [Result.andThen_ok] at h ⊢
            exact ih _ _ _ _ h
    exact (key _ _ _ _ _ h).2
  · simp only [Sem.run_pure, Result.ok.injEq] at h ⊢; exact ⟨h.1, trivial⟩
  · simp only [Sem.run_pure, Result.ok.injEq] at h ⊢; exact ⟨h.1, trivial⟩
  · cases h
set_option maxHeartbeats 4000000 in
theorem run_append_zero {P : Program} {w : World} {t t2 e ty : TypeId} {u2 : TypeDesc} {i : TypeInfo} {zv : Value} {k : IntKind} {n : Nat} (ht : P.underlying t = some (.slice e)) (h2 : P.underlying t2 = some u2) (hu : isIntT u2 = true) (hi : P.info? e = some i) (hz : i.zero = some zv)
    (hn : n ≠ 0) (hs : i.size ≠ 0) (hb : n * i.bytes ≤ 140737488355328) (hm : n ≤ 1000000000000) :
    (Builtin.append_ #[t, t2] ty #[.slice none 0 0, .int k (n : Int)]).run P w =
      .ok (.slice (some ⟨w.heap.size, 0, none⟩) n (grownCap w n 0 e)) (w.drew.alloc (.cells ((Builtin.zeroCells zv.cells n).toList ++ (Builtin.zeroCells zv.cells (grownCap w n 0 e - n)).toList).toArray e)) := by
  have h48 : ¬ (281474976710656 < Builtin.nextslicecap n 0 * i.bytes) := by have := growslice_fits (bytes := i.bytes) (need := n) (old := 0) (by omega) hb; omega
  have h63 : ¬ (9223372036854775807 < (n : Int)) := by omega
  have hw : IntKind.i64.wrap (n : Int) = (n : Int) := by simp [IntKind.wrap, IntKind.bits, IntKind.signed]; omega
  have hneg : ¬ ((n : Int) < 0) := by omega
  have hbi : ¬ (281474976710656 < (n : Int) * (i.bytes : Int)) := by
    have : ((n * i.bytes : Nat) : Int) ≤ 140737488355328 := by omega
    rw [Int.natCast_mul] at this; omega
  have hns : n * i.size ≠ 0 := Nat.mul_ne_zero hn hs
  cases u2 <;> first
    | (cases hu; done)
    | (simp [Builtin.append_, run_underlying ht, run_underlying h2, run_sizeOf hi, typeInfo, zeroValue, hi, hz, asInt, asIntOf, h48, h63, hw, hneg, hbi, hn, hns, Question.forced, newRow, grownCap, Builtin.firstCells]
       try (congr 2; apply Array.ext'; simp))
set_option maxHeartbeats 1000000 in
theorem mAppZ_run {P : Program} {B : Nat → Prop} {W : World} {D : Dn} {R : Rf} {s s' : S} {w : World} (r : Rel P B W D R s.h w) {t t2 e ty : TypeId} {u2 : TypeDesc} {x y v : AV} {X Y : Value} (ht : P.underlying t = some (.slice e)) (h2 : P.underlying t2 = some u2) (hu : isIntT u2 = true) (hx : conc R x = some X) (hy : conc R y = some Y) (h : mAppZ P s e x y = some (v, s')) :
    ∃ R' z w', R.le R' ∧ (Builtin.append_ #[t, t2] ty #[X, Y]).run P w = .ok z w' ∧ conc R' v = some z ∧ Rel P B W D R' s'.h w' ∧ Kept B w w' := by
  unfold mAppZ at h
  split at h
  case h_2 => cases h
  rename_i k n
  simp only [conc, Option.some.injEq] at hx hy; subst hx; subst hy
  split at h
  case h_2 => cases h
  rename_i i z hi hz
  obtain ⟨i', zv, hi', hzv, hc⟩ := zerA_spec hz
  rw [hi] at hi'
  simp only [Option.some.injEq] at hi'; subst hi'
  cases hb : Nat.beq (len (cellsA z)) i.size with
  | false => rw [hb] at h; cases h
  | true =>
  rw [hb, cond_true] at h
  have hs := Nat.eq_of_beq_eq_true hb
  rw [len_eq] at hs
  have hcz := cellsA_conc (cvC_conc R 12 zv z hc)
  have hzs : zv.cells.size = i.size := by have := concL_len hcz; simp at this; omega
  cases h0 : Nat.beq n 0 with
  | true =>
    rw [h0] at h
    simp only [cond_true, Option.some.injEq, Prod.mk.injEq] at h
    obtain ⟨rfl, rfl⟩ := h
    obtain rfl := Nat.eq_of_beq_eq_true h0
    refine ⟨R, .slice none 0 0, w, R.le_refl, ?_, rfl, r, Kept.refl B w⟩
    have hw : IntKind.i64.wrap 0 = 0 := by decide
    cases u2 <;> first
      | (cases hu; done)
      | (simp [Builtin.append_, run_underlying ht, run_underlying h2, run_sizeOf hi, typeInfo, hi, asInt, asIntOf, hw]; done)
  | false =>
  rw [h0, cond_false] at h
  have hn0 : n ≠ 0 := bne_of_beq h0
  cases hz0 : Nat.beq i.size 0 with
  | true => rw [hz0] at h; cases h
  | false =>
  rw [hz0, cond_false] at h
  have hs0 : i.size ≠ 0 := bne_of_beq hz0
  cases hb1 : Nat.ble (n * i.bytes) 140737488355328 with
  | false => rw [hb1] at h; cases h
  | true =>
  rw [hb1, cond_true] at h
  cases hb2 : Nat.ble n 1000000000000 with
  | false => rw [hb2] at h; cases h
  | true =>
  rw [hb2, cond_true] at h
  split at h
  case h_2 => cases h
  rename_i p s2 hnw
  simp only [Option.some.injEq, Prod.mk.injEq] at h
  obtain ⟨rfl, rfl⟩ := h
  have hm := run_append_zero (P := P) (w := w) (ty := ty) (k := k) ht h2 hu hi hzv hn0 hs0 (ble_le hb1) (ble_le hb2)
  have hrep : (Builtin.zeroCells zv.cells n).toList = (List.replicate n zv.cells.toList).flatten := by unfold Builtin.zeroCells; rw [range_cells]
  obtain ⟨R', a1, a2, a3, a4⟩ := new_long r.drew hnw (x := grownCap w n 0 e - n) (xs := (Builtin.zeroCells zv.cells n).toList) (tail := (Builtin.zeroCells zv.cells (grownCap w n 0 e - n)).toList) (by
    rw [hrep]; exact rep_conc hcz n) (by simp [cellsOf_eq hi, hzs, size_zeroCells])
  have hg := grown_ge w n 0 e
  refine ⟨R', _, _, a1, hm, ?_, a3, (Kept.refl B w).drew.trans a4⟩
  simp only [conc, a2, Option.map_some]
  rw [show n + (grownCap w n 0 e - n) = grownCap w n 0 e by omega]
  rfl
set_option maxHeartbeats 1000000 in
theorem mApp_run {P : Program} {B : Nat → Prop} {W : World} {D : Dn} {R : Rf} {s s' : S} {w : World} (r : Rel P B W D R s.h w) {t t2 ty : TypeId} {x y v : AV} {X Y : Value} (hx : conc R x = some X) (hy : conc R y = some Y) (h : mApp P s t t2 x y = some (v, s')) :
    ∃ R' z w', R.le R' ∧ (Builtin.append_ #[t, t2] ty #[X, Y]).run P w = .ok z w' ∧ conc R' v = some z ∧ Rel P B W D R' s'.h w' ∧ Kept B w w' := by
  unfold mApp at h
  split at h
  case h_2 => cases h
  rename_i e u2 ht h2
  cases hu : isIntT u2 with
  | true => rw [hu, cond_true] at h; exact mAppZ_run r ht h2 hu hx hy h
  | false =>
  rw [hu, cond_false] at h
  split at h
  case h_2 => cases h
  rename_i i z n hi hz hn
  obtain ⟨i', zv, hi', hzv, hc⟩ := zerA_spec hz
  rw [hi] at hi'
  simp only [Option.some.injEq] at hi'; subst hi'
  cases hb : Nat.beq (len (cellsA z)) i.size with
  | false => rw [hb] at h; cases h
  | true =>
  rw [hb, cond_true] at h
  have hs := Nat.eq_of_beq_eq_true hb
  rw [len_eq] at hs
  have hcz := cellsA_conc (cvC_conc R 12 zv z hc)
  have hzs : zv.cells.size = i.size := by have := concL_len hcz; simp at this; omega
  split at h
  case h_2 => cases h
  rename_i new hnew
  cases h1 : allOne new with
  | false => rw [h1] at h; cases h
  | true =>
  rw [h1, cond_true] at h
  cases hl : Nat.beq (len new) (n * i.size) with
  | false => rw [hl] at h; cases h
  | true =>
  rw [hl, cond_true] at h
  have hnl := Nat.eq_of_beq_eq_true hl
  rw [len_eq] at hnl
  have hlen := lenA_run (P := P) hn hy w
  obtain ⟨ys, hys, hsrc⟩ := srcA_run r hnew hy
  have hsrc' := srcA_drew hsrc
  have hyl := concL_len hys
  split at h
  · simp only [conc, Option.some.injEq] at hx; subst hx
    cases h0 : Nat.beq n 0 with
    | true =>
      rw [h0] at h
      simp only [cond_true, Option.some.injEq, Prod.mk.injEq] at h
      obtain ⟨rfl, rfl⟩ := h
      have hn0 := Nat.eq_of_beq_eq_true h0
      subst hn0
      exact ⟨R, _, w, R.le_refl, run_append_fits ht h2 hu hi hlen hsrc (by omega) (fun a ha => by cases ha) (fun _ => rfl), rfl, r, Kept.refl B w⟩
    | false =>
      rw [h0, cond_false] at h
      have hn0 : n ≠ 0 := bne_of_beq h0
      cases hb1 : Nat.ble (n * i.bytes) 140737488355328 with
      | false => rw [hb1] at h; cases h
      | true =>
      rw [hb1, cond_true] at h
      cases hb2 : Nat.ble n 1000000000000 with
      | false => rw [hb2] at h; cases h
      | true =>
      rw [hb2, cond_true] at h
      split at h
      · rename_i p s2 hnw
        simp only [Option.some.injEq, Prod.mk.injEq] at h
        obtain ⟨rfl, rfl⟩ := h
        have hm := run_append_more (P := P) (w := w) (ty := ty) (base := none) (l := 0) (c := 0) (xs := []) ht h2 hu hi hzv hlen (by rfl) hsrc' (by omega) (by have := ble_le hb1; simpa using this) (by have := ble_le hb2; omega)
        simp only [Nat.zero_add, List.nil_append] at hm
        obtain ⟨R', a1, a2, a3, a4⟩ := new_long r.drew hnw (x := grownCap w n 0 e - n) (tail := (Builtin.zeroCells zv.cells (grownCap w n 0 e - n)).toList) hys (by simp [cellsOf_eq hi, hzs, size_zeroCells])
        have hg := grown_ge w n 0 e
        refine ⟨R', _, _, a1, hm, ?_, a3, (Kept.refl B w).drew.trans a4⟩
        simp only [conc, a2, Option.map_some]
        rw [show n + (grownCap w n 0 e - n) = grownCap w n 0 e by omega]; rfl
      · cases h
  · rename_i b o l c
    obtain ⟨k, ex', hk, rfl⟩ := conc_l hx
    split at h
    case h_2 => cases h
    rename_i cs e' ex hbl
    cases he : Nat.beq e e' with
    | false => rw [he] at h; cases h
    | true =>
    rw [he, cond_true] at h
    obtain rfl := Nat.eq_of_beq_eq_true he
    cases hfit : Nat.ble (l + n) c with
    | true =>
      rw [hfit, cond_true] at h
      have hfl := ble_le hfit
      split at h
      · rename_i cs' ho
        simp only [Option.some.injEq, Prod.mk.injEq] at h
        obtain ⟨rfl, rfl⟩ := h
        obtain ⟨k', x', w', hk', hst, hr, hbw⟩ := write_row r hbl ho hys h1 hk
        rw [hk] at hk'
        simp only [Option.some.injEq, Prod.mk.injEq] at hk'
        obtain ⟨rfl, rfl⟩ := hk'
        refine ⟨R, _, w', R.le_refl, run_append_fits ht h2 hu hi hlen hsrc (by omega) (fun a ha => ?_) (fun e => by cases e), by simp only [conc, hk, Option.map_some], hr, hbw⟩
        simp only [Option.some.injEq] at ha; subst ha
        rw [add_at]; exact hst
      · cases h
    | false =>
      rw [hfit, cond_false] at h
      have hnf : c < l + n := by
        rcases Nat.lt_or_ge c (l + n) with h' | h'
        · exact h'
        · rw [Nat.ble_eq_true_of_le h'] at hfit; cases hfit
      split at h
      case h_2 => cases h
      rename_i old hold
      cases hb1 : Nat.ble ((l + n) * i.bytes) 140737488355328 with
      | false => rw [hb1] at h; cases h
      | true =>
      rw [hb1, cond_true] at h
      cases hb2 : Nat.ble (l + n) 1000000000000 with
      | false => rw [hb2] at h; cases h
      | true =>
      rw [hb2, cond_true] at h
      split at h
      case h_2 => cases h
      rename_i p s2 hnw
      obtain ⟨k', x', xs, tail, hk', hxs, hheap, htl, hexz⟩ := cells_at r hbl hk
      rw [hk] at hk'
      simp only [Option.some.injEq, Prod.mk.injEq] at hk'
      obtain ⟨rfl, rfl⟩ := hk'
      obtain ⟨hple, hpe⟩ := part_eq hold
      have hxl := concL_len hxs
      have grows : ∀ (cap : Nat), cap = c + ex' → cap < l + n → ∃ R' z w', R.le R' ∧ (Builtin.append_ #[t, t2] ty #[.slice (some ⟨k, o, none⟩) l cap, Y]).run P w = .ok z w' ∧ R' p = some (w.heap.size, grownCap w (l + n) cap e - (l + n)) ∧ z = .slice (some ⟨w.heap.size, 0, none⟩) (l + n) (grownCap w (l + n) cap e) ∧ Rel P B W D R' s2.h w' ∧ Kept B w w' := by
        intro cap _ hcap
        have hldN : ldN s.h b o (l * i.size) = some old := by unfold ldN; rw [hbl]; exact hold
        obtain ⟨k2, x2, zs, q1, q2, q3, q4⟩ := ldN_run r hldN hk
        rw [hk] at q1
        simp only [Option.some.injEq, Prod.mk.injEq] at q1
        obtain ⟨rfl, rfl⟩ := q1
        have hfc : (Builtin.firstCells i.size l (.slice (some ⟨k, o, none⟩) l cap)).run P w = .ok zs.toArray w := by
          have := loadCells_at (P := P) q4
          rw [q3] at this; exact this
        have hm := run_append_more (P := P) (w := w) (ty := ty) ht h2 hu hi hzv hlen (srcA_drew hfc) hsrc' hcap (ble_le hb1) (ble_le hb2)
        have hcc : concL R (app old new) = some (zs ++ ys) := by rw [app_eq]; exact concL_app q2 hys
        obtain ⟨R', a1, a2, a3, a4⟩ := new_long r.drew hnw (x := grownCap w (l + n) cap e - (l + n)) (tail := (Builtin.zeroCells zv.cells (grownCap w (l + n) cap e - (l + n))).toList) hcc (by simp [cellsOf_eq hi, hzs, size_zeroCells])
        exact ⟨R', _, _, a1, hm, a2, rfl, a3, (Kept.refl B w).drew.trans a4⟩
      cases ex with
      | true =>
        have hex0 := hexz rfl
        subst hex0
        simp only [cond_true, Option.some.injEq, Prod.mk.injEq] at h
        obtain ⟨rfl, rfl⟩ := h
        obtain ⟨R', z, w', a1, a2, a3, rfl, a4, a5⟩ := grows (c + 0) rfl (by omega)
        have hg := grown_ge w (l + n) (c + 0) e
        refine ⟨R', _, w', a1, a2, ?_, a4, a5⟩
        simp only [conc, a3, Option.map_some]
        rw [show l + n + (grownCap w (l + n) (c + 0) e - (l + n)) = grownCap w (l + n) (c + 0) e by omega]
      | false =>
        rw [cond_false] at h
        cases ho0 : Nat.beq o 0 with
        | false => rw [ho0] at h; cases h
        | true =>
        rw [ho0, cond_true] at h
        cases hlc : Nat.beq (len cs) (c * i.size) with
        | false => rw [hlc] at h; cases h
        | true =>
        rw [hlc] at h
        simp only [cond_true, Option.some.injEq, Prod.mk.injEq] at h
        obtain ⟨rfl, rfl⟩ := h
        obtain rfl := Nat.eq_of_beq_eq_true ho0
        have hlc' := Nat.eq_of_beq_eq_true hlc
        rw [len_eq] at hlc'
        obtain ⟨hp1, hp2⟩ := newO_spec hnw
        have hpb : p ≠ b := fun e => by subst e; rw [hp1] at hbl; cases hbl
        by_cases hcap : c + ex' < l + n
        ·
          obtain ⟨R', z, w', a1, a2, a3, rfl, a4, a5⟩ := grows (c + ex') rfl hcap
          have hg := grown_ge w (l + n) (c + ex') e
          refine ⟨R', _, w', a1, a2, ?_, ?_, a5⟩
          · simp only [conc, a3, Option.map_some]
            rw [show l + n + (grownCap w (l + n) (c + ex') e - (l + n)) = grownCap w (l + n) (c + ex') e by omega]
          · have hb2 : s2.h.get b = some (.cells cs e false) := by rw [hp2, PT.get_set_ne _ _ _ _ hpb]; exact hbl
            exact a4.write hb2 rfl (a1 _ _ hk) (Kept.refl B _) rfl trivial (fun j _ => rfl)
        ·
          have hst := run_storeCells_at (P := P) k (l * i.size) e ys 0 (xs ++ tail).toArray w hheap (by
            have e1 : tail.length = ex' * i.size := by rw [htl, cellsOf_eq hi]
            have e2 : (l + n) * i.size ≤ (c + ex') * i.size := Nat.mul_le_mul_right _ (by omega)
            rw [Nat.add_mul, Nat.add_mul] at e2
            simp; omega) (allOne_conc h1 hys)
          simp only [Nat.add_zero] at hst
          have hrun := run_append_fits (P := P) (w := w) (ty := ty) (base := some ⟨k, 0, none⟩) (l := l) (c := c + ex') ht h2 hu hi hlen hsrc (by omega) (fun a ha => by
            simp only [Option.some.injEq] at ha; subst ha
            rw [add_at, Nat.zero_add]; exact hst) (fun e => by cases e)
          have hlo := r.lo b k ex' hk
          have hnp := r.new p hp1
          have hle := Rf.le_put (k, c + ex' - (l + n)) hnp
          refine ⟨R.put p (k, c + ex' - (l + n)), _, _, hle, hrun, ?_, ?_, kept_setRow (Kept.refl B w) hlo.1 _⟩
          · simp only [conc, Rf.put_at, Option.map_some]
            rw [show l + n + (c + ex' - (l + n)) = c + ex' by omega]
          · refine ⟨?_, ?_, r.nd, ?_, ?_, ?_, by simp; exact r.base, kept_setRow r.old hlo.1 _⟩
            · intro q oq k2 x2 hq hRq
              by_cases hqb : b = q
              · subst hqb
                rw [PT.get_set] at hq
                simp only [Option.some.injEq] at hq; subst hq
                trivial
              · rw [PT.get_set_ne _ _ _ _ hqb, hp2] at hq
                by_cases hqp : p = q
                · subst hqp
                  rw [PT.get_set] at hq
                  simp only [Option.some.injEq] at hq; subst hq
                  rw [Rf.put_at] at hRq
                  simp only [Option.some.injEq, Prod.mk.injEq] at hRq
                  obtain ⟨rfl, rfl⟩ := hRq
                  refine ⟨xs.take (l * i.size) ++ ys, (xs ++ tail).drop (l * i.size + ys.length), ?_, ?_, ?_, fun h => by cases h⟩
                  · rw [app_eq]
                    refine concL_mono hle _ _ (concL_app ?_ hys)
                    rw [hpe]
                    simpa using concL_take (l * i.size) hxs
                  · rw [setRow_heap w k _ _ e (0, 0) hheap]
                    congr 3
                    rw [List.take_append_of_le_length (by omega)]
                  · have e1 : tail.length = ex' * i.size := by rw [htl, cellsOf_eq hi]
                    have e2 : (l + n) * i.size ≤ (c + ex') * i.size := Nat.mul_le_mul_right _ (by omega)
                    rw [cellsOf_eq hi, Nat.sub_mul]
                    rw [Nat.add_mul, Nat.add_mul] at e2 ⊢
                    simp; omega
                · rw [PT.get_set_ne _ _ _ _ hqp] at hq
                  rw [Rf.put_ne R _ (fun e => hqp e.symm)] at hRq
                  have g1 := hRq
                  have g2 := r.obj q oq k2 x2 hq hRq
                  cases hl2 : oq.live with
                  | false => cases oq <;> first | trivial | (cases hl2)
                  | true =>
                    refine g2.mono hle (setRow_other w k k2 _ ?_)
                    rintro rfl
                    exact hqb (r.inj b q _ oq k2 ex' x2 hbl hq rfl hl2 hk g1)
            · intro q oq hq
              obtain ⟨g1, g2⟩ := r.pend q oq hq
              have hqb : b ≠ q := fun e => by subst e; rw [hk] at g2; cases g2
              have hqp : p ≠ q := fun e => by subst e; rw [hp1] at g1; cases g1
              exact ⟨by rw [PT.get_set_ne _ _ _ _ hqb, hp2, PT.get_set_ne _ _ _ _ hqp]; exact g1, by rw [Rf.put_ne R _ (fun e => hqp e.symm)]; exact g2⟩
            · have hget : ∀ q oq, (((s2.h).set (some AO.dead) b).get q = some oq) → oq.live = true → (p = q) ∨ (p ≠ q ∧ b ≠ q ∧ s.h.get q = some oq) := by
                intro q oq hq hl2
                by_cases hqb : b = q
                · subst hqb
                  rw [PT.get_set] at hq
                  simp only [Option.some.injEq] at hq; subst hq; cases hl2
                · rw [PT.get_set_ne _ _ _ _ hqb, hp2] at hq
                  by_cases hqp : p = q
                  · exact .inl hqp
                  · rw [PT.get_set_ne _ _ _ _ hqp] at hq; exact .inr ⟨hqp, hqb, hq⟩
              intro q1 q2 o1 o2 k1 y1 y2 e1 e2 l1 l2 r1 r2
              rcases hget q1 o1 e1 l1 with rfl | ⟨n1, m1, g1⟩
              · rcases hget q2 o2 e2 l2 with rfl | ⟨n2, m2, g2⟩
                · rfl
                · rw [Rf.put_at] at r1
                  rw [Rf.put_ne R _ (fun e => n2 e.symm)] at r2
                  simp only [Option.some.injEq, Prod.mk.injEq] at r1
                  obtain ⟨rfl, _⟩ := r1
                  exact absurd (r.inj b q2 _ o2 k ex' y2 hbl g2 rfl l2 hk r2) m2
              · rw [Rf.put_ne R _ (fun e => n1 e.symm)] at r1
                rcases hget q2 o2 e2 l2 with rfl | ⟨n2, m2, g2⟩
                · rw [Rf.put_at] at r2
                  simp only [Option.some.injEq, Prod.mk.injEq] at r2
                  obtain ⟨rfl, _⟩ := r2
                  exact absurd (r.inj b q1 _ o1 k ex' y1 hbl g1 rfl l1 hk r1) m1
                · rw [Rf.put_ne R _ (fun e => n2 e.symm)] at r2
                  exact r.inj q1 q2 o1 o2 k1 y1 y2 g1 g2 l1 l2 r1 r2
            · intro q hq
              by_cases hqb : b = q
              · subst hqb; rw [PT.get_set] at hq; cases hq
              · rw [PT.get_set_ne _ _ _ _ hqb, hp2] at hq
                by_cases hqp : p = q
                · subst hqp; rw [PT.get_set] at hq; cases hq
                · rw [PT.get_set_ne _ _ _ _ hqp] at hq
                  rw [Rf.put_ne R _ (fun e => hqp e.symm)]; exact r.new q hq
            · intro q k2 y2 hq
              by_cases hqp : q = p
              · subst hqp
                rw [Rf.put_at] at hq
                simp only [Option.some.injEq, Prod.mk.injEq] at hq
                obtain ⟨rfl, _⟩ := hq
                simpa using hlo
              · rw [Rf.put_ne R _ hqp] at hq
                simpa using r.lo q k2 y2 hq
  · rename_i b o l c
    obtain ⟨k, ex', hk, rfl⟩ := conc_lx hx
    split at h
    case h_2 => cases h
    rename_i cs e' ex hbl
    cases he : Nat.beq e e' with
    | false => rw [he] at h; cases h
    | true =>
    rw [he, cond_true] at h
    obtain rfl := Nat.eq_of_beq_eq_true he
    cases hfit : Nat.ble (l + n) c with
    | true => rw [hfit] at h; cases h
    | false =>
      rw [hfit, cond_false] at h
      have hnf : c < l + n := by
        rcases Nat.lt_or_ge c (l + n) with h' | h'
        · exact h'
        · rw [Nat.ble_eq_true_of_le h'] at hfit; cases hfit
      split at h
      case h_2 => cases h
      rename_i old hold
      cases hb1 : Nat.ble ((l + n) * i.bytes) 140737488355328 with
      | false => rw [hb1] at h; cases h
      | true =>
      rw [hb1, cond_true] at h
      cases hb2 : Nat.ble (l + n) 1000000000000 with
      | false => rw [hb2] at h; cases h
      | true =>
      rw [hb2, cond_true] at h
      split at h
      case h_2 => cases h
      rename_i p s2 hnw
      simp only [Option.some.injEq, Prod.mk.injEq] at h
      obtain ⟨rfl, rfl⟩ := h
      have hldN : ldN s.h b o (l * i.size) = some old := by unfold ldN; rw [hbl]; exact hold
      obtain ⟨k2, x2, zs, q1, q2, q3, q4⟩ := ldN_run r hldN hk
      rw [hk] at q1
      simp only [Option.some.injEq, Prod.mk.injEq] at q1
      obtain ⟨rfl, rfl⟩ := q1
      have hfc : (Builtin.firstCells i.size l (.slice (some ⟨k, o, none⟩) l c)).run P w = .ok zs.toArray w := by
        have := loadCells_at (P := P) q4
        rw [q3] at this; exact this
      have hm := run_append_more (P := P) (w := w) (ty := ty) ht h2 hu hi hzv hlen (srcA_drew hfc) hsrc' hnf (ble_le hb1) (ble_le hb2)
      have hcc : concL R (app old new) = some (zs ++ ys) := by rw [app_eq]; exact concL_app q2 hys
      obtain ⟨R', a1, a2, a3, a4⟩ := new_long r.drew hnw (x := grownCap w (l + n) c e - (l + n)) (tail := (Builtin.zeroCells zv.cells (grownCap w (l + n) c e - (l + n))).toList) hcc (by simp [cellsOf_eq hi, hzs, size_zeroCells])
      have hg := grown_ge w (l + n) c e
      refine ⟨R', _, _, a1, hm, ?_, a3, (Kept.refl B w).drew.trans a4⟩
      simp only [conc, a2, Option.map_some]
      rw [show l + n + (grownCap w (l + n) c e - (l + n)) = grownCap w (l + n) c e by omega]
      first | done | rfl
  · cases h
end Go.Ev
namespace Go.Ev
open Go.RowKit
noncomputable def mRange (P : Program) (s : S) (t : TypeId) (x : AV) : Option (AV × S) :=
  match x, P.underlying t with
  | .m b, some (.map ..) => (match s.h.get b with
    | some (.map _ cl) => (match newO (.iter b cl [] cl) s with
      | some (p, s) => some (.p p 0, s)
      | none => none)
    | _ => none)
  | .m0, some (.map ..) => (match newO .iter0 s with
    | some (p, s) => some (.p p 0, s)
    | none => none)
  | _, _ => none
theorem mRange_run {P : Program} {B : Nat → Prop} {W : World} {D : Dn} {R : Rf} {s s' : S} {w : World} (r : Rel P B W D R s.h w) {t : TypeId} {x v : AV} {X : Value} (hx : conc R x = some X) (h : mRange P s t x = some (v, s')) :
    ∃ R' z w', R.le R' ∧ (Instr.range t X).run P w = .ok z w' ∧ conc R' v = some z ∧ Rel P B W D R' s'.h w' ∧ Kept B w w' := by
  unfold mRange at h
  split at h
  · rename_i b kt et ht
    obtain ⟨kb, e, hkb, rfl⟩ := conc_m hx
    split at h
    · rename_i es cl hb
      obtain ⟨kb', x', ys, hkb', hys, hheap⟩ := map_at r hb hkb
      rw [hkb] at hkb'
      simp only [Option.some.injEq, Prod.mk.injEq] at hkb'
      obtain ⟨rfl, rfl⟩ := hkb'
      split at h
      · rename_i p s2 hn
        simp only [Option.some.injEq, Prod.mk.injEq] at h
        obtain ⟨rfl, rfl⟩ := h
        obtain ⟨R', a1, a2, a3, a4⟩ := new_map r (O := .mapIter (some kb) cl #[] cl) hn (fun R' w' hle hw => ⟨(kb, e), hle _ _ hkb, hw⟩)
        refine ⟨R', .pointer (some ⟨w.heap.size, 0, none⟩), _, a1, ?_, by simp only [conc, a2, Option.map_some], a3, a4⟩
        simp [Instr.range, run_underlying ht, run_getMap hheap]
      · cases h
    · cases h
  · rename_i kt et ht
    simp only [conc, Option.some.injEq] at hx; subst hx
    split at h
    · rename_i p s2 hn
      simp only [Option.some.injEq, Prod.mk.injEq] at h
      obtain ⟨rfl, rfl⟩ := h
      obtain ⟨R', a1, a2, a3, a4⟩ := new_map r (O := .mapIter none 0 #[] 0) hn (fun R' w' hle hw => hw)
      refine ⟨R', .pointer (some ⟨w.heap.size, 0, none⟩), _, a1, ?_, by simp only [conc, a2, Option.map_some], a3, a4⟩
      simp [Instr.range, run_underlying ht]
    · cases h
  · cases h
noncomputable def mCopy (P : Program) (s : S) (t : TypeId) (x y : AV) : Option (AV × S) :=
  match x, P.underlying t, lenA y with
  | .l b o l _, some (.slice e), some m => (match P.info? e, s.h.get b with
    | some i, some (.cells c e' ex) => (match srcA s.h i.size (Nat.min m l) y with
      | some new => bif allOne new then (match over new c o with
        | some c' => some (.i .i64 (.ofNat (Nat.min m l)), ⟨s.h.set (some (.cells c' e' ex)) b, s.n⟩)
        | none => none) else none
      | none => none)
    | _, _ => none)
  | .l0, some (.slice e), some m => (match P.info? e with
    | some i => (match srcA s.h i.size 0 y with
      | some _ => some (.i .i64 (.ofNat (Nat.min m 0)), s)
      | none => none)
    | none => none)
  | _, _, _ => none
theorem mCopy_run {P : Program} {B : Nat → Prop} {W : World} {D : Dn} {R : Rf} {s s' : S} {w : World} (r : Rel P B W D R s.h w) {t t2 ty : TypeId} {x y v : AV} {X Y : Value} (hx : conc R x = some X) (hy : conc R y = some Y) (h : mCopy P s t x y = some (v, s')) :
    ∃ z w', (Builtin.copy_ #[t, t2] ty #[X, Y]).run P w = .ok z w' ∧ conc R v = some z ∧ Rel P B W D R s'.h w' ∧ Kept B w w' := by
  unfold mCopy at h
  split at h
  · rename_i b o l c e m ht hm
    obtain ⟨k, ex', hk, rfl⟩ := conc_l hx
    have hlen := lenA_run (P := P) hm hy w
    split at h
    · rename_i i cs e' ex hi hb
      split at h
      · rename_i new hnew
        obtain ⟨ys, hys, hsrc⟩ := srcA_run r hnew hy
        cases h1 : allOne new with
        | false => rw [h1] at h; cases h
        | true =>
          rw [h1, cond_true] at h
          split at h
          · rename_i c' ho
            simp only [Option.some.injEq, Prod.mk.injEq] at h
            obtain ⟨rfl, rfl⟩ := h
            obtain ⟨k', x', w', hk', hst, hr, hbw⟩ := write_row r hb ho hys h1 hk
            rw [hk] at hk'
            simp only [Option.some.injEq, Prod.mk.injEq] at hk'
            obtain ⟨rfl, rfl⟩ := hk'
            refine ⟨_, w', ?_, rfl, hr, hbw⟩
            simp [Builtin.copy_, run_underlying ht, hlen, run_sizeOf hi, hsrc, hst, goInt]
          · cases h
      · cases h
    · cases h
  · rename_i e m ht hm
    simp only [conc, Option.some.injEq] at hx; subst hx
    have hlen := lenA_run (P := P) hm hy w
    split at h
    · rename_i i hi
      split at h
      · rename_i new hnew
        obtain ⟨ys, hys, hsrc⟩ := srcA_run r hnew hy
        simp only [Option.some.injEq, Prod.mk.injEq] at h
        obtain ⟨rfl, rfl⟩ := h
        refine ⟨_, w, ?_, rfl, r, Kept.refl B w⟩
        simp [Builtin.copy_, run_underlying ht, hlen, run_sizeOf hi, hsrc, goInt]
      · cases h
    · cases h
  · cases h
noncomputable def mConv (P : Program) (s : S) (st dt : TypeId) (x : AV) : Option (AV × S) :=
  match x, P.underlying st, P.underlying dt with
  | .s l, some .string, some (.slice e) => (match P.underlying e with
    | some (.int .u8) => (match newO (.ro (l.map fun c => .i .u8 (.ofNat c.toNat)) e) s with
      | some (p, s) => some (.l p 0 (len l) (len l), s)
      | none => none)
    | _ => none)
  | _, _, _ => none
theorem freeze_at {w : World} {k : Nat} {c : Array Value} {e : TypeId} (h : w.heap[k]? = some (.cells c e (0, 0))) (o n : Nat) : ∃ fz, (w.freeze ⟨k, o, none⟩ n).heap[k]? = some (.cells c e fz) := by
  unfold World.freeze
  split
  · exact ⟨_, h⟩
  · exact ⟨(o, o + n), by simp [Array.getElem?_modify, h]⟩
theorem freeze_ne (w : World) {k j : Nat} (h : j ≠ k) (o n : Nat) : (w.freeze ⟨k, o, none⟩ n).heap[j]? = w.heap[j]? := by
  unfold World.freeze
  split
  · rfl
  · simp [Array.getElem?_modify, Ne.symm h]
theorem freeze_size (w : World) (k o n : Nat) : (w.freeze ⟨k, o, none⟩ n).heap.size = w.heap.size := by
  unfold World.freeze
  split <;> simp
theorem freeze_below {w : World} {k : Nat} {B : Nat → Prop} (h : ¬ B k) (o n : Nat) : Kept B w (w.freeze ⟨k, o, none⟩ n) := by
  refine ⟨?_, ?_, ?_, by rw [freeze_size]; exact Nat.le_refl _, fun j hj => freeze_ne w (fun e => h (by rw [← e]; exact hj)) o n⟩ <;> (unfold World.freeze; split <;> rfl)
theorem mConv_run {P : Program} {B : Nat → Prop} {W : World} {D : Dn} {R : Rf} {s s' : S} {w : World} (r : Rel P B W D R s.h w) {st dt : TypeId} {x v : AV} {X : Value} (hx : conc R x = some X) (h : mConv P s st dt x = some (v, s')) :
    ∃ R' z w', R.le R' ∧ (convert st dt X).run P w = .ok z w' ∧ conc R' v = some z ∧ Rel P B W D R' s'.h w' ∧ Kept B w w' := by
  unfold mConv at h
  split at h
  · rename_i l e hs hd
    simp only [conc, Option.some.injEq] at hx; subst hx
    split at h
    · rename_i he
      split at h
      · rename_i p s2 hn
        simp only [Option.some.injEq, Prod.mk.injEq] at h
        obtain ⟨rfl, rfl⟩ := h
        obtain ⟨h1, h2⟩ := newO_spec hn
        have hsz : (⟨l.toArray⟩ : ByteArray).size = l.length := by simp [ByteArray.size]
        have hcap := grown_ge w l.length 0 e
        have hle := Rf.le_put (w.heap.size, grownCap w l.length 0 e - l.length) (r.new p h1)
        have ha := r.drew.alloc (O := .cells ((l.map fun (b : UInt8) => Value.int .u8 (b.toNat : Int)) ++ List.replicate (grownCap w l.length 0 e - l.length) (Value.int .u8 0)).toArray e) (x := grownCap w l.length 0 e - l.length) (o := .ro (l.map fun c => .i .u8 (.ofNat c.toNat)) e) h1
          ⟨_, _, (0, 0), concL_mono hle _ _ (concL_u8 R l), alloc_at w.drew _⟩
        have hat := alloc_at w.drew (.cells ((l.map fun (b : UInt8) => Value.int .u8 (b.toNat : Int)) ++ List.replicate (grownCap w l.length 0 e - l.length) (Value.int .u8 0)).toArray e)
        have hlen : (((l.map fun (b : UInt8) => Value.int .u8 (b.toNat : Int)) ++ List.replicate (grownCap w l.length 0 e - l.length) (Value.int .u8 0)).toArray).size = grownCap w l.length 0 e := by simp; omega
        generalize hO : (((l.map fun (b : UInt8) => Value.int .u8 (b.toNat : Int)) ++ List.replicate (grownCap w l.length 0 e - l.length) (Value.int .u8 0)).toArray) = C at ha hat hlen
        have hrun : (convert st dt (.string ⟨l.toArray⟩)).run P w = .ok (.slice (some ⟨w.heap.size, 0, none⟩) l.length (grownCap w l.length 0 e)) ((w.drew.alloc (.cells C e)).freeze ⟨w.heap.size, grownCap w l.length 0 e, none⟩ 1) := by
          have hC : ((l.map fun (b : UInt8) => Value.int .u8 (b.toNat : Int)).toArray ++ Array.replicate (grownCap w l.length 0 e - l.length) (Value.int .u8 0)) = C := by rw [← hO]; apply Array.ext'; simp
          have hsh : (w.drew.alloc (.cells C e)).shape? w.heap.size = some (e, grownCap w l.length 0 e) := by
            have : (w.drew.alloc (.cells C e)).heap[w.heap.size]? = some (.cells C e (0, 0)) := hat
            unfold World.shape?
            rw [this]
            simp only [hlen]
          have hgc : (Question.appendCap l.length 0 e).cut (w.tape w.drawn (.appendCap l.length 0 e)) = grownCap w l.length 0 e := rfl
          simp [convert, run_underlying hs, run_underlying hd, run_underlying he, Conv.stringToBytes, hsz, Question.forced, hgc, hC, newRow, markStringish, hsh]
        have hk : R.put p (w.heap.size, grownCap w l.length 0 e - l.length) p = some (w.heap.size, grownCap w l.length 0 e - l.length) := Rf.put_at ..
        have hg : (s.h.set (some (.ro (l.map fun c => .i .u8 (.ofNat c.toNat)) e)) p).get p = some (.ro (l.map fun c => .i .u8 (.ofNat c.toNat)) e) := PT.get_set ..
        have hfb : Kept B (w.drew.alloc (.cells C e)) ((w.drew.alloc (.cells C e)).freeze ⟨w.heap.size, grownCap w l.length 0 e, none⟩ 1) := freeze_below (fun hB => absurd (r.base _ hB) (Nat.lt_irrefl _)) _ _
        obtain ⟨xs, tail, fz, q2, q3⟩ := ha.1.obj p _ _ _ hg hk
        have hC3 : C = (xs ++ tail).toArray := by
          have : some (Obj.cells C e (0, 0)) = some (Obj.cells (xs ++ tail).toArray e fz) := hat.symm.trans q3
          simp only [Option.some.injEq, Obj.cells.injEq] at this
          exact this.1
        obtain ⟨fz2, hfz⟩ := freeze_at hat (grownCap w l.length 0 e) 1
        have hw := ha.1.write (o' := .ro (l.map fun c => .i .u8 (.ofNat c.toNat)) e) hg rfl hk hfb (freeze_size ..) ⟨xs, tail, fz2, q2, by rw [← hC3]; exact hfz⟩ (fun j hj => freeze_ne _ hj _ _)
        refine ⟨_, _, _, hle, hrun, ?_, ?_, ((Kept.refl B w).drew.trans ha.2.2).trans hfb⟩
        · simp only [conc, hk, Option.map_some, len_eq]
          rw [show l.length + (grownCap w l.length 0 e - l.length) = grownCap w l.length 0 e by omega]
        · rw [h2]
          refine ⟨fun b o k x e => ?_, fun b o hm => ?_, hw.nd, fun b b' o o' k x x' e1 e2 l1 l2 => ?_, fun b e => ?_, hw.lo, hw.base, hw.old⟩
          · by_cases hb : p = b
            · subst hb
              rw [PT.get_set] at e; simp only [Option.some.injEq] at e; subst e
              exact hw.obj p _ k x (PT.get_set ..)
            · rw [PT.get_set_ne _ _ _ _ hb] at e
              exact hw.obj b o k x (by rw [PT.get_set_ne _ _ _ _ hb, PT.get_set_ne _ _ _ _ hb]; exact e)
          · obtain ⟨g1, g2⟩ := hw.pend b o hm
            refine ⟨?_, g2⟩
            by_cases hb : p = b
            · subst hb; rw [PT.get_set] at g1 ⊢; exact g1
            · rw [PT.get_set_ne _ _ _ _ hb, PT.get_set_ne _ _ _ _ hb] at g1; rw [PT.get_set_ne _ _ _ _ hb]; exact g1
          · refine hw.inj b b' o o' k x x' ?_ ?_ l1 l2
            · by_cases hb : p = b
              · subst hb; rw [PT.get_set] at e1 ⊢; exact e1
              · rw [PT.get_set_ne _ _ _ _ hb] at e1 ⊢; rw [PT.get_set_ne _ _ _ _ hb]; exact e1
            · by_cases hb : p = b'
              · subst hb; rw [PT.get_set] at e2 ⊢; exact e2
              · rw [PT.get_set_ne _ _ _ _ hb] at e2 ⊢; rw [PT.get_set_ne _ _ _ _ hb]; exact e2
          · refine hw.new b ?_
            by_cases hb : p = b
            · subst hb; rw [PT.get_set] at e; cases e
            · rw [PT.get_set_ne _ _ _ _ hb] at e ⊢; rw [PT.get_set_ne _ _ _ _ hb]; exact e
      · cases h
    · cases h
  · cases h
noncomputable def mop (P : Program) (fr : Fr) (s : S) (op : Op) : Option (AV × S) :=
  match op with
  | .alloc e => mAlloc P s e
  | .box e x => (match evx fr x with
    | some v => mBox s e v
    | none => none)
  | .buildSlice t n ps => mBuildS P fr s t n ps.toList
  | .store t a x => (match evx fr a, evx fr x with
    | some u, some v => mStore P s t u v
    | _, _ => none)
  | .makeMap _ none => (match newO (.map [] 0) s with
    | some (p, s) => some (.m p, s)
    | none => none)
  | .makeSlice t l c => (match evx fr l, evx fr c with
    | some u, some v => mMakeS P s t u v
    | _, _ => none)
  | .mapUpdate t m k v => (match evx fr m, evx fr k, evx fr v with
    | some m, some k, some v => mMapU P s t m k v
    | _, _, _ => none)
  | .insert t m k v => (match evx fr m, evx fr k, evx fr v with
    | some m, some k, some v => mMapU P s t m k v
    | _, _, _ => none)
  | .range t x => (match evx fr x with
    | some v => mRange P s t v
    | none => none)
  | .convert st dt x => (match evx fr x with
    | some v => mConv P s st dt v
    | none => none)
  | .call c => (match c.callee, c.argTypes.toList, evxs fr c.args.toList with
    | .builtin .append, [t, t2], some [x, y] => mApp P s t t2 x y
    | .builtin .copy, [t, _], some [x, y] => mCopy P s t x y
    | _, _, _ => none)
  | _ => none
theorem two_conc {R : Rf} {x y : AV} {l : List Value} (h : concL R [x, y] = some l) : ∃ X Y, conc R x = some X ∧ conc R y = some Y ∧ l = [X, Y] := by
  obtain ⟨X, ys, hX, hys, rfl⟩ := concL_cons.1 h
  obtain ⟨Y, zs, hY, hzs, rfl⟩ := concL_cons.1 hys
  simp only [concL, Option.some.injEq] at hzs; subst hzs
  exact ⟨X, Y, hX, hY, rfl⟩
theorem mop_run {P : Program} {B : Nat → Prop} {W : World} {D : Dn} {R : Rf} {s s' : S} {w : World} (r : Rel P B W D R s.h w) {fr : Fr} {a : Act} (hf : FrR R fr a) {o : Oper} {v : AV} (h : mop P fr s o.op = some (v, s')) :
    Eff P B W D R w ((execOp a.eval o).run P w) v s'.h := by
  obtain ⟨dst, op, type, pos, after, guard⟩ := o
  dsimp only at h
  have hu : conc R und = some undef := rfl
  unfold mop at h
  split at h
  · obtain ⟨R', x, w', a1, a2, a3, a4, a5⟩ := mAlloc_run r h
    exact ⟨R', x, w', a1, .inl (by simp only [execOp, Sem.run_bind, a2, Result.andThen_ok, Sem.run_pure]), a3, a4, a5⟩
  · split at h
    · rename_i hx
      obtain ⟨R', x, w', a1, a2, a3, a4, a5⟩ := mBox_run r (evx_conc hf hx) h
      exact ⟨R', x, w', a1, .inl (by simp only [execOp, Sem.run_bind, a2, Result.andThen_ok, Sem.run_pure]), a3, a4, a5⟩
    · cases h
  · obtain ⟨R', x, w', a1, a2, a3, a4, a5⟩ := mBuildS_run r hf h
    exact ⟨R', x, w', a1, .inl (by simp only [execOp, Sem.run_bind, a2, Result.andThen_ok, Sem.run_pure]), a3, a4, a5⟩
  · split at h
    · rename_i h1 h2
      obtain ⟨w', a1, rfl, a3, a4⟩ := mStore_run r (evx_conc hf h1) (evx_conc hf h2) h
      exact ⟨R, undef, w', R.le_refl, .inr ⟨by simp only [execOp, Sem.run_bind, a1, Result.andThen_ok, Sem.run_pure], rfl⟩, hu, a3, a4⟩
    · cases h
  · split at h
    · rename_i p s2 hn
      simp only [Option.some.injEq, Prod.mk.injEq] at h
      obtain ⟨rfl, rfl⟩ := h
      obtain ⟨R', a1, a2, a3, a4⟩ := new_map r (O := .map #[] 0) hn (fun R' w' _ hw => ⟨[], rfl, hw⟩)
      refine ⟨R', .map (some w.heap.size), _, a1, .inl ?_, by simp only [conc, a2, Option.map_some], a3, a4⟩
      simp [execOp, Instr.makeMap]
    · cases h
  · split at h
    · rename_i h1 h2
      obtain ⟨R', x, w', a1, a2, a3, a4, a5⟩ := mMakeS_run r (evx_conc hf h1) (evx_conc hf h2) h
      exact ⟨R', x, w', a1, .inl (by simp only [execOp, Sem.run_bind, a2, Result.andThen_ok, Sem.run_pure]), a3, a4, a5⟩
    · cases h
  · split at h
    · rename_i h1 h2 h3
      obtain ⟨w', a1, rfl, a3, a4⟩ := mMapU_run r (evx_conc hf h1) (evx_conc hf h2) (evx_conc hf h3) h
      exact ⟨R, undef, w', R.le_refl, .inr ⟨by simp only [execOp, Sem.run_bind, a1, Result.andThen_ok, Sem.run_pure], rfl⟩, hu, a3, a4⟩
    · cases h
  · split at h
    · rename_i h1 h2 h3
      obtain ⟨w', a1, rfl, a3, a4⟩ := mMapU_run r (evx_conc hf h1) (evx_conc hf h2) (evx_conc hf h3) h
      exact ⟨R, undef, w', R.le_refl, .inr ⟨by simp only [execOp, Sem.run_bind, a1, Result.andThen_ok, Sem.run_pure], rfl⟩, hu, a3, a4⟩
    · cases h
  · split at h
    · rename_i h1
      obtain ⟨R', x, w', a1, a2, a3, a4, a5⟩ := mRange_run r (evx_conc hf h1) h
      exact ⟨R', x, w', a1, .inl (by simp only [execOp, Sem.run_bind, a2, Result.andThen_ok, Sem.run_pure]), a3, a4, a5⟩
    · cases h
  · split at h
    · rename_i h1
      obtain ⟨R', x, w', a1, a2, a3, a4, a5⟩ := mConv_run r (evx_conc hf h1) h
      exact ⟨R', x, w', a1, .inl (by simp only [execOp, Sem.run_bind, a2, Result.andThen_ok, Sem.run_pure]), a3, a4, a5⟩
    · cases h
  · rename_i c
    have ea : ∀ l, c.args.toList.map a.eval = l → (c.args.map a.eval) = l.toArray := fun l e => by apply Array.ext'; simpa using e
    have et : ∀ l, c.argTypes.toList = l → c.argTypes = l.toArray := fun l e => by apply Array.ext'; simpa using e
    split at h
    · rename_i t t2 x y hc hts hvs
      obtain ⟨X, Y, hX, hY, he⟩ := two_conc (evxs_conc hf hvs)
      obtain ⟨R', z, w', a1, a2, a3, a4, a5⟩ := mApp_run (ty := type) r hX hY h
      refine ⟨R', z, w', a1, .inl ?_, a3, a4, a5⟩
      simp only [execOp, resolve, hc, Sem.run_bind, Sem.run_pure, Result.andThen_ok, invoke, builtin, ea _ he, et _ hts]
      rw [a2]; rfl
    · rename_i t t2 x y hc hts hvs
      obtain ⟨X, Y, hX, hY, he⟩ := two_conc (evxs_conc hf hvs)
      obtain ⟨z, w', a2, a3, a4, a5⟩ := mCopy_run (t2 := t2) (ty := type) r hX hY h
      refine ⟨R, z, w', R.le_refl, .inl ?_, a3, a4, a5⟩
      simp only [execOp, resolve, hc, Sem.run_bind, Sem.run_pure, Result.andThen_ok, invoke, builtin, ea _ he, et _ hts]
      rw [a2]; rfl
    · cases h
  · cases h
end Go.Ev
