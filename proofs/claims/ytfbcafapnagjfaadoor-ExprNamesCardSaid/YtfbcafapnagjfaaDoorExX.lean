/- expr: sign, over a map that is gone through in whatever order. -/
import Derived.Test.YtfbcafapnagjfaaDoorExS
import Derived.Deep.LoopGhost
import Derived.Test.YtfbcafapnagjfaaDoorShelf
import Derived.Maps.RangeWalk
import Derived.Laws.StructEq
namespace Go.Proofs.YtfbcafapnagjfaaDoor
open Go.RowKit

/-- block m is the map of the signs, block r goes through it; seen are those that came -/
def Its (w : World) (m r : Nat) (seen : Array Nat) : Prop := w.heap[m]? = some (.map signEs 3) ∧ w.heap[r]? = some (.mapIter (some m) 3 seen 3) ∧ r ≠ m
theorem Its.alloc {w : World} {m r : Nat} {seen : Array Nat} (h : Its w m r seen) (o : Obj) : Its (w.alloc o) m r seen := by
  obtain ⟨h1, h2, h3⟩ := h
  exact ⟨(Below.heap_alloc w o m (Array.getElem?_eq_some_iff.1 h1).1).trans h1, (Below.heap_alloc w o r (Array.getElem?_eq_some_iff.1 h2).1).trans h2, h3⟩
theorem Its.lt {w : World} {m r : Nat} {seen : Array Nat} (h : Its w m r seen) : r < w.heap.size := (Array.getElem?_eq_some_iff.1 h.2.1).1

theorem sign_mem {e : MapEntry} (h : e ∈ signEs.toList) : ∃ (c a b : Int), e.key = .int .u8 c ∧ e.val = .agg #[.int .i64 a, .int .i64 b] ∧ ((c = 42 ∧ a = 0 ∧ b = -1) ∨ (c = 43 ∧ a = 1 ∧ b = -1) ∨ (c = 63 ∧ a = 0 ∧ b = 1)) := by
  simp [signEs] at h
  rcases h with rfl | rfl | rfl
  · exact ⟨42, 0, -1, rfl, rfl, .inl ⟨rfl, rfl, rfl⟩⟩
  · exact ⟨43, 1, -1, rfl, rfl, .inr (.inl ⟨rfl, rfl, rfl⟩)⟩
  · exact ⟨63, 0, 1, rfl, rfl, .inr (.inr ⟨rfl, rfl, rfl⟩)⟩

section
variable {P : Program} (w : World) {ops : Array Oper} {rest : List Oper} {o : Oper} {a : Act} {Q : Exit → Act → World → Prop}
theorem wpList_next_sign (hg : o.guard = none) (it : Operand) (hop : o.op = Op.next it false) (m r : Nat) (seen : Array Nat) (hit : a.eval it = .pointer (some ⟨r, 0, none⟩)) (h : Its w m r seen)
    (hDone : (leftOf signEs seen).size = 0 → wpList P ops Q rest (a.put o.dst (.tuple #[.bool false])) w)
    (hMore : ∀ (e : MapEntry) (c x y : Int) (w' : World), e ∈ (leftOf signEs seen).toList → e.key = .int .u8 c → e.val = .agg #[.int .i64 x, .int .i64 y] → ((c = 42 ∧ x = 0 ∧ y = -1) ∨ (c = 43 ∧ x = 1 ∧ y = -1) ∨ (c = 63 ∧ x = 0 ∧ y = 1)) →
      Its w' m r (seen.push e.born) → Below r w w' → w'.heap.size = w.heap.size → (Instr.entry (.pointer (some ⟨r, 0, none⟩))).run P w' = .ok (.tuple #[.int .u8 c, .agg #[.int .i64 x, .int .i64 y]]) w' →
      wpList P ops Q rest (a.put o.dst (.tuple #[.bool true, .int .u8 c, .agg #[.int .i64 x, .int .i64 y]])) w') :
    wpList P ops Q (o :: rest) a w := by
  refine wpList_plain hg fun K' hK' => ?_
  unfold Oper.wp
  obtain ⟨h1, h2, h3⟩ := h
  rcases run_next_at (P := P) w o.type r m 3 3 seen signEs 3 h2 h1 (by intro x hx; simp [signEs] at hx; rcases hx with rfl | rfl | rfl <;> decide) (by omega) with ⟨h0, hrun⟩ | ⟨e, he, w1, hw1, hrun⟩
  · simp [execOp, hop, hit, hrun, Result.andThen]
    exact hK' _ _ (hDone h0)
  · obtain ⟨hes, -⟩ := mem_left he
    obtain ⟨c, x, y, hk, hv, hcase⟩ := sign_mem hes
    simp [execOp, hop, hit, hrun, Result.andThen]
    rw [hk, hv]
    have hh1 : w1.heap = w.heap := by rcases hw1 with rfl | rfl <;> rfl
    have hos : w1.os = w.os ∧ w1.tape = w.tape ∧ w1.output = w.output := by rcases hw1 with rfl | rfl <;> exact ⟨rfl, rfl, rfl⟩
    have hr : r < w.heap.size := (Array.getElem?_eq_some_iff.1 h2).1
    have e1 : (ChangeMaps.setBlock w1 r (.mapIter (some m) 3 (seen.push e.born) 3)).heap[r]? = some (.mapIter (some m) 3 (seen.push e.born) 3) := by simp [ChangeMaps.setBlock, hh1, hr]
    have e2 : ∀ k, k ≠ r → (ChangeMaps.setBlock w1 r (.mapIter (some m) 3 (seen.push e.born) 3)).heap[k]? = w.heap[k]? := by
      intro k hk
      simp [ChangeMaps.setBlock, hh1, Ne.symm hk]
    have e3 : Its (ChangeMaps.setBlock w1 r (.mapIter (some m) 3 (seen.push e.born) 3)) m r (seen.push e.born) := ⟨(e2 m (Ne.symm h3)).trans h1, e1, h3⟩
    refine hK' _ _ (hMore e c x y _ he hk hv hcase e3 ⟨hos.1, hos.2.1, hos.2.2, by simp [ChangeMaps.setBlock, hh1], fun k hk => e2 k (by omega)⟩ (by simp [ChangeMaps.setBlock, hh1]) ?_)
    have := run_entry_at (P := P) (ChangeMaps.setBlock w1 r (.mapIter (some m) 3 (seen.push e.born) 3)) r m 3 seen signEs 3 e e1 e3.1 hes (by simp [signEs])
    rw [hk, hv] at this
    exact this
end

theorem run_rangeS {P : Program} (w : World) (t k e : TypeId) (m : Nat) (ht : P.underlying t = some (.map k e)) (hm : w.heap[m]? = some (.map signEs 3)) :
    (Instr.range t (.map (some m))).run P w = .ok (.pointer (some ⟨w.heap.size, 0, none⟩)) (w.alloc (.mapIter (some m) 3 #[] 3)) := by
  simp [Instr.range, run_underlying ht, MapKept.run_getObj_map hm, Result.andThen, newObj, Sem.run]
/-! ## sign -/
theorem sign_born {e f : MapEntry} (he : e ∈ signEs.toList) (hf : f ∈ signEs.toList) (h : e.born = f.born) : e = f := by
  simp [signEs] at he hf
  rcases he with rfl | rfl | rfl <;> rcases hf with rfl | rfl | rfl <;> first | rfl | (simp at h)
theorem sign_left {seen : Array Nat} {e f : MapEntry} (he : e ∈ (leftOf signEs seen).toList) (hf : f ∈ (leftOf signEs seen).toList) (hne : e.val ≠ f.val) : f ∈ (leftOf signEs (seen.push e.born)).toList := by
  obtain ⟨h1, h2⟩ := mem_left hf
  obtain ⟨h3, -⟩ := mem_left he
  have hb : f.born ≠ e.born := fun h => hne (by rw [sign_born h1 h3 h])
  simp only [leftOf, Array.toList_filter, List.mem_filter]
  refine ⟨h1, ?_⟩
  have h2' : f.born ∉ seen := by simpa using h2
  simp [h2', hb]

set_option maxRecDepth 100000 in
set_option maxHeartbeats 1600000 in
theorem signP_any (w : World) : Calls Tryd.prog 40 #[.int .i64 1, .int .i64 (-1)] w fun e w' => e = .returned (.string (baOf [43])) ∧ Below w.heap.size w w' := by
  have hq0 : ∀ w : World, (binOp .eql 63 (.agg #[.int .i64 0, .int .i64 (-1)]) (.agg #[.int .i64 1, .int .i64 (-1)])).run Tryd.prog w = .ok (.bool false) w := fun w => by kernel_rfl
  have hq1 : ∀ w : World, (binOp .eql 63 (.agg #[.int .i64 1, .int .i64 (-1)]) (.agg #[.int .i64 1, .int .i64 (-1)])).run Tryd.prog w = .ok (.bool true) w := fun w => by kernel_rfl
  have hq2 : ∀ w : World, (binOp .eql 63 (.agg #[.int .i64 0, .int .i64 1]) (.agg #[.int .i64 1, .int .i64 (-1)])).run Tryd.prog w = .ok (.bool false) w := fun w => by kernel_rfl
  have hgd : Tryd.prog.eqGuardType Tryd.prog.depth 63 = false := by kernel_rfl
  obtain ⟨w0, rfl⟩ : ∃ w0 : World, w0 = w := ⟨_, rfl⟩
  have hrg := run_rangeS (P := Tryd.prog) (w0.alloc (.map signEs 3)) 61 5 63 w0.heap.size Tryd.underlying61 (heap_alloc_new w0 _)
  rw [World.size_alloc] at hrg
  have HI0 : Hid (Its ((w0.alloc (.map signEs 3)).alloc (.mapIter (some w0.heap.size) 3 #[] 3)) w0.heap.size (w0.heap.size + 1) #[]) := by
    refine ⟨(Below.heap_alloc _ _ _ (by simp)).trans (heap_alloc_new w0 _), ?_, by omega⟩
    have := heap_alloc_new (w0.alloc (.map signEs 3)) (.mapIter (some w0.heap.size) 3 #[] 3)
    rw [World.size_alloc] at this; exact this
  have HB0 : Hid (Below w0.heap.size w0 ((w0.alloc (.map signEs 3)).alloc (.mapIter (some w0.heap.size) 3 #[] 3))) := two_boxes _ _ _
  go_enter Tryd.func40, Tryd.ntmps40
  go_wp2_with fail
  refine (signs_any w0).mono ?_
  rintro x w1 ⟨rfl, rfl⟩
  go_wp2_with fail
  clear hrg
  go_loopg [5, 6, 10] 4 (fun n _ _ _ wr => ∃ seen : Array Nat, (leftOf signEs seen).size < n ∧ Hid (Its wr w0.heap.size (w0.heap.size + 1) seen) ∧ Hid (Below w0.heap.size w0 wr) ∧ Hid (∀ e ∈ signEs.toList, e.val = pairV 1 (-1) → e ∈ (leftOf signEs seen).toList))
  case atStart => exact ⟨#[], by decide +kernel, HI0.out, HB0.out, fun e he _ => by simpa [leftOf] using he⟩
  case round =>
    obtain ⟨seen, hsn, HI, HB, HE⟩ := hrel
    go_wp2_with (at_next; refine wpList_next_sign _ rfl _ rfl w0.heap.size (w0.heap.size + 1) seen rfl HI.out ?_ ?_)
    · intro h0
      have h1 := HE.out (signEs[1]) (by simp [signEs]) rfl
      rw [h0] at h1
      simp at h1
    · intro e c x y w2 he hk hv hcase hI2 hb2 hz2 hen
      have he' : e ∈ (leftOf signEs seen).toList := by simpa using he
      have hsh := left_shrinks signEs seen e he'
      have HI2 := Lib.hid (hI2.alloc (.cells #[.int .i64 x, .int .i64 y] 63))
      have HB2 : Hid (Below w0.heap.size w0 (w2.alloc (.cells #[.int .i64 x, .int .i64 y] 63))) := (HB.out.trans (hb2.mono (by omega))).alloc (by have := HB.out.size; omega) _
      have HV := Lib.hid hv
      have HEE := Lib.hid he'
      clear hb2 hz2 hk hv he he' hI2 HI HB
      rcases hcase with ⟨rfl, rfl, rfl⟩ | ⟨rfl, rfl, rfl⟩ | ⟨rfl, rfl, rfl⟩
      · have hlt : (leftOf signEs (seen.push e.born)).size < gk - 1 := by omega
        have HE2 : Hid (∀ f ∈ signEs.toList, f.val = pairV 1 (-1) → f ∈ (leftOf signEs (seen.push e.born)).toList) := fun f hf hfv => sign_left HEE.out (HE.out f hf hfv) (by rw [HV.out, hfv]; simp [pairV])
        have HIB := Lib.hid (And.intro HI2.out HB2.out)
        have hgk : gk - 1 < gk := by omega
        have HLT := Lib.hid hlt
        clear hsh HV HEE hlt HI2 HB2
        go_wp2_with fail
        go_roundg (gk - 1)
        case rel => exact ⟨seen.push e.born, HLT.out, HIB.out.1, HIB.out.2, HE2.out⟩
        case measure => exact hgk
      · have hrun := run_str (P := Tryd.prog) ((w2.alloc (.cells #[.int .i64 1, .int .i64 (-1)] 63)).alloc (.cells #[.int .u8 43] 5)) 64 9 5 Tryd.underlying64 Tryd.underlying5 Tryd.underlying9 (Bs.lit1 (w2.alloc (.cells #[.int .i64 1, .int .i64 (-1)] 63)) 5 43 43 rfl)
        rw [World.size_alloc] at hrun
        clear hsh HI2
        go_wp2_with fail
        go_ret
        exact ⟨rfl, HB2.out.alloc (by have := HB2.out.size; omega) _⟩
      · have hlt : (leftOf signEs (seen.push e.born)).size < gk - 1 := by omega
        have HE2 : Hid (∀ f ∈ signEs.toList, f.val = pairV 1 (-1) → f ∈ (leftOf signEs (seen.push e.born)).toList) := fun f hf hfv => sign_left HEE.out (HE.out f hf hfv) (by rw [HV.out, hfv]; simp [pairV])
        have HIB := Lib.hid (And.intro HI2.out HB2.out)
        have hgk : gk - 1 < gk := by omega
        have HLT := Lib.hid hlt
        clear hsh HV HEE hlt HI2 HB2
        go_wp2_with fail
        go_roundg (gk - 1)
        case rel => exact ⟨seen.push e.born, HLT.out, HIB.out.1, HIB.out.2, HE2.out⟩
        case measure => exact hgk

set_option maxRecDepth 100000 in
set_option maxHeartbeats 1600000 in
theorem signS_any (w : World) : Calls Tryd.prog 40 #[.int .i64 0, .int .i64 (-1)] w fun e w' => e = .returned (.string (baOf [42])) ∧ Below w.heap.size w w' := by
  have hq0 : ∀ w : World, (binOp .eql 63 (.agg #[.int .i64 0, .int .i64 (-1)]) (.agg #[.int .i64 0, .int .i64 (-1)])).run Tryd.prog w = .ok (.bool true) w := fun w => by kernel_rfl
  have hq1 : ∀ w : World, (binOp .eql 63 (.agg #[.int .i64 1, .int .i64 (-1)]) (.agg #[.int .i64 0, .int .i64 (-1)])).run Tryd.prog w = .ok (.bool false) w := fun w => by kernel_rfl
  have hq2 : ∀ w : World, (binOp .eql 63 (.agg #[.int .i64 0, .int .i64 1]) (.agg #[.int .i64 0, .int .i64 (-1)])).run Tryd.prog w = .ok (.bool false) w := fun w => by kernel_rfl
  have hgd : Tryd.prog.eqGuardType Tryd.prog.depth 63 = false := by kernel_rfl
  obtain ⟨w0, rfl⟩ : ∃ w0 : World, w0 = w := ⟨_, rfl⟩
  have hrg := run_rangeS (P := Tryd.prog) (w0.alloc (.map signEs 3)) 61 5 63 w0.heap.size Tryd.underlying61 (heap_alloc_new w0 _)
  rw [World.size_alloc] at hrg
  have HI0 : Hid (Its ((w0.alloc (.map signEs 3)).alloc (.mapIter (some w0.heap.size) 3 #[] 3)) w0.heap.size (w0.heap.size + 1) #[]) := by
    refine ⟨(Below.heap_alloc _ _ _ (by simp)).trans (heap_alloc_new w0 _), ?_, by omega⟩
    have := heap_alloc_new (w0.alloc (.map signEs 3)) (.mapIter (some w0.heap.size) 3 #[] 3)
    rw [World.size_alloc] at this; exact this
  have HB0 : Hid (Below w0.heap.size w0 ((w0.alloc (.map signEs 3)).alloc (.mapIter (some w0.heap.size) 3 #[] 3))) := two_boxes _ _ _
  go_enter Tryd.func40, Tryd.ntmps40
  go_wp2_with fail
  refine (signs_any w0).mono ?_
  rintro x w1 ⟨rfl, rfl⟩
  go_wp2_with fail
  clear hrg
  go_loopg [5, 6, 10] 4 (fun n _ _ _ wr => ∃ seen : Array Nat, (leftOf signEs seen).size < n ∧ Hid (Its wr w0.heap.size (w0.heap.size + 1) seen) ∧ Hid (Below w0.heap.size w0 wr) ∧ Hid (∀ e ∈ signEs.toList, e.val = pairV 0 (-1) → e ∈ (leftOf signEs seen).toList))
  case atStart => exact ⟨#[], by decide +kernel, HI0.out, HB0.out, fun e he _ => by simpa [leftOf] using he⟩
  case round =>
    obtain ⟨seen, hsn, HI, HB, HE⟩ := hrel
    go_wp2_with (at_next; refine wpList_next_sign _ rfl _ rfl w0.heap.size (w0.heap.size + 1) seen rfl HI.out ?_ ?_)
    · intro h0
      have h1 := HE.out (signEs[0]) (by simp [signEs]) rfl
      rw [h0] at h1
      simp at h1
    · intro e c x y w2 he hk hv hcase hI2 hb2 hz2 hen
      have he' : e ∈ (leftOf signEs seen).toList := by simpa using he
      have hsh := left_shrinks signEs seen e he'
      have HI2 := Lib.hid (hI2.alloc (.cells #[.int .i64 x, .int .i64 y] 63))
      have HB2 : Hid (Below w0.heap.size w0 (w2.alloc (.cells #[.int .i64 x, .int .i64 y] 63))) := (HB.out.trans (hb2.mono (by omega))).alloc (by have := HB.out.size; omega) _
      have HV := Lib.hid hv
      have HEE := Lib.hid he'
      clear hb2 hz2 hk hv he he' hI2 HI HB
      rcases hcase with ⟨rfl, rfl, rfl⟩ | ⟨rfl, rfl, rfl⟩ | ⟨rfl, rfl, rfl⟩
      · have hrun := run_str (P := Tryd.prog) ((w2.alloc (.cells #[.int .i64 0, .int .i64 (-1)] 63)).alloc (.cells #[.int .u8 42] 5)) 64 9 5 Tryd.underlying64 Tryd.underlying5 Tryd.underlying9 (Bs.lit1 (w2.alloc (.cells #[.int .i64 0, .int .i64 (-1)] 63)) 5 42 42 rfl)
        rw [World.size_alloc] at hrun
        clear hsh HI2
        go_wp2_with fail
        go_ret
        exact ⟨rfl, HB2.out.alloc (by have := HB2.out.size; omega) _⟩
      · have hlt : (leftOf signEs (seen.push e.born)).size < gk - 1 := by omega
        have HE2 : Hid (∀ f ∈ signEs.toList, f.val = pairV 0 (-1) → f ∈ (leftOf signEs (seen.push e.born)).toList) := fun f hf hfv => sign_left HEE.out (HE.out f hf hfv) (by rw [HV.out, hfv]; simp [pairV])
        have HIB := Lib.hid (And.intro HI2.out HB2.out)
        have hgk : gk - 1 < gk := by omega
        have HLT := Lib.hid hlt
        clear hsh HV HEE hlt HI2 HB2
        go_wp2_with fail
        go_roundg (gk - 1)
        case rel => exact ⟨seen.push e.born, HLT.out, HIB.out.1, HIB.out.2, HE2.out⟩
        case measure => exact hgk
      · have hlt : (leftOf signEs (seen.push e.born)).size < gk - 1 := by omega
        have HE2 : Hid (∀ f ∈ signEs.toList, f.val = pairV 0 (-1) → f ∈ (leftOf signEs (seen.push e.born)).toList) := fun f hf hfv => sign_left HEE.out (HE.out f hf hfv) (by rw [HV.out, hfv]; simp [pairV])
        have HIB := Lib.hid (And.intro HI2.out HB2.out)
        have hgk : gk - 1 < gk := by omega
        have HLT := Lib.hid hlt
        clear hsh HV HEE hlt HI2 HB2
        go_wp2_with fail
        go_roundg (gk - 1)
        case rel => exact ⟨seen.push e.born, HLT.out, HIB.out.1, HIB.out.2, HE2.out⟩
        case measure => exact hgk

set_option maxRecDepth 100000 in
set_option maxHeartbeats 1600000 in
theorem signB_any (w : World) : Calls Tryd.prog 40 #[.int .i64 2, .int .i64 3] w fun e w' => e = .returned (.string (baOf [123, 50, 44, 51, 125])) ∧ Below w.heap.size w w' := by
  have hq0 : ∀ w : World, (binOp .eql 63 (.agg #[.int .i64 0, .int .i64 (-1)]) (.agg #[.int .i64 2, .int .i64 3])).run Tryd.prog w = .ok (.bool false) w := fun w => by kernel_rfl
  have hq1 : ∀ w : World, (binOp .eql 63 (.agg #[.int .i64 1, .int .i64 (-1)]) (.agg #[.int .i64 2, .int .i64 3])).run Tryd.prog w = .ok (.bool false) w := fun w => by kernel_rfl
  have hq2 : ∀ w : World, (binOp .eql 63 (.agg #[.int .i64 0, .int .i64 1]) (.agg #[.int .i64 2, .int .i64 3])).run Tryd.prog w = .ok (.bool false) w := fun w => by kernel_rfl
  have hgd : Tryd.prog.eqGuardType Tryd.prog.depth 63 = false := by kernel_rfl
  obtain ⟨w0, rfl⟩ : ∃ w0 : World, w0 = w := ⟨_, rfl⟩
  have hrg := run_rangeS (P := Tryd.prog) (w0.alloc (.map signEs 3)) 61 5 63 w0.heap.size Tryd.underlying61 (heap_alloc_new w0 _)
  rw [World.size_alloc] at hrg
  have HI0 : Hid (Its ((w0.alloc (.map signEs 3)).alloc (.mapIter (some w0.heap.size) 3 #[] 3)) w0.heap.size (w0.heap.size + 1) #[]) := by
    refine ⟨(Below.heap_alloc _ _ _ (by simp)).trans (heap_alloc_new w0 _), ?_, by omega⟩
    have := heap_alloc_new (w0.alloc (.map signEs 3)) (.mapIter (some w0.heap.size) 3 #[] 3)
    rw [World.size_alloc] at this; exact this
  have HB0 : Hid (Below w0.heap.size w0 ((w0.alloc (.map signEs 3)).alloc (.mapIter (some w0.heap.size) 3 #[] 3))) := two_boxes _ _ _
  have i2 := fun w => Tryd.strconv_Itoa_small 2 (by omega) w
  have i3 := fun w => Tryd.strconv_Itoa_small 3 (by omega) w
  have d2 : Lib.decDigits 2 = [50] := by rw [Lib.decDigits]; rfl
  have d3 : Lib.decDigits 3 = [51] := by rw [Lib.decDigits]; rfl
  rw [d2] at i2
  rw [d3] at i3
  have I2 := Lib.hid i2
  have I3 := Lib.hid i3
  clear i2 i3 d2 d3
  go_enter Tryd.func40, Tryd.ntmps40
  go_wp2_with fail
  refine (signs_any w0).mono ?_
  rintro x w1 ⟨rfl, rfl⟩
  go_wp2_with fail
  clear hrg
  go_loopg [5, 6, 10] 4 (fun n _ _ _ wr => ∃ seen : Array Nat, (leftOf signEs seen).size < n ∧ Hid (Its wr w0.heap.size (w0.heap.size + 1) seen) ∧ Hid (Below w0.heap.size w0 wr))
  case atStart => exact ⟨#[], by decide +kernel, HI0.out, HB0.out⟩
  case round =>
    obtain ⟨seen, hsn, HI, HB⟩ := hrel
    go_wp2_with (at_next; refine wpList_next_sign _ rfl _ rfl w0.heap.size (w0.heap.size + 1) seen rfl HI.out ?_ ?_)
    · intro h0
      clear h0 hsn HI
      go_wp2_with fail
      refine (I2.out _).mono ?_
      rintro x w3 ⟨rfl, rfl⟩
      go_wp2_with fail
      refine (I3.out _).mono ?_
      rintro x w3 ⟨rfl, rfl⟩
      go_wp2_with fail
      go_ret
      exact ⟨rfl, HB.out⟩
    · intro e c x y w2 he hk hv hcase hI2 hb2 hz2 hen
      have he' : e ∈ (leftOf signEs seen).toList := by simpa using he
      have hsh := left_shrinks signEs seen e he'
      have HI2 := Lib.hid (hI2.alloc (.cells #[.int .i64 x, .int .i64 y] 63))
      have HB2 : Hid (Below w0.heap.size w0 (w2.alloc (.cells #[.int .i64 x, .int .i64 y] 63))) := (HB.out.trans (hb2.mono (by omega))).alloc (by have := HB.out.size; omega) _
      have HV := Lib.hid hv
      have HEE := Lib.hid he'
      clear hb2 hz2 hk hv he he' hI2 HI HB
      rcases hcase with ⟨rfl, rfl, rfl⟩ | ⟨rfl, rfl, rfl⟩ | ⟨rfl, rfl, rfl⟩
      · have hlt : (leftOf signEs (seen.push e.born)).size < gk - 1 := by omega
        have HIB := Lib.hid (And.intro HI2.out HB2.out)
        have hgk : gk - 1 < gk := by omega
        have HLT := Lib.hid hlt
        clear hsh HV HEE hlt HI2 HB2
        go_wp2_with fail
        go_roundg (gk - 1)
        case rel => exact ⟨seen.push e.born, HLT.out, HIB.out.1, HIB.out.2⟩
        case measure => exact hgk
      · have hlt : (leftOf signEs (seen.push e.born)).size < gk - 1 := by omega
        have HIB := Lib.hid (And.intro HI2.out HB2.out)
        have hgk : gk - 1 < gk := by omega
        have HLT := Lib.hid hlt
        clear hsh HV HEE hlt HI2 HB2
        go_wp2_with fail
        go_roundg (gk - 1)
        case rel => exact ⟨seen.push e.born, HLT.out, HIB.out.1, HIB.out.2⟩
        case measure => exact hgk
      · have hlt : (leftOf signEs (seen.push e.born)).size < gk - 1 := by omega
        have HIB := Lib.hid (And.intro HI2.out HB2.out)
        have hgk : gk - 1 < gk := by omega
        have HLT := Lib.hid hlt
        clear hsh HV HEE hlt HI2 HB2
        go_wp2_with fail
        go_roundg (gk - 1)
        case rel => exact ⟨seen.push e.born, HLT.out, HIB.out.1, HIB.out.2⟩
        case measure => exact hgk
end Go.Proofs.YtfbcafapnagjfaaDoor
