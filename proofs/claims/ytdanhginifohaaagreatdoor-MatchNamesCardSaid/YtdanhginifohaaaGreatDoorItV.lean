/- slices.AppendSeq(nil, slices.Values(s)), s of texts. -/
import Derived.Test.YtdanhginifohaaaGreatDoorIt
namespace Go.Proofs.YtdanhginifohaaaGreatDoor
open Go.RowKit Go.Shelf Go.Maps Go.Sort

/-- an int -/
def iOf : Value → Nat
  | .int _ n => n.toNat
  | _ => 0
/-- a slice of texts that is read -/
def TxAt (w : World) (b off : Nat) (xs : List (List UInt8)) : Prop := ∀ (i : Nat) (h : i < xs.length), w.cell? ⟨b, off + i, none⟩ = some (encStr xs[i])

set_option maxRecDepth 100000 in
set_option maxHeartbeats 2000000 in
/-- slices.Values: each element comes, in its order, where what the caller keeps tells that nothing older has turned -/
theorem values_in (n : Nat) (hn : 1 ≤ n) (l Bm b off cap : Nat) (xs : List (List UInt8)) (hxs : xs.length ≤ 4611686018427387904) (w : World) (J : List (List UInt8) → World → Prop)
    (hJB : ∀ s W, J s W → Below w.heap.size w W)
    (hY : ∀ pre x W, J pre W → pre.length < xs.length → YieldAt Fence.wide (n - 1) Tryz.prog l #[encStr x] W fun e W' => e = .returned (.bool true) ∧ J (pre ++ [x]) W')
    (hBm : Bm < w.heap.size) (hb : b < w.heap.size) (hm : w.cell? ⟨Bm, 0, none⟩ = some (.slice (some ⟨b, off, none⟩) xs.length cap)) (hx : TxAt w b off xs)
    (W : World) (h0 : J [] W) :
    CallsIn Fence.wide n Tryz.prog 124 #[.func (.yield l) #[] #[], .pointer (some ⟨Bm, 0, none⟩)] W fun e W' => (∃ v, e = .returned v) ∧ J xs W' := by
  have hm0 := (hJB _ _ h0).cell (p := ⟨Bm, 0, none⟩) hBm |>.trans hm
  refine callsIn_of_wp Tryz.func124 rfl trivial ?_
  simp only [Tryz.ntmps124, List.size_toArray, List.length_cons, List.length_nil, Nat.reduceAdd, Nat.reduceSub, Array.replicate_succ, Array.replicate_zero, List.push_toArray, List.append_toArray, List.nil_append, List.cons_append]
  gi_wp2
  gi_loopw [7] (fun v wr => ∃ i : Nat, v = .int .i64 i ∧ i ≤ xs.length ∧ J (xs.take i) wr) (fun v _ => xs.length - iOf v)
  case atStart => exact ⟨0, rfl, Nat.zero_le _, by simpa using h0⟩
  case round =>
    obtain ⟨i, rfl, hi, hJ⟩ := hrel
    by_cases hlt : i < xs.length
    · have hc1 : decide ((i : Int) < (xs.length : Int)) = true := by simpa using hlt
      have hd := (hJB _ _ hJ)
      have hel := (hd.cell (p := ⟨b, off + i, none⟩) hb).trans (hx i hlt)
      obtain ⟨fn, tmps, assign, body, hy, hR⟩ := hY (xs.take i) xs[i] wr hJ (by rw [List.length_take]; omega)
      have hw : IntKind.i64.wrap ((i : Int) + 1) = ((i + 1 : Nat) : Int) := by rw [IntKind.wrap_i64]; omega
      gi_wp2
      refine hR.mono ?_
      rintro e W3 ⟨rfl, hJ3⟩
      gi_wp2
      go_roundw
      case rel => exact ⟨i + 1, rfl, by omega, by rw [List.take_succ_eq_append_getElem hlt]; exact hJ3⟩
      case measure => simp only [iOf]; omega
    · have hc1 : decide ((i : Int) < (xs.length : Int)) = false := by simpa using hlt
      gi_wp2
      go_end0
      obtain rfl : i = xs.length := by omega
      exact ⟨⟨_, rfl⟩, by simpa using hJ⟩

set_option maxRecDepth 100000 in
set_option maxHeartbeats 2000000 in
/-- slices.AppendSeq(nil, slices.Values(s)): a row of the call's own with the texts of s -/
theorem appendValues_any (Bm b off cap : Nat) (xs : List (List UInt8)) (hxs : xs.length ≤ 8000000000000) (w : World)
    (hBm : Bm < w.heap.size) (hb : b < w.heap.size) (hm : w.cell? ⟨Bm, 0, none⟩ = some (.slice (some ⟨b, off, none⟩) xs.length cap)) (hx : TxAt w b off xs) :
    Calls Tryz.prog 190 #[.slice none 0 0, .func (.func 124) #[] #[.pointer (some ⟨Bm, 0, none⟩)]] w fun e w' =>
      ∃ v, e = .returned v ∧ w'.ownsRow w.heap.size 9 1 v xs.length (xs.map encStr) ∧ (v = .slice none 0 0 ↔ xs = []) ∧ Below w.heap.size w w' := by
  refine (callsIn_wide (n := 5)).1 ?_
  refine callsIn_of_wp_marks Tryz.func190 rfl trivial ?_ rfl
  simp only [Tryz.ntmps190, List.size_toArray, List.length_cons, List.length_nil, Nat.reduceAdd, Nat.reduceSub, Array.replicate_succ, Array.replicate_zero, List.push_toArray, List.append_toArray, List.nil_append, List.cons_append]
  gi_wp2
  refine wpIn_rangeFunc fun fn _ => ?_
  -- the box of the row, the deferred list, the record
  generalize hW0 : w.alloc (.cells #[.slice none 0 0] 33) = W0
  have s0 : W0.heap.size = w.heap.size + 1 := by rw [← hW0]; simp
  have box0 : W0.heap[w.heap.size]? = some (.cells #[.slice none 0 0] 33 (0, 0)) := by rw [← hW0]; exact World.alloc_heap_new w _
  have b0 : Below w.heap.size w W0 := by rw [← hW0]; exact (Below.refl _ w).alloc (Nat.le_refl _) _
  clear hW0
  generalize hsv : Value.func (.func 124) #[] #[.pointer (some ⟨Bm, 0, none⟩)] = sv
  generalize hW1 : (W0.alloc (.deferred (some []))).alloc (.loop (AnyZ.apRec Tryz.laysSorted_ren fn sv w.heap.size W0.heap.size .ready none)) = W1
  have s1 : W1.heap.size = W0.heap.size + 2 := by rw [← hW1]; simp
  have b1 : Below w.heap.size w W1 := by
    rw [← hW1]
    exact (b0.alloc (by omega) _).alloc (by simp; omega) _
  have old1 : ∀ k, k < W0.heap.size → W1.heap[k]? = W0.heap[k]? := by
    intro k hk
    rw [← hW1, Below.heap_alloc _ _ k (by simp; omega), Below.heap_alloc _ _ k hk]
  have at1 : AnyZ.ApAt Tryz.laysSorted_ren w fn sv w.heap.size (W0.heap.size + 1) W0.heap.size [] W1 := by
    refine ⟨⟨_, (old1 _ (by omega)).trans box0, ⟨rfl, .inl ⟨rfl, rfl⟩⟩, by simp⟩, ?_, ?_, b1⟩
    · rw [← hW1]
      have := World.alloc_heap_new (W0.alloc (.deferred (some []))) (.loop (AnyZ.apRec Tryz.laysSorted_ren fn sv w.heap.size W0.heap.size .ready none))
      rwa [World.size_alloc] at this
    · rw [← hW1, Below.heap_alloc _ _ _ (by simp)]
      exact World.alloc_heap_new W0 _
  have v1 := values_in 4 (by omega) (W0.heap.size + 1) Bm b off cap xs (by omega) w (AnyZ.ApAt Tryz.laysSorted_ren w fn sv w.heap.size (W0.heap.size + 1) W0.heap.size) (fun _ _ h => h.below)
    (fun pre x W h hl => by
      obtain ⟨g, tm, asg, bd, e1, e2⟩ := AnyZ.apYield (ρ := Tryz.laysSorted_ren) { Tryz.laysSorted with } Fence.wide (4 - 1) w fn trivial sv w.heap.size (W0.heap.size + 1) W0.heap.size (by omega) (by omega) (by omega) (Nat.le_refl _) (by omega) xs.length (by unfold maxLen; omega) (by omega) pre x W h hl
      exact ⟨g, tm, asg, bd, e1, e2.mono fun e W' q => ⟨q.1, q.2.1⟩⟩) hBm hb hm hx W1 at1
  refine ⟨W0.heap.size + 1, [{ target := .collected W0.heap.size, args := #[] }], W1, { target := .fn (.func 124) #[.pointer (some ⟨Bm, 0, none⟩)], args := #[.func (.yield (W0.heap.size + 1)) #[] #[]] }, W1, 124,
    #[.func (.yield (W0.heap.size + 1)) #[] #[], .pointer (some ⟨Bm, 0, none⟩)], W1, ?_, ?_, fun _ _ => trivial, ?_, fun _ => by omega, ?_⟩
  · rw [← hW1]; exact run_enterLoop_outer _ _ _ _ _
  · subst hsv; simp [resolve, go_sem]
  · simp [invoke, go_sem]
  · refine v1.mono ?_
    rintro e W2 ⟨⟨v0, rfl⟩, h2⟩
    obtain ⟨v, hv, hrow, hnil⟩ := h2.box
    have hend := run_endLoop (P := Tryz.prog) h2.L (by simp [AnyZ.apRec])
    generalize hW3 : W2.putObj (W0.heap.size + 1) (.loop { AnyZ.apRec Tryz.laysSorted_ren fn sv w.heap.size W0.heap.size .ready none with state := .exhausted }) = W3 at hend
    have g3 : W2.grownBy W3 (some (W0.heap.size + 1)) := by rw [← hW3]; exact grownBy_putObj_a _ _ _
    have box3 : W3.heap[w.heap.size]? = some (.cells #[v] 33 (0, 0)) := by rw [← hW3, World.putObj_heap_other (by omega)]; exact hv
    have list3 : W3.heap[W0.heap.size]? = some (.deferred (some [])) := by rw [← hW3, World.putObj_heap_other (by omega)]; exact h2.K
    have row3 := hrow.kept g3 (ownsRow_ne_a hrow h2.L (fun cur e => by cases e))
    have b3 : Below w.heap.size w W3 := h2.below.grown g3 h2.below.size (fun k e => by cases e; omega)
    clear hW3
    obtain ⟨cell3, free3⟩ := cell_of_box_a box3
    refine ⟨none, W3, hend, ?_⟩
    gi_wp2
    rw [s0] at list3
    refine ⟨by simp, .inl ⟨_, _, rfl, run_takeDeferred list3, ?_⟩⟩
    have g4 : W3.grownBy (W3.putObj (w.heap.size + 1) (.deferred none)) (some (w.heap.size + 1)) := grownBy_putObj_a _ _ _
    have row4 := row3.kept g4 (ownsRow_ne_a row3 list3 (fun cur e => by cases e))
    exact ⟨_, results_tmp rfl _ _ _, v, rfl, row4, hnil, b3.grown g4 b3.size (fun k e => by cases e; omega)⟩
end Go.Proofs.YtdanhginifohaaaGreatDoor
