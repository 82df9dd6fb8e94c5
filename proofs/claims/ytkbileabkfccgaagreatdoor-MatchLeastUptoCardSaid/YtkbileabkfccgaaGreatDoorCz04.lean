/- R3A, R3B, merged. -/
import Derived.Test.YtkbileabkfccgaaGreatDoorCz03

/- The reference's expr: deep, odd, long. -/
namespace Go.Proofs.YtkbileabkfccgaaGreatDoor
open Go.RowKit

theorem any_take {p : Ex → Bool} {l : List Ex} {n : Nat} (hn : n < l.length) (h : (l.take n).any p = false) (hp : p l[n] = false) : (l.take (n + 1)).any p = false := by
  rw [List.take_succ_eq_append_getElem hn, List.any_append, h]; simpa using hp
theorem any_hit {p : Ex → Bool} {l : List Ex} {n : Nat} (hn : n < l.length) (hp : p l[n] = true) : l.any p = true := List.any_eq_true.2 ⟨_, List.getElem_mem hn, hp⟩

set_option maxRecDepth 100000 in
set_option maxHeartbeats 800000 in
theorem rdeepS_any (m : Nat) (hm0 : m ≤ 100) (k : Int) (nm : ByteArray) (a b : Int) (l : List Ex) (s : Value) (B : Nat) (w : World) (hs : Kb w B s l) (hB : B ≤ w.heap.size)
    (ih : ∀ e ∈ l, ∀ (s : Value) (w : World), Kb w B s e.l → B ≤ w.heap.size → Calls Tryz.prog 33 #[exV e s, .int .i64 (m : Int)] w (RetB (deepN m e) w)) :
    Calls Tryz.prog 33 #[.agg #[.int .i64 k, .string nm, .int .i64 a, .int .i64 b, s], .int .i64 ((m : Int) + 1)] w (RetB (l.any (deepN m)) w) := by
  obtain ⟨c, HC⟩ : ∃ c, Hid (c = l.any (deepN m)) := ⟨_, rfl⟩
  rw [← HC.out]
  have B1 : Below w.heap.size w (w.alloc (.cells #[.int .i64 k, .string nm, .int .i64 a, .int .i64 b, s] 24)) := (Below.refl _ _).alloc (Nat.le_refl _) _
  obtain ⟨A, cap, rfl⟩ := hs.form
  have hm := hs.max
  unfold maxLen at hm
  have hs1 := hs.below (B1.mono hB)
  have HI := Lib.hid ih
  clear ih hs
  have hW : Hid ((w.alloc (.cells #[.int .i64 k, .string nm, .int .i64 a, .int .i64 b, .slice A l.length cap] 24)).heap.size = w.heap.size + 1) := by show _ = _; simp
  obtain ⟨W0, hW0⟩ : ∃ W0 : World, Hid (W0 = w.alloc (.cells #[.int .i64 k, .string nm, .int .i64 a, .int .i64 b, .slice A l.length cap] 24)) := ⟨_, rfl⟩
  have hmz : ((m : Int) + 1 == 0) = false := by simp; omega
  have hms : IntKind.i64.wrap ((m : Int) + 1 - 1) = (m : Int) := by rw [show (m : Int) + 1 - 1 = m by omega]; exact IntWalk.i64_in _ (by omega)
  go_enter Tryz.func33, Tryz.ntmps33
  go_wp2_with fail
  rw [← hW0.out] at hs1 B1 hW ⊢
  have hself : ∀ j u, (#[Value.int .i64 k, .string nm, .int .i64 a, .int .i64 b, .slice A l.length cap] : Array Value)[j]? = some u → W0.cell? ⟨w.heap.size, j, none⟩ = some u := by
    intro j u hu; rw [hW0.out, cell_of_row _ w.heap.size j _ _ _ (heap_alloc_new w _)]; exact hu
  have HS := Lib.hid hself
  clear hself
  go_loopw [5] (fun i wr => ∃ n : Nat, n ≤ l.length ∧ i = .int .i64 n ∧ Hid ((l.take n).any (deepN m) = false) ∧ Hid (Below W0.heap.size W0 wr)) (fun i _ => l.length - (intOf i).toNat)
  case atStart => exact ⟨0, Nat.zero_le _, rfl, rfl, Below.refl _ _⟩
  case round =>
    obtain ⟨n, hn, rfl, hno, hbw⟩ := hrel
    have hszW := hW.out
    have hsz := hbw.out.size
    have hcw : ∀ j u, (#[Value.int .i64 k, .string nm, .int .i64 a, .int .i64 b, .slice A l.length cap] : Array Value)[j]? = some u → wr.cell? ⟨w.heap.size, j, none⟩ = some u := fun j u hu => (hbw.out.cell (p := ⟨w.heap.size, j, none⟩) (by show w.heap.size < _; omega)).trans (HS.out j u hu)
    have g4 := hcw 4 _ rfl
    have hwlt : w.heap.size < wr.heap.size := by omega
    clear hcw
    by_cases hlt : n < l.length
    · obtain ⟨bb, off, s', rfl, hbB, hcap, hks, hc0, hc1, hc2, hc3, hc4⟩ := Kd.at (hs1.below (hbw.out.mono (by have := B1.size; omega))) hlt
      obtain ⟨A2, cap2, rfl⟩ := hks.form
      have hcall := Lib.hid (HI.out l[n] (List.getElem_mem hlt) _ wr hks (by omega))
      obtain ⟨d, HD⟩ : ∃ d, Hid (d = deepN m l[n]) := ⟨deepN m l[n], Lib.hid rfl⟩
      rw [← HD.out] at hcall
      unfold exV at hcall
      have hnI : (n : Int) < (l.length : Int) := by omega
      go_wp2_with fail
      refine (hcall.out).mono ?_
      rintro e w1 ⟨rfl, hb1⟩
      have hbf : Hid (Below W0.heap.size W0 w1) := hbw.out.trans (hb1.mono (by omega))
      clear hcall hb1 hbw
      cases d
      · have hno2 : Hid ((l.take (n + 1)).any (deepN m) = false) := any_take hlt hno.out HD.out.symm
        go_wp2_with fail
        go_roundw
        case rel => exact ⟨n + 1, by omega, by go_num, hno2, hbf⟩
        case measure => simp [intOf]; omega
      · go_wp2_with fail
        go_ret
        exact retB (by rw [HC.out, any_hit hlt HD.out.symm]) (B1.trans (hbf.out.mono B1.size))
    · obtain rfl : n = l.length := by omega
      have hfin : c = false := by rw [HC.out, ← hno.out, List.take_length]
      have hb := hbw.out
      clear hbw
      go_wp2_with fail
      go_ret
      exact retB hfin.symm (B1.trans (hb.mono B1.size))
set_option maxRecDepth 100000 in
theorem rdeep0_any (k : Int) (nm : ByteArray) (a b : Int) (s : Value) (w : World) :
    Calls Tryz.prog 33 #[.agg #[.int .i64 k, .string nm, .int .i64 a, .int .i64 b, s], .int .i64 0] w (RetB true w) := by
  go_enter Tryz.func33, Tryz.ntmps33
  go_wp2
  go_ret
  exact retB rfl ((Below.refl _ _).alloc (Nat.le_refl _) _)
/-- the reference's deep -/
theorem rdeep_any : ∀ (m : Nat), m ≤ 100 → ∀ (e : Ex) (s : Value) (B : Nat) (w : World), Kb w B s e.l → B ≤ w.heap.size →
    Calls Tryz.prog 33 #[exV e s, .int .i64 (m : Int)] w (RetB (deepN m e) w)
  | 0, _, .mk k nm a b l, s, B, w, _, _ => rdeep0_any k nm a b s w
  | m + 1, hm, .mk k nm a b l, s, B, w, hs, hB => rdeepS_any m (by omega) k nm a b l s B w hs hB fun e _ s' w' hk hB' => rdeep_any m (by omega) e s' B w' hk hB'

set_option maxRecDepth 100000 in
set_option maxHeartbeats 800000 in
theorem roddS_any (k : Int) (nm : ByteArray) (a b : Int) (l : List Ex) (s : Value) (B : Nat) (w : World) (hs : Kb w B s l) (hB : B ≤ w.heap.size)
    (ih : ∀ e ∈ l, ∀ (s : Value) (w : World), Kb w B s e.l → B ≤ w.heap.size → Calls Tryz.prog 34 #[exV e s] w (RetB (e.anyE wildB) w)) :
    Calls Tryz.prog 34 #[.agg #[.int .i64 k, .string nm, .int .i64 a, .int .i64 b, s]] w (RetB ((Ex.mk k nm a b l).anyE wildB) w) := by
  obtain ⟨c, HC⟩ : ∃ c, Hid (c = (Ex.mk k nm a b l).anyE wildB) := ⟨_, rfl⟩
  have HC2 : Hid (c = (wildB (.mk k nm a b l) || l.any (Ex.anyE wildB))) := by show _ = _; rw [HC.out, anyE_eq]; rfl
  rw [← HC.out]
  have B1 : Below w.heap.size w (w.alloc (.cells #[.int .i64 k, .string nm, .int .i64 a, .int .i64 b, s] 24)) := (Below.refl _ _).alloc (Nat.le_refl _) _
  have yes : (min a b < -1 ∨ 1048576 < max a b) → true = c := fun h => by
    rw [HC2.out]
    have : wildB (.mk k nm a b l) = true := by show (decide (min a b < -1) || decide (1048576 < max a b)) = true; simpa using h
    rw [this]; rfl
  clear HC
  by_cases h1 : a < -1
  · have r := Lib.hid (yes (by omega))
    clear yes ih hs HC2
    go_enter Tryz.func34, Tryz.ntmps34
    go_wp2_with fail
    go_ret
    exact retB r.out B1
  by_cases h2 : 1048576 < a
  · have r := Lib.hid (yes (by omega))
    clear yes ih hs HC2
    go_enter Tryz.func34, Tryz.ntmps34
    go_wp2_with fail
    go_ret
    exact retB r.out B1
  by_cases h3 : b < -1
  · have r := Lib.hid (yes (by omega))
    clear yes ih hs HC2
    go_enter Tryz.func34, Tryz.ntmps34
    go_wp2_with fail
    go_ret
    exact retB r.out B1
  by_cases h4 : 1048576 < b
  · have r := Lib.hid (yes (by omega))
    clear yes ih hs HC2
    go_enter Tryz.func34, Tryz.ntmps34
    go_wp2_with fail
    go_ret
    exact retB r.out B1
  have HC3 : Hid (c = l.any (Ex.anyE wildB)) := by
    show _ = _
    have : wildB (.mk k nm a b l) = false := by show (decide (min a b < -1) || decide (1048576 < max a b)) = false; simp; omega
    rw [HC2.out, this]; rfl
  clear HC2 yes
  obtain ⟨A, cap, rfl⟩ := hs.form
  have hm := hs.max
  unfold maxLen at hm
  have hs1 := hs.below (B1.mono hB)
  have HI := Lib.hid ih
  clear ih hs
  have hW : Hid ((w.alloc (.cells #[.int .i64 k, .string nm, .int .i64 a, .int .i64 b, .slice A l.length cap] 24)).heap.size = w.heap.size + 1) := by show _ = _; simp
  obtain ⟨W0, hW0⟩ : ∃ W0 : World, Hid (W0 = w.alloc (.cells #[.int .i64 k, .string nm, .int .i64 a, .int .i64 b, .slice A l.length cap] 24)) := ⟨_, rfl⟩
  go_enter Tryz.func34, Tryz.ntmps34
  go_wp2_with fail
  rw [← hW0.out] at hs1 B1 hW ⊢
  have hself : ∀ j u, (#[Value.int .i64 k, .string nm, .int .i64 a, .int .i64 b, .slice A l.length cap] : Array Value)[j]? = some u → W0.cell? ⟨w.heap.size, j, none⟩ = some u := by
    intro j u hu; rw [hW0.out, cell_of_row _ w.heap.size j _ _ _ (heap_alloc_new w _)]; exact hu
  have HS := Lib.hid hself
  clear hself
  go_loopw [3] (fun i wr => ∃ n : Nat, n ≤ l.length ∧ i = .int .i64 n ∧ Hid ((l.take n).any (Ex.anyE wildB) = false) ∧ Hid (Below W0.heap.size W0 wr)) (fun i _ => l.length - (intOf i).toNat)
  case atStart => exact ⟨0, Nat.zero_le _, rfl, rfl, Below.refl _ _⟩
  case round =>
    obtain ⟨n, hn, rfl, hno, hbw⟩ := hrel
    have hszW := hW.out
    have hsz := hbw.out.size
    have hcw : ∀ j u, (#[Value.int .i64 k, .string nm, .int .i64 a, .int .i64 b, .slice A l.length cap] : Array Value)[j]? = some u → wr.cell? ⟨w.heap.size, j, none⟩ = some u := fun j u hu => (hbw.out.cell (p := ⟨w.heap.size, j, none⟩) (by show w.heap.size < _; omega)).trans (HS.out j u hu)
    have g4 := hcw 4 _ rfl
    have hwlt : w.heap.size < wr.heap.size := by omega
    clear hcw
    by_cases hlt : n < l.length
    · obtain ⟨bb, off, s', rfl, hbB, hcap, hks, hc0, hc1, hc2, hc3, hc4⟩ := Kd.at (hs1.below (hbw.out.mono (by have := B1.size; omega))) hlt
      obtain ⟨A2, cap2, rfl⟩ := hks.form
      have hcall := Lib.hid (HI.out l[n] (List.getElem_mem hlt) _ wr hks (by omega))
      obtain ⟨d, HD⟩ : ∃ d, Hid (d = l[n].anyE wildB) := ⟨l[n].anyE wildB, Lib.hid rfl⟩
      rw [← HD.out] at hcall
      unfold exV at hcall
      have hnI : (n : Int) < (l.length : Int) := by omega
      go_wp2_with fail
      refine (hcall.out).mono ?_
      rintro e w1 ⟨rfl, hb1⟩
      have hbf : Hid (Below W0.heap.size W0 w1) := hbw.out.trans (hb1.mono (by omega))
      clear hcall hb1 hbw
      cases d
      · have hno2 : Hid ((l.take (n + 1)).any (Ex.anyE wildB) = false) := any_take hlt hno.out HD.out.symm
        go_wp2_with fail
        go_roundw
        case rel => exact ⟨n + 1, by omega, by go_num, hno2, hbf⟩
        case measure => simp [intOf]; omega
      · go_wp2_with fail
        go_ret
        exact retB (by rw [HC3.out, any_hit hlt HD.out.symm]) (B1.trans (hbf.out.mono B1.size))
    · obtain rfl : n = l.length := by omega
      have hfin : c = false := by rw [HC3.out, ← hno.out, List.take_length]
      have hb := hbw.out
      clear hbw
      go_wp2_with fail
      go_ret
      exact retB hfin.symm (B1.trans (hb.mono B1.size))
/-- the reference's odd -/
theorem rodd_any (e : Ex) : ∀ (s : Value) (B : Nat) (w : World), Kb w B s e.l → B ≤ w.heap.size → Calls Tryz.prog 34 #[exV e s] w (RetB (e.anyE wildB) w) := by
  induction e using Ex.ind with
  | h k nm a b l ih => exact fun s B w hs hB => roddS_any k nm a b l s B w hs hB fun e he s' w' hk hB' => ih e he s' B w' hk hB'
set_option maxRecDepth 100000 in
set_option maxHeartbeats 800000 in
theorem rlongS_any (k : Int) (nm : ByteArray) (a b : Int) (l : List Ex) (s : Value) (B : Nat) (w : World) (hs : Kb w B s l) (hB : B ≤ w.heap.size)
    (ih : ∀ e ∈ l, ∀ (s : Value) (w : World), Kb w B s e.l → B ≤ w.heap.size → Calls Tryz.prog 36 #[exV e s] w (RetB (e.anyE longE) w)) :
    Calls Tryz.prog 36 #[.agg #[.int .i64 k, .string nm, .int .i64 a, .int .i64 b, s]] w (RetB ((Ex.mk k nm a b l).anyE longE) w) := by
  obtain ⟨c, HC⟩ : ∃ c, Hid (c = (Ex.mk k nm a b l).anyE longE) := ⟨_, rfl⟩
  have HC2 : Hid (c = (longE (.mk k nm a b l) || l.any (Ex.anyE longE))) := by show _ = _; rw [HC.out, anyE_eq]; rfl
  rw [← HC.out]
  have B1 : Below w.heap.size w (w.alloc (.cells #[.int .i64 k, .string nm, .int .i64 a, .int .i64 b, s] 24)) := (Below.refl _ _).alloc (Nat.le_refl _) _
  have yes : (16 < nm.size ∨ 16 < a ∨ 16 < b) → true = c := fun h => by
    rw [HC2.out]
    have : longE (.mk k nm a b l) = true := by show (decide (16 < nm.size) || decide (16 < a) || decide (16 < b)) = true; simpa [or_assoc] using h
    rw [this]; rfl
  clear HC
  by_cases h1 : 16 < nm.size
  · have r := Lib.hid (yes (by omega))
    have h1I : (16 : Int) < (nm.size : Int) := by omega
    clear yes ih hs HC2
    go_enter Tryz.func36, Tryz.ntmps36
    go_wp2_with fail
    go_ret
    exact retB r.out B1
  by_cases h2 : 16 < a
  · have r := Lib.hid (yes (by omega))
    clear yes ih hs HC2
    go_enter Tryz.func36, Tryz.ntmps36
    go_wp2_with fail
    go_ret
    exact retB r.out B1
  by_cases h3 : 16 < b
  · have r := Lib.hid (yes (by omega))
    clear yes ih hs HC2
    go_enter Tryz.func36, Tryz.ntmps36
    go_wp2_with fail
    go_ret
    exact retB r.out B1
  have HC3 : Hid (c = l.any (Ex.anyE longE)) := by
    show _ = _
    have : longE (.mk k nm a b l) = false := by show (decide (16 < nm.size) || decide (16 < a) || decide (16 < b)) = false; simp; omega
    rw [HC2.out, this]; rfl
  clear HC2 yes
  obtain ⟨A, cap, rfl⟩ := hs.form
  have hm := hs.max
  unfold maxLen at hm
  have hs1 := hs.below (B1.mono hB)
  have HI := Lib.hid ih
  clear ih hs
  have hW : Hid ((w.alloc (.cells #[.int .i64 k, .string nm, .int .i64 a, .int .i64 b, .slice A l.length cap] 24)).heap.size = w.heap.size + 1) := by show _ = _; simp
  obtain ⟨W0, hW0⟩ : ∃ W0 : World, Hid (W0 = w.alloc (.cells #[.int .i64 k, .string nm, .int .i64 a, .int .i64 b, .slice A l.length cap] 24)) := ⟨_, rfl⟩
  go_enter Tryz.func36, Tryz.ntmps36
  go_wp2_with fail
  rw [← hW0.out] at hs1 B1 hW ⊢
  have hself : ∀ j u, (#[Value.int .i64 k, .string nm, .int .i64 a, .int .i64 b, .slice A l.length cap] : Array Value)[j]? = some u → W0.cell? ⟨w.heap.size, j, none⟩ = some u := by
    intro j u hu; rw [hW0.out, cell_of_row _ w.heap.size j _ _ _ (heap_alloc_new w _)]; exact hu
  have HS := Lib.hid hself
  clear hself
  go_loopw [3] (fun i wr => ∃ n : Nat, n ≤ l.length ∧ i = .int .i64 n ∧ Hid ((l.take n).any (Ex.anyE longE) = false) ∧ Hid (Below W0.heap.size W0 wr)) (fun i _ => l.length - (intOf i).toNat)
  case atStart => exact ⟨0, Nat.zero_le _, rfl, rfl, Below.refl _ _⟩
  case round =>
    obtain ⟨n, hn, rfl, hno, hbw⟩ := hrel
    have hszW := hW.out
    have hsz := hbw.out.size
    have hcw : ∀ j u, (#[Value.int .i64 k, .string nm, .int .i64 a, .int .i64 b, .slice A l.length cap] : Array Value)[j]? = some u → wr.cell? ⟨w.heap.size, j, none⟩ = some u := fun j u hu => (hbw.out.cell (p := ⟨w.heap.size, j, none⟩) (by show w.heap.size < _; omega)).trans (HS.out j u hu)
    have g4 := hcw 4 _ rfl
    have hwlt : w.heap.size < wr.heap.size := by omega
    clear hcw
    by_cases hlt : n < l.length
    · obtain ⟨bb, off, s', rfl, hbB, hcap, hks, hc0, hc1, hc2, hc3, hc4⟩ := Kd.at (hs1.below (hbw.out.mono (by have := B1.size; omega))) hlt
      obtain ⟨A2, cap2, rfl⟩ := hks.form
      have hcall := Lib.hid (HI.out l[n] (List.getElem_mem hlt) _ wr hks (by omega))
      obtain ⟨d, HD⟩ : ∃ d, Hid (d = l[n].anyE longE) := ⟨l[n].anyE longE, Lib.hid rfl⟩
      rw [← HD.out] at hcall
      unfold exV at hcall
      have hnI : (n : Int) < (l.length : Int) := by omega
      go_wp2_with fail
      refine (hcall.out).mono ?_
      rintro e w1 ⟨rfl, hb1⟩
      have hbf : Hid (Below W0.heap.size W0 w1) := hbw.out.trans (hb1.mono (by omega))
      clear hcall hb1 hbw
      cases d
      · have hno2 : Hid ((l.take (n + 1)).any (Ex.anyE longE) = false) := any_take hlt hno.out HD.out.symm
        go_wp2_with fail
        go_roundw
        case rel => exact ⟨n + 1, by omega, by go_num, hno2, hbf⟩
        case measure => simp [intOf]; omega
      · go_wp2_with fail
        go_ret
        exact retB (by rw [HC3.out, any_hit hlt HD.out.symm]) (B1.trans (hbf.out.mono B1.size))
    · obtain rfl : n = l.length := by omega
      have hfin : c = false := by rw [HC3.out, ← hno.out, List.take_length]
      have hb := hbw.out
      clear hbw
      go_wp2_with fail
      go_ret
      exact retB hfin.symm (B1.trans (hb.mono B1.size))
/-- the reference's long -/
theorem rlong_any (e : Ex) : ∀ (s : Value) (B : Nat) (w : World), Kb w B s e.l → B ≤ w.heap.size → Calls Tryz.prog 36 #[exV e s] w (RetB (e.anyE longE) w) := by
  induction e using Ex.ind with
  | h k nm a b l ih => exact fun s B w hs hB => rlongS_any k nm a b l s B w hs hB fun e he s' w' hk hB' => ih e he s' B w' hk hB'
end Go.Proofs.YtkbileabkfccgaaGreatDoor

/- The reference's expr: Size. -/
namespace Go.Proofs.YtkbileabkfccgaaGreatDoor
open Go.RowKit

set_option maxRecDepth 100000 in
set_option maxHeartbeats 800000 in
theorem rsizeS_any (k : Int) (nm : ByteArray) (a b : Int) (l : List Ex) (s : Value) (B : Nat) (w : World) (hs : Kb w B s l) (hB : B ≤ w.heap.size) (ht : tameE (.mk k nm a b l))
    (ih : ∀ e ∈ l, ∀ (s : Value) (w : World), Kb w B s e.l → B ≤ w.heap.size → Calls Tryz.prog 35 #[exV e s] w fun x w' => x = .returned (.int .i64 e.sizeE) ∧ Below w.heap.size w w') :
    Calls Tryz.prog 35 #[.agg #[.int .i64 k, .string nm, .int .i64 a, .int .i64 b, s]] w fun x w' => x = .returned (.int .i64 (Ex.mk k nm a b l).sizeE) ∧ Below w.heap.size w w' := by
  obtain ⟨c, HC⟩ : ∃ c, Hid (c = (Ex.mk k nm a b l).sizeE) := ⟨_, rfl⟩
  rw [← HC.out]
  have B1 : Below w.heap.size w (w.alloc (.cells #[.int .i64 k, .string nm, .int .i64 a, .int .i64 b, s] 24)) := (Below.refl _ _).alloc (Nat.le_refl _) _
  by_cases h1 : k = 1
  · subst h1
    clear ih
    have hk1 : ((1 : Int) == 1) = true := rfl
    go_enter Tryz.func35, Tryz.ntmps35
    go_wp2_with fail
    go_ret
    exact ret_i (by rw [HC.out, Ex.sizeE, if_pos rfl]) B1
  have hk1 : (k == 1) = false := by simpa using h1
  obtain ⟨A, cap, rfl⟩ := hs.form
  have hm := hs.max
  unfold maxLen at hm
  have hkid := fun e he => size_bd e (tame_kid ht e he)
  have hs1 := hs.below (B1.mono hB)
  obtain ⟨ha, hb, ha2, hb2⟩ := tame_self ht
  have hLL := sizeL_bd l (fun e he => (hkid e he).1) 0 (by omega) (by unfold exMost; omega)
  have HL := Lib.hid hLL
  have HK := Lib.hid hkid
  have HI := Lib.hid ih
  clear ih hkid hLL hs h1
  have hW : Hid ((w.alloc (.cells #[.int .i64 k, .string nm, .int .i64 a, .int .i64 b, .slice A l.length cap] 24)).heap.size = w.heap.size + 1) := by show _ = _; simp
  obtain ⟨W0, hW0⟩ : ∃ W0 : World, Hid (W0 = w.alloc (.cells #[.int .i64 k, .string nm, .int .i64 a, .int .i64 b, .slice A l.length cap] 24)) := ⟨_, rfl⟩
  go_enter Tryz.func35, Tryz.ntmps35
  go_wp2_with fail
  rw [← hW0.out] at hs1 B1 hW ⊢
  have hself : ∀ j u, (#[Value.int .i64 k, .string nm, .int .i64 a, .int .i64 b, .slice A l.length cap] : Array Value)[j]? = some u → W0.cell? ⟨w.heap.size, j, none⟩ = some u := by
    intro j u hu; rw [hW0.out, cell_of_row _ w.heap.size j _ _ _ (heap_alloc_new w _)]; exact hu
  have HS := Lib.hid hself
  clear hself
  go_loopw [3, 4] (fun t i wr => ∃ n : Nat, n ≤ l.length ∧ i = .int .i64 n ∧ t = .int .i64 (Ex.sizeL 0 (l.take n)) ∧ Hid (Below W0.heap.size W0 wr)) (fun _ i _ => l.length - (intOf i).toNat)
  case atStart => exact ⟨0, Nat.zero_le _, rfl, by rw [List.take_zero, Ex.sizeL], Below.refl _ _⟩
  case round =>
    obtain ⟨n, hn, rfl, rfl, hbw⟩ := hrel
    have hszW := hW.out
    have hszw := hbw.out.size
    have hwlt : w.heap.size < wr.heap.size := by omega
    have g4 : wr.cell? ⟨w.heap.size, 4, none⟩ = some (.slice A l.length cap) := (hbw.out.cell (p := ⟨w.heap.size, 4, none⟩) (by show w.heap.size < _; omega)).trans (HS.out 4 _ rfl)
    by_cases hlt : n < l.length
    · obtain ⟨bb, off, s', rfl, hbB, hcap, hks, hc0, hc1, hc2, hc3, hc4⟩ := Kd.at (hs1.below (hbw.out.mono (by have := B1.size; omega))) hlt
      have hsum := sizeL_bd (l.take n) (fun e he => (HK.out e (List.mem_of_mem_take he)).1) 0 (by omega) (by unfold exMost; omega)
      have hone := HK.out l[n] (List.getElem_mem hlt)
      unfold exMost at hsum hone
      have hadd : Hid (Ex.sizeL 0 (l.take (n + 1)) = min (Ex.sizeL 0 (l.take n) + l[n].sizeE) 1073741824) := sizeL_take l n hlt
      obtain ⟨A2, cap2, rfl⟩ := hks.form
      have hcall := Lib.hid (HI.out l[n] (List.getElem_mem hlt) _ wr hks (by omega))
      have hnI : (n : Int) < (l.length : Int) := by omega
      unfold exV at hcall
      generalize Ex.sizeL 0 (List.take n l) = sn at *
      generalize Ex.sizeE l[n] = en at *
      obtain ⟨hsum1, hsum2⟩ := hsum
      obtain ⟨hone1, hone2⟩ := hone
      go_wp2_with fail
      refine (hcall.out).mono ?_
      rintro e w1 ⟨rfl, hb1⟩
      have hbf : Hid (Below W0.heap.size W0 w1) := hbw.out.trans (hb1.mono (by omega))
      clear hcall hb1 hbw
      go_wp2_with fail
      all_goals
        go_roundw
        case rel => exact ⟨n + 1, by omega, by go_num, by rw [hadd.out]; go_num, hbf⟩
        case measure => simp [intOf]; omega
    · obtain rfl : n = l.length := by omega
      have hcw : ∀ j u, (#[Value.int .i64 k, .string nm, .int .i64 a, .int .i64 b, .slice A l.length cap] : Array Value)[j]? = some u → wr.cell? ⟨w.heap.size, j, none⟩ = some u := fun j u hu => (hbw.out.cell (p := ⟨w.heap.size, j, none⟩) (by show w.heap.size < _; omega)).trans (HS.out j u hu)
      have g0 := hcw 0 _ rfl
      have g2 := hcw 2 _ rfl
      have g3 := hcw 3 _ rfl
      have hfin : Hid (Ex.sizeL 0 (l.take l.length) = Ex.sizeL 0 l) := by show _ = _; rw [List.take_length]
      have B2 := B1.trans (hbw.out.mono B1.size)
      rw [hfin.out]
      clear hcw hbw HI HK hfin hlt hs1
      have hL := HL.out
      have hE : Hid (c = if k ≠ 4 then Ex.sizeL 0 l else if b = -1 then min (Ex.sizeL 0 l * (a + 1)) 1073741824 else min (Ex.sizeL 0 l * b) 1073741824) := by
        show _ = _; rw [HC.out, Ex.sizeE, if_neg (by simpa using hk1)]; rfl
      unfold exMost at hL
      generalize Ex.sizeL 0 l = sl at *
      obtain ⟨hL1, hL2⟩ := hL
      by_cases h4 : k = 4
      · have hk4 : (k == 4) = true := by simpa using h4
        have hE2 : Hid (c = if b = -1 then min (sl * (a + 1)) 1073741824 else min (sl * b) 1073741824) := by show _ = _; rw [hE.out, if_neg (by simpa using h4)]
        clear hE h4
        by_cases hb1 : b = -1
        · have hkb : (b == -1) = true := by simpa using hb1
          have hE3 : Hid (c = min (sl * (a + 1)) 1073741824) := by show _ = _; rw [hE2.out, if_pos hb1]
          obtain ⟨mb0, mb1⟩ := mul_bd hL1 hL2 (show 0 ≤ a + 1 by omega) (by omega)
          have hw1 : IntKind.i64.wrap (sl * (a + 1)) = sl * (a + 1) := IntWalk.i64_in _ (by omega)
          clear hE2 hb1
          go_wp2_with fail
          all_goals
            go_ret
            exact ret_i (by rw [hE3.out]; omega) B2
        · have hkb : (b == -1) = false := by simpa using hb1
          have hE3 : Hid (c = min (sl * b) 1073741824) := by show _ = _; rw [hE2.out, if_neg hb1]
          obtain ⟨mb0, mb1⟩ := mul_bd hL1 hL2 (show 0 ≤ b by omega) (by omega)
          have hw1 : IntKind.i64.wrap (sl * b) = sl * b := IntWalk.i64_in _ (by omega)
          clear hE2 hb1
          go_wp2_with fail
          all_goals
            go_ret
            exact ret_i (by rw [hE3.out]; omega) B2
      · have hk4 : (k == 4) = false := by simpa using h4
        have hE2 : Hid (c = sl) := by show _ = _; rw [hE.out, if_pos h4]
        clear hE h4
        go_wp2_with fail
        go_ret
        exact ret_i hE2.out.symm B2

/-- the reference's size -/
theorem rsize_any (e : Ex) : ∀ (s : Value) (B : Nat) (w : World), Kb w B s e.l → B ≤ w.heap.size → tameE e →
    Calls Tryz.prog 35 #[exV e s] w fun x w' => x = .returned (.int .i64 e.sizeE) ∧ Below w.heap.size w w' := by
  induction e using Ex.ind with
  | h k nm a b l ih =>
    intro s B w hs hB ht
    exact rsizeS_any k nm a b l s B w hs hB ht fun e he s' w' hk hB' => ih e he s' B w' hk hB' (tame_kid ht e he)

set_option maxRecDepth 100000 in
/-- the reference's Size -/
theorem RSize_any (e : Ex) (s : Value) (B : Nat) (w : World) (hs : Kb w B s e.l) (hB : B ≤ w.heap.size) :
    Calls Tryz.prog 7 #[exV e s] w fun x w' => x = .returned (.int .i64 (sizeN e)) ∧ Below w.heap.size w w' := by
  obtain ⟨c, HC⟩ : ∃ c, Hid (c = sizeN e) := ⟨_, rfl⟩
  rw [← HC.out]
  obtain ⟨A, cap, rfl⟩ := hs.form
  obtain ⟨w0, rfl⟩ : ∃ w0 : World, w0 = w := ⟨_, rfl⟩
  have B1 := box_below w0 (.cells #[.int .i64 e.k, .string e.n, .int .i64 e.a, .int .i64 e.b, .slice A e.l.length cap] 24)
  have hs1 := hs.below (B1.mono hB)
  have hd := Lib.hid (rdeep_any 64 (by omega) e _ B _ hs1 (Nat.le_trans hB B1.size))
  have hw := fun w1 (hb : Below (w0.heap.size + 1) (w0.alloc (.cells #[.int .i64 e.k, .string e.n, .int .i64 e.a, .int .i64 e.b, .slice A e.l.length cap] 24)) w1) =>
    rodd_any e _ B w1 (hs1.below (hb.mono (by omega))) (by have := hb.size; simp at this; omega)
  have hz := fun w1 (hb : Below (w0.heap.size + 1) (w0.alloc (.cells #[.int .i64 e.k, .string e.n, .int .i64 e.a, .int .i64 e.b, .slice A e.l.length cap] 24)) w1) ht =>
    rsize_any e _ B w1 (hs1.below (hb.mono (by omega))) (by have := hb.size; simp at this; omega) ht
  have HW := Lib.hid hw
  have HZ := Lib.hid hz
  clear hw hz hs1 hs
  obtain ⟨d, HD⟩ : ∃ d, Hid (d = deepN 64 e) := ⟨_, rfl⟩
  rw [← HD.out] at hd
  revert hd
  unfold exV
  intro hd
  cases d
  · go_enter Tryz.func7, Tryz.ntmps7
    go_wp2_with fail
    refine (hd.out).mono ?_
    rintro x w1 ⟨rfl, hb1⟩
    clear hd
    have hb1' : Below (w0.heap.size + 1) (w0.alloc (.cells #[.int .i64 e.k, .string e.n, .int .i64 e.a, .int .i64 e.b, .slice A e.l.length cap] 24)) w1 := by simpa using hb1
    obtain ⟨hc, hf⟩ := bcell hb1
    have hq := Lib.hid (HW.out w1 hb1')
    unfold exV at hq
    obtain ⟨g, HG⟩ : ∃ g, Hid (g = e.anyE wildB) := ⟨_, rfl⟩
    rw [← HG.out] at hq
    have hz1 : w0.heap.size + 1 ≤ w1.heap.size := by have := hb1'.size; simpa using this
    have HB1 := Lib.hid hb1'
    clear hb1 hb1' HW
    go_wp2_with fail
    refine (hq.out).mono ?_
    rintro x w2 ⟨rfl, hb2⟩
    clear hq
    have HB2 := Lib.hid (HB1.out.trans (hb2.mono hz1))
    have hz2 := hb2.size
    clear hc hf hb2
    obtain ⟨hc, hf⟩ := bcell HB2.out
    cases g
    · have hq := Lib.hid (HZ.out w2 HB2.out HG.out.symm)
      unfold exV at hq
      have hlt : w0.heap.size < w0.heap.size + 1 := by omega
      go_wp2_with fail
      refine (hq.out).mono ?_
      rintro x w3 ⟨rfl, hb3⟩
      clear hq hc hf
      go_wp2_with fail
      go_ret
      exact ret_i (by rw [HC.out]; unfold sizeN; rw [← HD.out, ← HG.out]; rfl) (B1.trans ((HB2.out.mono (by omega)).trans (hb3.mono (by omega))))
    · go_wp2_with fail
      go_ret
      exact ret_i (by rw [HC.out]; unfold sizeN; rw [← HD.out, ← HG.out]; rfl) (B1.trans (HB2.out.mono (by omega)))
  · clear HW HZ
    go_enter Tryz.func7, Tryz.ntmps7
    go_wp2_with fail
    refine (hd.out).mono ?_
    rintro x w1 ⟨rfl, hb1⟩
    clear hd
    go_wp2_with fail
    go_ret
    exact ret_i (by rw [HC.out]; unfold sizeN; rw [← HD.out]; rfl) (B1.trans (hb1.mono (by simp)))
end Go.Proofs.YtkbileabkfccgaaGreatDoor
