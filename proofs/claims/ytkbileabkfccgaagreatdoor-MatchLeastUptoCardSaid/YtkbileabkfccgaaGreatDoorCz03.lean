/- expr: wrong, Check. -/
import Derived.Test.YtkbileabkfccgaaGreatDoorCz02

namespace Go.Proofs.YtkbileabkfccgaaGreatDoor
open Go.RowKit

def emptyB (s : ByteArray) : Bool := decide (s.size = 0)
def wrongB (e : Ex) : Bool :=
  if e.k = 1 then !nameB e.n || (!bareB e || decide (0 < e.l.length))
  else if e.k = 2 then !emptyB e.n || (!bareB e || (decide (e.l.length = 1) || e.l.any (isB 2)))
  else if e.k = 3 then !emptyB e.n || (!bareB e || (decide (e.l.length < 2) || e.l.any noChB))
  else if e.k = 4 then !emptyB e.n || (!timesB e.a e.b || (!decide (e.l.length = 1) || e.l.any nilB))
  else true
theorem emptyB_no {s : ByteArray} (h : emptyB s = false) : ¬ s.toList = [] := fun e => by
  rw [(empty_iff s).1 e |> fun h => (show emptyB s = true by unfold emptyB; simp [h])] at h; cases h
theorem emptyB_yes {s : ByteArray} (h : emptyB s = true) : s.toList = [] := (empty_iff s).2 (by simpa [emptyB] using h)
theorem isEmpty_no {s : ByteArray} (h : ¬ s.toList = []) : s.toList.isEmpty = false := by rw [List.isEmpty_eq_false_iff]; exact h
theorem isEmpty_yes {s : ByteArray} (h : s.toList = []) : s.toList.isEmpty = true := by rw [h]; rfl
theorem len_any {p : Ex → Bool} {l : List Ex} (h : l.length = 1) : ∃ x, l = [x] ∧ l.any p = p x := by
  match l, h with
  | [x], _ => exact ⟨x, rfl, by simp⟩

section
variable (nm : ByteArray) (a b : Int) (l : List Ex) (A : Option Addr) (cap : Nat) (w : World)

set_option maxRecDepth 100000 in
theorem wrong1a (hn : nameB nm = false) :
    Calls Tryz.prog 55 #[.agg #[.int .i64 1, .string nm, .int .i64 a, .int .i64 b, .slice A l.length cap]] w (RetB true w) := by
  have B1 := box_below w (.cells #[.int .i64 1, .string nm, .int .i64 a, .int .i64 b, .slice A l.length cap] 24)
  have h1 := Lib.hid (name_any nm (w.alloc (.cells #[.int .i64 1, .string nm, .int .i64 a, .int .i64 b, .slice A l.length cap] 24)))
  rw [hn] at h1
  go_enter Tryz.func55, Tryz.ntmps55
  go_wp2_with fail
  refine (h1.out).mono ?_
  rintro x w1 ⟨rfl, hb1⟩
  have B2 := B1.trans (hb1.mono (by simp))
  clear h1 hb1 B1
  go_wp2
  go_ret
  exact retB rfl B2

set_option maxRecDepth 100000 in
theorem wrong1b (hn : nameB nm = true) (hb : bareB (.mk 1 nm a b l) = false) :
    Calls Tryz.prog 55 #[.agg #[.int .i64 1, .string nm, .int .i64 a, .int .i64 b, .slice A l.length cap]] w (RetB true w) := by
  have B1 := box_below w (.cells #[.int .i64 1, .string nm, .int .i64 a, .int .i64 b, .slice A l.length cap] 24)
  have h1 := Lib.hid (name_any nm (w.alloc (.cells #[.int .i64 1, .string nm, .int .i64 a, .int .i64 b, .slice A l.length cap] 24)))
  rw [hn] at h1
  have h2 := Lib.hid fun w => bare_any 1 nm a b l (.slice A l.length cap) w
  rw [hb] at h2
  clear hn hb
  go_enter Tryz.func55, Tryz.ntmps55
  go_wp2_with fail
  refine (h1.out).mono ?_
  rintro x w1 ⟨rfl, hb1⟩
  have B2 := B1.trans (hb1.mono (by simp))
  obtain ⟨hc, hf⟩ := bcell hb1
  have hz : w.heap.size + 1 ≤ w1.heap.size := by have := hb1.size; simpa using this
  clear h1 hb1 B1
  go_wp2_with fail
  refine (h2.out w1).mono ?_
  rintro x w2 ⟨rfl, hb2⟩
  have B3 := B2.trans (hb2.mono B2.size)
  clear h2 hb2 B2 hc hf
  go_wp2
  go_ret
  exact retB rfl B3

set_option maxRecDepth 100000 in
theorem wrong1c (hn : nameB nm = true) (hb : bareB (.mk 1 nm a b l) = true) :
    Calls Tryz.prog 55 #[.agg #[.int .i64 1, .string nm, .int .i64 a, .int .i64 b, .slice A l.length cap]] w (RetB (decide (0 < l.length)) w) := by
  have B1 := box_below w (.cells #[.int .i64 1, .string nm, .int .i64 a, .int .i64 b, .slice A l.length cap] 24)
  have h1 := Lib.hid (name_any nm (w.alloc (.cells #[.int .i64 1, .string nm, .int .i64 a, .int .i64 b, .slice A l.length cap] 24)))
  rw [hn] at h1
  have h2 := Lib.hid fun w => bare_any 1 nm a b l (.slice A l.length cap) w
  rw [hb] at h2
  clear hn hb
  go_enter Tryz.func55, Tryz.ntmps55
  go_wp2_with fail
  refine (h1.out).mono ?_
  rintro x w1 ⟨rfl, hb1⟩
  have B2 := B1.trans (hb1.mono (by simp))
  obtain ⟨hc, hf⟩ := bcell hb1
  have hz : w.heap.size + 1 ≤ w1.heap.size := by have := hb1.size; simpa using this
  clear h1 hb1 B1
  go_wp2_with fail
  refine (h2.out w1).mono ?_
  rintro x w2 ⟨rfl, hb2⟩
  have B3 := B2.trans (hb2.mono B2.size)
  have hc2 : ∀ o, w2.cell? ⟨w.heap.size, o, none⟩ = w1.cell? ⟨w.heap.size, o, none⟩ := fun o => hb2.cell (p := ⟨w.heap.size, o, none⟩) (by show w.heap.size < _; omega)
  have hc3 : w1.cell? ⟨w.heap.size, 4, none⟩ = some (.slice A l.length cap) := by rw [hc _ _ (by simp)]; go_simp
  have hc4 := (hc2 4).trans hc3
  clear h2 hb2 B2 hc hf hc2 hc3
  go_wp2
  go_ret
  exact retB (by rw [Bool.eq_iff_iff]) B3

set_option maxRecDepth 100000 in
theorem wrong2a (hn : emptyB nm = false) :
    Calls Tryz.prog 55 #[.agg #[.int .i64 2, .string nm, .int .i64 a, .int .i64 b, .slice A l.length cap]] w (RetB true w) := by
  have B1 := box_below w (.cells #[.int .i64 2, .string nm, .int .i64 a, .int .i64 b, .slice A l.length cap] 24)
  have e1 := emptyB_no hn
  have e2 := isEmpty_no e1
  clear hn
  go_enter Tryz.func55, Tryz.ntmps55
  go_wp2_with fail
  go_ret
  exact retB rfl B1

set_option maxRecDepth 100000 in
theorem wrong2b (hn : emptyB nm = true) (hb : bareB (.mk 2 nm a b l) = false) :
    Calls Tryz.prog 55 #[.agg #[.int .i64 2, .string nm, .int .i64 a, .int .i64 b, .slice A l.length cap]] w (RetB true w) := by
  have B1 := box_below w (.cells #[.int .i64 2, .string nm, .int .i64 a, .int .i64 b, .slice A l.length cap] 24)
  have e1 := emptyB_yes hn
  have e2 := isEmpty_yes e1
  have h2 := Lib.hid (bare_any 2 nm a b l (.slice A l.length cap) (w.alloc (.cells #[.int .i64 2, .string nm, .int .i64 a, .int .i64 b, .slice A l.length cap] 24)))
  rw [hb] at h2
  clear hn hb
  go_enter Tryz.func55, Tryz.ntmps55
  go_wp2_with fail
  refine (h2.out).mono ?_
  rintro x w1 ⟨rfl, hb1⟩
  have B2 := B1.trans (hb1.mono (by simp))
  clear h2 hb1 B1
  go_wp2_with fail
  go_ret
  exact retB rfl B2

set_option maxRecDepth 100000 in
theorem wrong2c (hn : emptyB nm = true) (hb : bareB (.mk 2 nm a b l) = true) :
    Calls Tryz.prog 55 #[.agg #[.int .i64 2, .string nm, .int .i64 a, .int .i64 b, .slice A 1 cap]] w (RetB true w) := by
  have B1 := box_below w (.cells #[.int .i64 2, .string nm, .int .i64 a, .int .i64 b, .slice A 1 cap] 24)
  have e1 := emptyB_yes hn
  have e2 := isEmpty_yes e1
  have h2 := Lib.hid (bare_any 2 nm a b l (.slice A 1 cap) (w.alloc (.cells #[.int .i64 2, .string nm, .int .i64 a, .int .i64 b, .slice A 1 cap] 24)))
  rw [hb] at h2
  clear hn hb
  go_enter Tryz.func55, Tryz.ntmps55
  go_wp2_with fail
  refine (h2.out).mono ?_
  rintro x w1 ⟨rfl, hb1⟩
  have B2 := B1.trans (hb1.mono (by simp))
  have hc4 : w1.cell? ⟨w.heap.size, 4, none⟩ = some (.slice A 1 cap) := by rw [hb1.cell (p := ⟨w.heap.size, 4, none⟩) (by simp)]; go_simp
  clear h2 hb1 B1
  go_wp2_with fail
  go_ret
  exact retB rfl B2

set_option maxRecDepth 100000 in
theorem wrong2d (B : Nat) (hs : Kb w B (.slice A l.length cap) l) (hB : B ≤ w.heap.size) (hn : emptyB nm = true) (hb : bareB (.mk 2 nm a b l) = true) (hl : ¬ l.length = 1) :
    Calls Tryz.prog 55 #[.agg #[.int .i64 2, .string nm, .int .i64 a, .int .i64 b, .slice A l.length cap]] w (RetB (l.any (isB 2)) w) := by
  obtain ⟨d, HD⟩ : ∃ d, Hid (d = l.any (isB 2)) := ⟨_, rfl⟩
  rw [← HD.out]
  have B1 := box_below w (.cells #[.int .i64 2, .string nm, .int .i64 a, .int .i64 b, .slice A l.length cap] 24)
  have e1 := emptyB_yes hn
  have e2 := isEmpty_yes e1
  have h2 := Lib.hid (bare_any 2 nm a b l (.slice A l.length cap) (w.alloc (.cells #[.int .i64 2, .string nm, .int .i64 a, .int .i64 b, .slice A l.length cap] 24)))
  rw [hb] at h2
  clear hn hb
  go_enter Tryz.func55, Tryz.ntmps55
  go_wp2_with fail
  refine (h2.out).mono ?_
  rintro x w1 ⟨rfl, hb1⟩
  have B2 := B1.trans (hb1.mono (by simp))
  have hc4 : w1.cell? ⟨w.heap.size, 4, none⟩ = some (.slice A l.length cap) := by rw [hb1.cell (p := ⟨w.heap.size, 4, none⟩) (by simp)]; go_simp
  have hl' : (((l.length : Nat) : Int) == 1) = false := by simp; omega
  clear hl
  have hq := Lib.hid (contF_any (isB 2) 97 #[] _ l B w1 (hs.below (B2.mono hB)) (Nat.le_trans hB B2.size) ⟨entRow, fun x _ s w _ _ => by rw [one_arg]; cases x; exact row_any _ _ _ _ _ _ _⟩)
  rw [← HD.out] at hq
  clear h2 hb1 B1 hs
  go_wp2_with fail
  refine (hq.out).mono ?_
  rintro x w2 ⟨rfl, hb2⟩
  have B3 := B2.trans (hb2.mono B2.size)
  clear hq hb2 B2
  go_wp2_with fail
  go_ret
  exact retB (rfl) B3

set_option maxRecDepth 100000 in
theorem wrong3a (hn : emptyB nm = false) :
    Calls Tryz.prog 55 #[.agg #[.int .i64 3, .string nm, .int .i64 a, .int .i64 b, .slice A l.length cap]] w (RetB true w) := by
  have B1 := box_below w (.cells #[.int .i64 3, .string nm, .int .i64 a, .int .i64 b, .slice A l.length cap] 24)
  have e1 := emptyB_no hn
  have e2 := isEmpty_no e1
  clear hn
  go_enter Tryz.func55, Tryz.ntmps55
  go_wp2_with fail
  go_ret
  exact retB rfl B1

set_option maxRecDepth 100000 in
theorem wrong3b (hn : emptyB nm = true) (hb : bareB (.mk 3 nm a b l) = false) :
    Calls Tryz.prog 55 #[.agg #[.int .i64 3, .string nm, .int .i64 a, .int .i64 b, .slice A l.length cap]] w (RetB true w) := by
  have B1 := box_below w (.cells #[.int .i64 3, .string nm, .int .i64 a, .int .i64 b, .slice A l.length cap] 24)
  have e1 := emptyB_yes hn
  have e2 := isEmpty_yes e1
  have h2 := Lib.hid (bare_any 3 nm a b l (.slice A l.length cap) (w.alloc (.cells #[.int .i64 3, .string nm, .int .i64 a, .int .i64 b, .slice A l.length cap] 24)))
  rw [hb] at h2
  clear hn hb
  go_enter Tryz.func55, Tryz.ntmps55
  go_wp2_with fail
  refine (h2.out).mono ?_
  rintro x w1 ⟨rfl, hb1⟩
  have B2 := B1.trans (hb1.mono (by simp))
  clear h2 hb1 B1
  go_wp2_with fail
  go_ret
  exact retB rfl B2

set_option maxRecDepth 100000 in
theorem wrong3c (hn : emptyB nm = true) (hb : bareB (.mk 3 nm a b l) = true) (hl : l.length < 2) :
    Calls Tryz.prog 55 #[.agg #[.int .i64 3, .string nm, .int .i64 a, .int .i64 b, .slice A l.length cap]] w (RetB true w) := by
  have B1 := box_below w (.cells #[.int .i64 3, .string nm, .int .i64 a, .int .i64 b, .slice A l.length cap] 24)
  have e1 := emptyB_yes hn
  have e2 := isEmpty_yes e1
  have h2 := Lib.hid (bare_any 3 nm a b l (.slice A l.length cap) (w.alloc (.cells #[.int .i64 3, .string nm, .int .i64 a, .int .i64 b, .slice A l.length cap] 24)))
  rw [hb] at h2
  clear hn hb
  go_enter Tryz.func55, Tryz.ntmps55
  go_wp2_with fail
  refine (h2.out).mono ?_
  rintro x w1 ⟨rfl, hb1⟩
  have B2 := B1.trans (hb1.mono (by simp))
  have hc4 : w1.cell? ⟨w.heap.size, 4, none⟩ = some (.slice A l.length cap) := by rw [hb1.cell (p := ⟨w.heap.size, 4, none⟩) (by simp)]; go_simp
  have hl' : ((l.length : Nat) : Int) < 2 := by omega
  clear h2 hb1 B1
  go_wp2_with fail
  go_ret
  exact retB rfl B2

set_option maxRecDepth 100000 in
theorem wrong3d (B : Nat) (hs : Kb w B (.slice A l.length cap) l) (hB : B ≤ w.heap.size) (hn : emptyB nm = true) (hb : bareB (.mk 3 nm a b l) = true) (hl : ¬ l.length < 2) :
    Calls Tryz.prog 55 #[.agg #[.int .i64 3, .string nm, .int .i64 a, .int .i64 b, .slice A l.length cap]] w (RetB (l.any (noChB)) w) := by
  obtain ⟨d, HD⟩ : ∃ d, Hid (d = l.any (noChB)) := ⟨_, rfl⟩
  rw [← HD.out]
  have B1 := box_below w (.cells #[.int .i64 3, .string nm, .int .i64 a, .int .i64 b, .slice A l.length cap] 24)
  have e1 := emptyB_yes hn
  have e2 := isEmpty_yes e1
  have h2 := Lib.hid (bare_any 3 nm a b l (.slice A l.length cap) (w.alloc (.cells #[.int .i64 3, .string nm, .int .i64 a, .int .i64 b, .slice A l.length cap] 24)))
  rw [hb] at h2
  clear hn hb
  go_enter Tryz.func55, Tryz.ntmps55
  go_wp2_with fail
  refine (h2.out).mono ?_
  rintro x w1 ⟨rfl, hb1⟩
  have B2 := B1.trans (hb1.mono (by simp))
  have hc4 : w1.cell? ⟨w.heap.size, 4, none⟩ = some (.slice A l.length cap) := by rw [hb1.cell (p := ⟨w.heap.size, 4, none⟩) (by simp)]; go_simp
  have hl' : ¬ ((l.length : Nat) : Int) < 2 := by omega
  have hq := Lib.hid (contF_any (noChB) 98 #[] _ l B w1 (hs.below (B2.mono hB)) (Nat.le_trans hB B2.size) ⟨entNoCh, fun x _ s w _ hk => by rw [one_arg]; obtain ⟨A2, c2, rfl⟩ := hk.form; cases x; exact noCh_any _ _ _ _ _ _ _ _⟩)
  rw [← HD.out] at hq
  clear h2 hb1 B1 hs
  go_wp2_with fail
  refine (hq.out).mono ?_
  rintro x w2 ⟨rfl, hb2⟩
  have B3 := B2.trans (hb2.mono B2.size)
  clear hq hb2 B2
  go_wp2_with fail
  go_ret
  exact retB (by simp; omega) B3

set_option maxRecDepth 100000 in
theorem wrong4a (hn : emptyB nm = false) :
    Calls Tryz.prog 55 #[.agg #[.int .i64 4, .string nm, .int .i64 a, .int .i64 b, .slice A l.length cap]] w (RetB true w) := by
  have B1 := box_below w (.cells #[.int .i64 4, .string nm, .int .i64 a, .int .i64 b, .slice A l.length cap] 24)
  have e1 := emptyB_no hn
  have e2 := isEmpty_no e1
  clear hn
  go_enter Tryz.func55, Tryz.ntmps55
  go_wp2_with fail
  go_ret
  exact retB rfl B1

set_option maxRecDepth 100000 in
theorem wrong4b (hn : emptyB nm = true) (ht : timesB a b = false) :
    Calls Tryz.prog 55 #[.agg #[.int .i64 4, .string nm, .int .i64 a, .int .i64 b, .slice A l.length cap]] w (RetB true w) := by
  have B1 := box_below w (.cells #[.int .i64 4, .string nm, .int .i64 a, .int .i64 b, .slice A l.length cap] 24)
  have e1 := emptyB_yes hn
  have e2 := isEmpty_yes e1
  have h2 := Lib.hid (times_any a b (w.alloc (.cells #[.int .i64 4, .string nm, .int .i64 a, .int .i64 b, .slice A l.length cap] 24)))
  rw [ht] at h2
  clear hn ht
  go_enter Tryz.func55, Tryz.ntmps55
  go_wp2_with fail
  refine (h2.out).mono ?_
  rintro x w1 ⟨rfl, rfl⟩
  clear h2
  go_wp2_with fail
  go_ret
  exact retB rfl B1

set_option maxRecDepth 100000 in
theorem wrong4c (hn : emptyB nm = true) (ht : timesB a b = true) (hl : ¬ l.length = 1) :
    Calls Tryz.prog 55 #[.agg #[.int .i64 4, .string nm, .int .i64 a, .int .i64 b, .slice A l.length cap]] w (RetB true w) := by
  have hl' : (((l.length : Nat) : Int) != 1) = true := by simp; omega
  clear hl
  have B1 := box_below w (.cells #[.int .i64 4, .string nm, .int .i64 a, .int .i64 b, .slice A l.length cap] 24)
  have e1 := emptyB_yes hn
  have e2 := isEmpty_yes e1
  have h2 := Lib.hid (times_any a b (w.alloc (.cells #[.int .i64 4, .string nm, .int .i64 a, .int .i64 b, .slice A l.length cap] 24)))
  rw [ht] at h2
  clear hn ht
  go_enter Tryz.func55, Tryz.ntmps55
  go_wp2_with fail
  refine (h2.out).mono ?_
  rintro x w1 ⟨rfl, rfl⟩
  clear h2
  go_wp2_with fail
  go_ret
  exact retB rfl B1

set_option maxRecDepth 100000 in
theorem wrong4d (B : Nat) (hs : Kb w B (.slice A l.length cap) l) (hB : B ≤ w.heap.size) (hn : emptyB nm = true) (ht : timesB a b = true) (hl : l.length = 1) :
    Calls Tryz.prog 55 #[.agg #[.int .i64 4, .string nm, .int .i64 a, .int .i64 b, .slice A l.length cap]] w (RetB (l.any nilB) w) := by
  have hl' : (((l.length : Nat) : Int) != 1) = false := by simp [hl]
  obtain ⟨y, hy, hany⟩ := len_any (p := nilB) hl
  have hi : (0 : Int) < ((l.length : Nat) : Int) := by omega
  have hs1 := hs.below ((box_below w (.cells #[.int .i64 4, .string nm, .int .i64 a, .int .i64 b, .slice A l.length cap] 24)).mono hB)
  obtain ⟨bb, off, s', rfl, hbB, hcap, hks, hc0, hc1, hc2, hc3, hc4⟩ := Kd.at hs1 (i := 0) (by omega)
  obtain ⟨A2, c2, rfl⟩ := hks.form
  have hl0 : l[0]'(by omega) = y := by simp [hy]
  rw [hl0] at hc0 hc1 hc2 hc3 hc4
  simp only [Nat.zero_mul, Nat.add_zero] at hc0 hc1 hc2 hc3 hc4
  obtain ⟨k', nm', a', b', l'⟩ := y
  have hq := Lib.hid fun w => nothing_any k' nm' a' b' l' A2 c2 w
  rw [hany]
  obtain ⟨d, HD⟩ : ∃ d, Hid (d = nilB (.mk k' nm' a' b' l')) := ⟨_, rfl⟩
  rw [← HD.out] at hq ⊢
  simp only [Ex.k, Ex.n, Ex.a, Ex.b, Ex.l] at hc0 hc1 hc2 hc3 hc4
  have HY := Lib.hid hy
  have HL := Lib.hid hl
  clear hy hl hany hl0 hs hs1 hks
  have B1 := box_below w (.cells #[.int .i64 4, .string nm, .int .i64 a, .int .i64 b, .slice (some ⟨bb, off, none⟩) l.length cap] 24)
  have e1 := emptyB_yes hn
  have e2 := isEmpty_yes e1
  have h2 := Lib.hid (times_any a b (w.alloc (.cells #[.int .i64 4, .string nm, .int .i64 a, .int .i64 b, .slice (some ⟨bb, off, none⟩) l.length cap] 24)))
  rw [ht] at h2
  clear hn ht
  go_enter Tryz.func55, Tryz.ntmps55
  go_wp2_with fail
  refine (h2.out).mono ?_
  rintro x w1 ⟨rfl, rfl⟩
  clear h2
  go_wp2_with fail
  refine (hq.out _).mono ?_
  rintro x w2 ⟨rfl, hb2⟩
  have B3 := B1.trans (hb2.mono B1.size)
  clear hq hb2 B1
  go_wp2_with fail
  go_ret
  exact retB rfl B3

set_option maxRecDepth 100000 in
theorem wrong5 (k : Int) (h1 : (k == 1) = false) (h2 : (k == 2) = false) (h3 : (k == 3) = false) (h4 : (k == 4) = false) :
    Calls Tryz.prog 55 #[.agg #[.int .i64 k, .string nm, .int .i64 a, .int .i64 b, .slice A l.length cap]] w (RetB true w) := by
  have B1 := box_below w (.cells #[.int .i64 k, .string nm, .int .i64 a, .int .i64 b, .slice A l.length cap] 24)
  go_enter Tryz.func55, Tryz.ntmps55
  go_wp2_with fail
  go_ret
  exact retB rfl B1
end

theorem ne_beq {x y : Int} (h : ¬ x = y) : (x == y) = false := by simpa using h

/-- wrong -/
theorem wrong_any (e : Ex) (s : Value) (B : Nat) (w : World) (hs : Kb w B s e.l) (hB : B ≤ w.heap.size) :
    Calls Tryz.prog 55 #[exV e s] w (RetB (wrongB e) w) := by
  obtain ⟨A, cap, rfl⟩ := hs.form
  obtain ⟨k, nm, a, b, l⟩ := e
  show Calls Tryz.prog 55 #[.agg #[.int .i64 k, .string nm, .int .i64 a, .int .i64 b, .slice A l.length cap]] w (RetB (
    if k = 1 then !nameB nm || (!bareB (.mk k nm a b l) || decide (0 < l.length))
    else if k = 2 then !emptyB nm || (!bareB (.mk k nm a b l) || (decide (l.length = 1) || l.any (isB 2)))
    else if k = 3 then !emptyB nm || (!bareB (.mk k nm a b l) || (decide (l.length < 2) || l.any noChB))
    else if k = 4 then !emptyB nm || (!timesB a b || (!decide (l.length = 1) || l.any nilB))
    else true) w)
  by_cases h1 : k = 1
  · subst h1
    rw [if_pos rfl]
    cases hn : nameB nm
    · exact wrong1a nm a b l A cap w hn
    · cases hb : bareB (.mk 1 nm a b l)
      · exact wrong1b nm a b l A cap w hn hb
      · exact wrong1c nm a b l A cap w hn hb
  rw [if_neg h1]
  by_cases h2 : k = 2
  · subst h2
    rw [if_pos rfl]
    cases hn : emptyB nm
    · exact wrong2a nm a b l A cap w hn
    · cases hb : bareB (.mk 2 nm a b l)
      · exact wrong2b nm a b l A cap w hn hb
      · by_cases hl : l.length = 1
        · have := wrong2c nm a b l A cap w hn hb
          simpa [hl] using this
        · have := wrong2d nm a b l A cap w B hs hB hn hb hl
          simpa [hl] using this
  rw [if_neg h2]
  by_cases h3 : k = 3
  · subst h3
    rw [if_pos rfl]
    cases hn : emptyB nm
    · exact wrong3a nm a b l A cap w hn
    · cases hb : bareB (.mk 3 nm a b l)
      · exact wrong3b nm a b l A cap w hn hb
      · by_cases hl : l.length < 2
        · have := wrong3c nm a b l A cap w hn hb hl
          simpa [hl] using this
        · have := wrong3d nm a b l A cap w B hs hB hn hb hl
          simpa [hl] using this
  rw [if_neg h3]
  by_cases h4 : k = 4
  · subst h4
    rw [if_pos rfl]
    cases hn : emptyB nm
    · exact wrong4a nm a b l A cap w hn
    · cases ht : timesB a b
      · exact wrong4b nm a b l A cap w hn ht
      · by_cases hl : l.length = 1
        · have := wrong4d nm a b l A cap w B hs hB hn ht hl
          simpa [hl] using this
        · have := wrong4c nm a b l A cap w hn ht hl
          simpa [hl] using this
  rw [if_neg h4]
  exact wrong5 nm a b l A cap w k (ne_beq h1) (ne_beq h2) (ne_beq h3) (ne_beq h4)
theorem wrongH_any (e : Ex) (s : Value) (B : Nat) (w : World) (hs : Kb w B s e.l) (hB : B ≤ w.heap.size) : Calls Tryz.prog 52 #[exV e s, .func (.func 55) #[] #[]] w (RetB (e.anyE wrongB) w) :=
  holds_any wrongB _ entWrong (fun e s B w hs hB => wrong_any e s B w hs hB) e s B w hs hB

/-! ## Check -/
/-- what Check answers: 3 ErrLong, 2 ErrArg, 0 OK -/
def checkE (e : Ex) : Int := if deepN 16 e || (e.anyE longE || decide (24 < sizeN e)) then 3 else if e.anyE wrongB then 2 else 0

set_option maxRecDepth 100000 in
set_option maxHeartbeats 400000 in
theorem Check_any (e : Ex) (s : Value) (B : Nat) (w : World) (hs : Kb w B s e.l) (hB : B ≤ w.heap.size) :
    Calls Tryz.prog 27 #[exV e s] w fun x w' => x = .returned (.int .i64 (checkE e)) ∧ Below w.heap.size w w' := by
  obtain ⟨c, HC⟩ : ∃ c, Hid (c = checkE e) := ⟨_, rfl⟩
  rw [← HC.out]
  obtain ⟨A, cap, rfl⟩ := hs.form
  have B1 := box_below w (.cells #[.int .i64 e.k, .string e.n, .int .i64 e.a, .int .i64 e.b, .slice A e.l.length cap] 24)
  have hs1 := hs.below (B1.mono hB)
  have hlt : w.heap.size < w.heap.size + 1 := by omega
  have hd := Lib.hid (deeper_any 16 e _ B _ hs1 (Nat.le_trans hB B1.size) (by omega))
  have mk := fun (w1 : World) (hb : Below (w.heap.size + 1) (w.alloc (.cells #[.int .i64 e.k, .string e.n, .int .i64 e.a, .int .i64 e.b, .slice A e.l.length cap] 24)) w1) =>
    (show Kb w1 B (.slice A e.l.length cap) e.l ∧ B ≤ w1.heap.size from ⟨hs1.below (hb.mono (by omega)), by have := hb.size; simp at this; omega⟩)
  have HL := Lib.hid fun w1 hb => longH_any e _ B w1 (mk w1 hb).1 (mk w1 hb).2
  have HZ := Lib.hid fun w1 hb => Size_any e _ B w1 (mk w1 hb).1 (mk w1 hb).2
  have HW := Lib.hid fun w1 hb => wrongH_any e _ B w1 (mk w1 hb).1 (mk w1 hb).2
  clear hs1 hs mk
  obtain ⟨d, HD⟩ : ∃ d, Hid (d = deepN 16 e) := ⟨_, rfl⟩
  obtain ⟨g, HG⟩ : ∃ g, Hid (g = e.anyE longE) := ⟨_, rfl⟩
  obtain ⟨z, HZZ⟩ : ∃ z, Hid (z = sizeN e) := ⟨_, rfl⟩
  obtain ⟨q, HQ⟩ : ∃ q, Hid (q = e.anyE wrongB) := ⟨_, rfl⟩
  have hE : Hid (c = if d || (g || decide (24 < z)) then 3 else if q then 2 else 0) := by show _ = _; rw [HC.out, checkE, HD.out, HG.out, HZZ.out, HQ.out]
  rw [← HD.out] at hd
  rw [← HG.out] at HL
  rw [← HZZ.out] at HZ
  rw [← HQ.out] at HW
  clear HC HD HG HZZ HQ
  unfold exV at *
  have wr : ∀ (w1 : World), Below (w.heap.size + 1) (w.alloc (.cells #[.int .i64 e.k, .string e.n, .int .i64 e.a, .int .i64 e.b, .slice A e.l.length cap] 24)) w1 → Hid (∀ j u, (#[Value.int .i64 e.k, .string e.n, .int .i64 e.a, .int .i64 e.b, .slice A e.l.length cap] : Array Value)[j]? = some u → w1.cell? ⟨w.heap.size, j, none⟩ = some u) := by
    intro w1 hb j u hu
    rw [hb.cell (p := ⟨w.heap.size, j, none⟩) hlt, cell_of_row _ w.heap.size j _ _ _ (heap_alloc_new w _)]; exact hu
  have WR := Lib.hid wr
  clear wr
  go_enter Tryz.func27, Tryz.ntmps27
  go_wp2_with fail
  refine (hd.out).mono ?_
  rintro x w1 ⟨rfl, hb1⟩
  have HB := Lib.hid (show Below (w.heap.size + 1) _ w1 by simpa using hb1)
  clear hd hb1
  cases d
  · have hz := HB.out.size
    simp only [World.size_alloc] at hz
    have hcs := (WR.out w1 HB.out).out
    have g0 := hcs 0 _ rfl
    have g1 := hcs 1 _ rfl
    have g2 := hcs 2 _ rfl
    have g3 := hcs 3 _ rfl
    have g4 := hcs 4 _ rfl
    clear hcs
    have hq := Lib.hid (HL.out w1 HB.out)
    go_wp2_with fail
    refine (hq.out).mono ?_
    rintro x w2 ⟨rfl, hb2⟩
    have HB2 := Lib.hid (HB.out.trans (hb2.mono hz))
    clear hq hb2 HB g0 g1 g2 g3 g4
    cases g
    · have hz2 := HB2.out.size
      simp only [World.size_alloc] at hz2
      have hcs := (WR.out w2 HB2.out).out
      have g0 := hcs 0 _ rfl
      have g1 := hcs 1 _ rfl
      have g2 := hcs 2 _ rfl
      have g3 := hcs 3 _ rfl
      have g4 := hcs 4 _ rfl
      clear hcs
      have hq := Lib.hid (HZ.out w2 HB2.out)
      go_wp2_with fail
      refine (hq.out).mono ?_
      rintro x w3 ⟨rfl, hb3⟩
      have HB3 := Lib.hid (HB2.out.trans (hb3.mono hz2))
      clear hq hb3 HB2 g0 g1 g2 g3 g4
      by_cases h24 : 24 < z
      · have hfin : Hid (c = 3) := by show _ = _; rw [hE.out]; simp [h24]
        go_wp2_with fail
        go_ret
        exact ret_i hfin.out.symm (B1.trans (HB3.out.mono (by omega)))
      · have hz3 := HB3.out.size
        simp only [World.size_alloc] at hz3
        have hcs := (WR.out w3 HB3.out).out
        have g0 := hcs 0 _ rfl
        have g1 := hcs 1 _ rfl
        have g2 := hcs 2 _ rfl
        have g3 := hcs 3 _ rfl
        have g4 := hcs 4 _ rfl
        clear hcs
        have hE3 : Hid (c = if q then 2 else 0) := by show _ = _; rw [hE.out]; simp [h24]
        have hq := Lib.hid (HW.out w3 HB3.out)
        go_wp2_with fail
        refine (hq.out).mono ?_
        rintro x w4 ⟨rfl, hb4⟩
        have HB4 := Lib.hid (HB3.out.trans (hb4.mono hz3))
        clear hq hb4 HB3 g0 g1 g2 g3 g4
        cases q
        all_goals
          go_wp2_with fail
          go_ret
          exact ret_i (by rw [hE3.out]; rfl) (B1.trans (HB4.out.mono (by omega)))
    · have hfin : Hid (c = 3) := by show _ = _; rw [hE.out]; simp
      go_wp2_with fail
      go_ret
      exact ret_i hfin.out.symm (B1.trans (HB2.out.mono (by omega)))
  · have hfin : Hid (c = 3) := by show _ = _; rw [hE.out]; simp
    go_wp2_with fail
    go_ret
    exact ret_i hfin.out.symm (B1.trans (HB.out.mono (by omega)))
end Go.Proofs.YtkbileabkfccgaaGreatDoor
