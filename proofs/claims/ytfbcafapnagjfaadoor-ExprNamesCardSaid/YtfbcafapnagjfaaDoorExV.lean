/- expr: whole, Parse. -/
import Derived.Test.YtfbcafapnagjfaaDoorExU
namespace Go.Proofs.YtfbcafapnagjfaaDoor
open Go.RowKit

set_option maxRecDepth 100000 in
set_option maxHeartbeats 1600000 in
/-- whole: nothing but blanks -/
theorem wholeA_any (g : Nat) (s : ByteArray) (w : World) (h : Rp w g s 0) (hs : s.size ≤ 2000) (h1 : skipN s.data.toList 0 = s.size) :
    Calls Tryd.prog 10 #[.pointer (some ⟨g, 0, none⟩)] w (Pt w g s (some (.mk 2 (baOf []) 0 0 []), s.size)) := by
  have hg := h.lt
  obtain ⟨w0, rfl⟩ : ∃ w0 : World, w0 = w := ⟨_, rfl⟩
  have C0 := Lib.hid fun w1 hr => next_any g s 0 w1 hr (by omega) (by omega)
  rw [h1] at C0
  have Hh := Lib.hid h
  clear h1 h
  go_enter Tryd.func10, Tryd.ntmps10
  go_wp2_with fail
  refine (C0.out _ (by exact Hh.out.alloc _)).mono ?_
  clear C0
  rintro x w1 ⟨rfl, hr1, hb1⟩
  have HR1 := Lib.hid hr1
  have HB1 : Hid (Bk w1 w0.heap.size 24 #[.int .i64 0, .string ⟨#[]⟩, .int .i64 0, .int .i64 0, .slice none 0 0]) := Bk.bg (Bk.new _ _ _) hb1 (by omega)
  have HG1 : Hid (Bg w0.heap.size g w0 w1) := ((Bg.refl _ _ _).alloc (Nat.le_refl _) _).trans (hb1.mono (by simp))
  have hlt : w0.heap.size < w1.heap.size := HB1.out.lt
  obtain ⟨⟨x0, x1, x2, x3, x4⟩, y0, y1, y2, y3, y4⟩ := Bk.five HB1.out
  have r0 := hr1.c0
  have r1 := hr1.c1
  clear hr1 hb1
  go_wp2_with fail
  go_quiet (fail)
  go_wp2_with fail
  refine pt_ret (e := .mk 2 (baOf []) 0 0 []) (A := none) (c := 0) Tryd.results10 rfl rfl rfl ⟨?_, ?_, ?_, fun y hy => ⟨by simpa using hy, Kd.nil _ _⟩⟩
  · exact (HR1.out.drewN nq).far5 (by omega) _ _ _ _ _
  · exact (HG1.out.drewN nq).set5 (Nat.le_refl _) _ _ _ _ _
  · exact Bk.set5 (w := w1.drewN nq) HB1.out _ _ _ _ _

set_option maxRecDepth 100000 in
set_option maxHeartbeats 1600000 in
/-- whole: what is read, and whether nothing stands behind it -/
theorem wholeB_any (g : Nat) (s : ByteArray) (w : World) (h : Rp w g s 0) (hs : s.size ≤ 2000) (h1 : ¬ skipN s.data.toList 0 = s.size) (R : Option Ex × Nat) (hR : R = match chP s.data.toList (s.size + 1) (skipN s.data.toList 0) with
    | (none, k) => (none, k)
    | (some e, k) => if k = s.size then (some e, k) else (none, k)) :
    Calls Tryd.prog 10 #[.pointer (some ⟨g, 0, none⟩)] w (Pt w g s R) := by
  have hg := h.lt
  obtain ⟨w0, rfl⟩ : ∃ w0 : World, w0 = w := ⟨_, rfl⟩
  have hle : skipN s.data.toList 0 ≤ s.size := by have := skip_le (t := s.data.toList) (k := 0) (by omega); rwa [ba_len] at this
  obtain ⟨J, hJ⟩ : ∃ J, J = skipN s.data.toList 0 := ⟨_, rfl⟩
  rw [← hJ] at h1 hle hR
  have C0 := Lib.hid fun w1 hr => next_any g s 0 w1 hr (by omega) (by omega)
  rw [← hJ] at C0
  have C1 := Lib.hid fun w1 hr => choice_any g s hs (s.size + 1) J w1 hr hle (by omega)
  rcases hq : chP s.data.toList (s.size + 1) J with ⟨o, k⟩
  rw [hq] at C1 hR
  have HRR := Lib.hid hR
  have hne : ((J : Int) == (s.size : Int)) = false := by rw [beq_eq_false_iff_ne]; omega
  have Hh := Lib.hid h
  clear h1 h hJ hq hR
  go_enter Tryd.func10, Tryd.ntmps10
  go_wp2_with fail
  refine (C0.out _ (by exact Hh.out.alloc _)).mono ?_
  clear C0
  rintro x w1 ⟨rfl, hr1, hb1⟩
  have HR1 := Lib.hid hr1
  have HB1 : Hid (Bk w1 w0.heap.size 24 #[.int .i64 0, .string ⟨#[]⟩, .int .i64 0, .int .i64 0, .slice none 0 0]) := Bk.bg (Bk.new _ _ _) hb1 (by omega)
  have HG1 : Hid (Bg w0.heap.size g w0 w1) := ((Bg.refl _ _ _).alloc (Nat.le_refl _) _).trans (hb1.mono (by simp))
  have hlt : w0.heap.size < w1.heap.size := HB1.out.lt
  have r0 := hr1.c0
  have r1 := hr1.c1
  clear hr1 hb1
  go_wp2_with fail
  go_quiet (fail)
  go_wp2_with fail
  refine (C1.out _ (HR1.out.drewN _)).mono ?_
  clear C1 r0 r1
  rintro x w2 ⟨e, A, c, rfl, hr2, hb2, hy⟩
  have HR2 := Lib.hid hr2
  have HB2 := Lib.hid ((HB1.out.drewN nq).bg hb2 (by omega))
  have HG2 : Hid (Bg w0.heap.size g w0 w2) := (HG1.out.drewN nq).trans (hb2.mono (by show _ ≤ w1.heap.size; omega))
  have hlt2 : w0.heap.size < w2.heap.size := HB2.out.lt
  have hy' : ∀ y, o = some y → e = y ∧ Kd w2 (fun b => w0.heap.size + 1 ≤ b) (.slice A e.l.length c) e.l := fun y h => by
    obtain ⟨q1, q2⟩ := hy y h
    exact ⟨q1, q2.later hlt⟩
  have HY := Lib.hid hy'
  obtain ⟨⟨x0, x1, x2, x3, x4⟩, y0, y1, y2, y3, y4⟩ := Bk.five HB2.out
  have r0 := hr2.c0
  have r1 := hr2.c1
  simp only at r1
  clear hr2 hb2 hy hy' HR1 HB1 HG1
  obtain ⟨k0, n0, a0, b0, l0⟩ := e
  simp only [Ex.k, Ex.n, Ex.a, Ex.b, Ex.l] at *
  cases o with
  | none =>
    have HR3 : Hid (R = (none, k)) := HRR.out
    clear HRR HY
    go_wp2_with fail
    go_region
    go_wp2_with fail
    refine pt_ret (e := .mk k0 n0 a0 b0 l0) (A := A) (c := c) Tryd.results10 rfl (by rw [HR3.out]; rfl) rfl ⟨?_, ?_, ?_, fun y hy => by rw [HR3.out] at hy; cases hy⟩
    · rw [HR3.out]; exact ((HR2.out.far5 (by omega) _ _ _ _ _).alloc _).drew
    · exact ((HG2.out.set5 (Nat.le_refl _) _ _ _ _ _).alloc (by simp; omega) _).drew
    · exact ((HB2.out.set5 _ _ _ _ _).alloc _).drew
  | some y =>
    obtain ⟨rfl, hkd⟩ := HY.out y rfl
    have HKD := Lib.hid hkd
    clear HY hkd
    have hgl : g < w2.heap.size := by omega
    by_cases hks : k = s.size
    · have hk1 : ((k : Int) == (s.size : Int)) = true := by rw [hks]; simp
      have HR3 : Hid (R = (some (.mk k0 n0 a0 b0 l0), k)) := by show _ = _; rw [HRR.out]; simp only; rw [if_pos hks]
      clear HRR hks
      go_wp2_with fail
      go_region
      all_goals
        go_wp2_with fail
        refine pt_ret (e := .mk k0 n0 a0 b0 l0) (A := A) (c := c) Tryd.results10 rfl (by rw [HR3.out]; rfl) rfl ⟨?_, ?_, ?_, fun y hy => ?_⟩
        · rw [HR3.out]; exact ((HR2.out.far5 (by omega) _ _ _ _ _).alloc _).drew
        · exact ((HG2.out.set5 (Nat.le_refl _) _ _ _ _ _).alloc (by simp; omega) _).drew
        · exact ((HB2.out.set5 _ _ _ _ _).alloc _).drew
        · have z1 : R.1 = some (.mk k0 n0 a0 b0 l0) := by rw [HR3.out]
          rw [z1] at hy
          exact ⟨Option.some.inj hy, (((HKD.out.far5 (by omega) _ _ _ _ _).new _).drew).later (by omega)⟩
    · have hk1 : ((k : Int) == (s.size : Int)) = false := by rw [beq_eq_false_iff_ne]; omega
      have HR3 : Hid (R = (none, k)) := by show _ = _; rw [HRR.out]; simp only; rw [if_neg hks]
      clear HRR hks
      go_wp2_with fail
      go_region
      all_goals
        go_wp2_with fail
        refine pt_ret (e := .mk k0 n0 a0 b0 l0) (A := A) (c := c) Tryd.results10 rfl (by rw [HR3.out]; rfl) rfl ⟨?_, ?_, ?_, fun y hy => by rw [HR3.out] at hy; cases hy⟩
        · rw [HR3.out]; exact ((HR2.out.far5 (by omega) _ _ _ _ _).alloc _).drew
        · exact ((HG2.out.set5 (Nat.le_refl _) _ _ _ _ _).alloc (by simp; omega) _).drew
        · exact ((HB2.out.set5 _ _ _ _ _).alloc _).drew

/-- whole -/
theorem whole_any (g : Nat) (s : ByteArray) (w : World) (h : Rp w g s 0) (hs : s.size ≤ 2000) :
    Calls Tryd.prog 10 #[.pointer (some ⟨g, 0, none⟩)] w (Pt w g s (wholeP s.data.toList)) := by
  have hl := ba_len s
  unfold wholeP
  rw [hl]
  by_cases h1 : skipN s.data.toList 0 = s.size
  · rw [if_pos h1]; exact wholeA_any g s w h hs h1
  · rw [if_neg h1]; exact wholeB_any g s w h hs h1 _ rfl
end Go.Proofs.YtfbcafapnagjfaaDoor
