/- YtjajcecenflejaaGreatCz09 -/
import Derived.Test.YtjajcecenflejaaGreatCz08
namespace Go.Proofs.YtjajcecenflejaaGreat
open Go.RowKit
set_option maxRecDepth 100000 in
set_option maxHeartbeats 1000000 in
theorem pl_tk (L : List Tk) (hcs : ∀ x ∈ L, 0 ≤ x.c ∧ x.c < 256) (v : Value) (w : World) (B : Nat) (O : Nat → Prop) (g : Nat) (l : List UInt8) (d : Int) (lo br : Bool) (h : Wr w B O g l d lo br) (hv : Ls w (fun b => b < B) v L) (hl : l.length + uL uTk L ≤ limW) :
    Calls Tryz.prog 76 #[.pointer (some ⟨g, 0, none⟩), v, .func (.func 77) #[] #[]] w (WrT B O g w l d lo br (okL okTk L) (eL eTk L) (uL uTk L)) := by
  obtain ⟨A, cap, rfl⟩ := hv.form
  have hmax := hv.max
  unfold maxLen at hmax
  unfold uL at hl
  have hOB := fun k hk => (h.own k hk).2
  go_enter Tryz.func76, Tryz.ntmps76
  go_wp2_with fail
  refine (within_any (L.length : Int) 65536 w B O g l d lo br h).mono ?_
  rintro e w1 ⟨rfl, hb1, l1, r1, h1, hl1, hr1⟩
  go_wp2_with fail
  refine (wnum_any (L.length : Int) w1 B O g l d l1 r1 h1 (by omega)).mono ?_
  rintro e w2 ⟨rfl, O2, hb2, k2, l2, r2, h2, hlen2, hk2⟩
  have HB := Lib.hid (hb1.trans hb2)
  have HK : Hid (l2 = false → r2 = false → lo = false ∧ br = false ∧ L.length ≤ 65536 ∧ k2 = l ++ uv L.length) := fun a b => by
    obtain ⟨x1, x2, x3, x4⟩ := hk2.out a b
    obtain ⟨y1, y2⟩ := hl1.out x1
    exact ⟨y1, (hr1.out x2).1, by omega, by rw [x4]; rfl⟩
  clear hk2 hl1 hr1 h1 h hb1 hb2
  go_wp2
  go_loopg [18] L.length (fun n s wk => ∃ (k : Nat) (Ok : Nat → Prop) (lk : List UInt8) (lok rk : Bool), k ≤ L.length ∧ n = L.length - k ∧ s = .int .i64 k ∧ Wr wk B Ok g lk d lok rk ∧ Fr O Ok w wk ∧ Hid (lk.length ≤ l.length + 10 + sm uTk L k) ∧
    Hid (lok = false → rk = false → lo = false ∧ br = false ∧ L.length ≤ 65536 ∧ (∀ x ∈ L.take k, okTk x) ∧ lk = l ++ (uv L.length ++ (L.take k).flatMap eTk)))
  case atStart => exact ⟨0, O2, k2, l2, r2, Nat.zero_le _, by omega, rfl, h2, HB.out, by show _ ≤ _; omega, fun a b => by obtain ⟨x1, x2, x3, x4⟩ := HK.out a b; exact ⟨x1, x2, x3, by simp, by rw [x4]; simp⟩⟩
  case round =>
    obtain ⟨k, Ok, lk, lok, rk, hk, hn, rfl, hW, hb, hlk, hok⟩ := hrel
    have HN := Lib.hid hn
    clear hn HB HK h2 hlen2
    by_cases hlt : k < L.length
    · have hvk := ls_fr hv hb hOB
      have hsm := Lib.hid (sm_succ uTk L k hlt)
      have hsl := Lib.hid (sm_le uTk L (k + 1))
      have htk : Hid (L.take (k + 1) = L.take k ++ [L[k]]) := by show _ = _; rw [List.take_add_one, List.getElem?_eq_getElem hlt]; rfl
      have hmem : L[k] ∈ L := List.getElem_mem hlt
      obtain ⟨b, off, va, vm, rfl, hbb, hcap, a0, a1, a2, a3, a4, ra, rm⟩ := at_tk hvk hlt
      obtain ⟨y, hy⟩ : ∃ y, Hid (y = L[k]) := ⟨_, Lib.hid rfl⟩
      rw [← hy.out] at a0 a1 a4 ra rm
      obtain ⟨Ara, cra, rfl⟩ := ra.form
      obtain ⟨Arm, crm, rfl⟩ := rm.form
      have hW' := hW
      have hBs := hW.base
      obtain ⟨vw, hbk, how, hBg, hne⟩ := hW
      have c2 := hbk.cell 2
      simp at c2
      have hgl := hbk.lt
      have hyu : Hid (lk.length + uTk y ≤ limW) := by show _ ≤ _; have := hlk.out; have := hsm.out; have := hsl.out; rw [hy.out]; omega
      have hi0 : (0 : Int) ≤ (k : Int) := by omega
      have hi1 : (k : Int) < (L.length : Int) := by omega
      clear hbk how hv
      cases lok
      · go_wp2_with fail
        refine (wtoken_any y _ _ (by rw [hy.out]; exact hcs _ hmem) _ B Ok g lk d false rk (hW'.alloc _) (ra.under (box1 _ _)) (rm.under (box1 _ _)) hyu.out).mono ?_
        rintro e w4 ⟨rfl, O4, hb4, l4, lo4, r4, h4, hlen4, hk4⟩
        have hbb4 := Lib.hid ((hb.alloc _).trans hb4)
        have HL4 : Hid (l4.length ≤ l.length + 10 + sm uTk L (k + 1)) := by show _ ≤ _; have := hlk.out; have := hsm.out; rw [← hy.out] at this; omega
        have HK4 : Hid (lo4 = false → r4 = false → lo = false ∧ br = false ∧ L.length ≤ 65536 ∧ (∀ x ∈ L.take (k + 1), okTk x) ∧ l4 = l ++ (uv L.length ++ (L.take (k + 1)).flatMap eTk)) := fun a b => by
          obtain ⟨x1, x2, x3, x4⟩ := hk4.out a b
          obtain ⟨y1, y2, y3, y4, y5⟩ := hok.out (by first | rfl | trivial) x2
          refine ⟨y1, y2, y3, ?_, ?_⟩
          · rw [htk.out]
            intro x hx
            rcases List.mem_append.1 hx with hx | hx
            · exact y4 x hx
            · rw [List.mem_singleton.1 hx, ← hy.out]; exact x3
          · rw [htk.out, x4, y5, List.flatMap_append, ← hy.out]
            simp [List.append_assoc]
        clear hk4 hlen4 hb4 hb hok hlk hW'
        go_wp2
        go_roundg (L.length - (k + 1))
        case measure => have := HN.out; omega
        case rel => exact ⟨k + 1, O4, l4, lo4, r4, by omega, rfl, by go_num, h4, hbb4.out, HL4, HK4⟩
      · go_wp2
        go_end0
        exact ⟨rfl, Ok, hb.alloc _, lk, true, rk, hW'.alloc _, by have := hlk.out; have := sm_le uTk L k; unfold uL; omega, fun a => by cases a⟩
    · have hkl : k = L.length := by omega
      have hi1 : ¬ (k : Int) < (L.length : Int) := by omega
      have HKL := Lib.hid hkl
      clear hkl
      go_wp2
      go_end0
      refine ⟨rfl, Ok, hb, lk, lok, rk, hW, by have := hlk.out; have := sm_le uTk L k; unfold uL; omega, fun a b => ?_⟩
      obtain ⟨x1, x2, x3, x4, x5⟩ := hok.out a b
      rw [HKL.out, List.take_length] at x4 x5
      exact ⟨x1, x2, ⟨x3, x4⟩, x5⟩
set_option maxRecDepth 100000 in
set_option maxHeartbeats 2000000 in
theorem noSt_any (kk ff tt gg ee ii : Int) (Ad : Option Addr) (nd cd : Nat) (mt : ByteArray) (Aa : Option Addr) (na ca : Nat) (nn vv : ByteArray) (w : World) (B : Nat) (O : Nat → Prop) (g : Nat) (l : List UInt8) (d : Int) (lo br : Bool) (h : Wr w B O g l d lo br) :
    Calls Tryz.prog 78 #[.pointer (some ⟨g, 0, none⟩), .agg #[.int .i64 kk, .int .i64 ff, .int .i64 tt, .int .i64 gg, .int .i64 ee, .int .i64 ii, .slice Ad nd cd, .string mt, .slice Aa na ca, .string nn, .string vv]] w (WrT B O g w l d lo br (tt = 0 ∧ gg = 0 ∧ ee = 0 ∧ ii = 0 ∧ nd = 0 ∧ mt.size = 0 ∧ na = 0 ∧ nn.size = 0 ∧ vv.size = 0) [] 0) := by
  have hOB := fun k hk => (h.own k hk).2
  have hOl := fun k hk => (h.own k hk).1
  obtain ⟨x0, hx0⟩ : ∃ x0, Hid (x0 = w.heap.size) := ⟨_, Lib.hid rfl⟩
  obtain ⟨W0, hW0⟩ : ∃ W0, Hid (W0 = w.alloc (.cells #[.int .i64 kk, .int .i64 ff, .int .i64 tt, .int .i64 gg, .int .i64 ee, .int .i64 ii, .slice Ad nd cd, .string mt, .slice Aa na ca, .string nn, .string vv] 62)) := ⟨_, Lib.hid rfl⟩
  have HB0 : Hid (Fr O O w W0) := by show Fr _ _ _ _; rw [hW0.out]; exact (Fr.refl hOl).alloc _
  have h0 : Wr W0 B O g l d lo br := by rw [hW0.out]; exact h.alloc _
  have C0 : Hid (Bk W0 x0 62 #[.int .i64 kk, .int .i64 ff, .int .i64 tt, .int .i64 gg, .int .i64 ee, .int .i64 ii, .slice Ad nd cd, .string mt, .slice Aa na ca, .string nn, .string vv]) := by show Bk _ _ _ _; rw [hW0.out, hx0.out]; exact Bk.new _ _ _
  have hno0 : Hid (¬ O x0) := fun hh => by have := hOl _ hh; have := hx0.out; omega
  have hx0w : w.heap.size ≤ x0 := by rw [hx0.out]; exact Nat.le_refl _
  have hN0 : l.length ≤ l.length + 0 := by omega
  have hK0 := acc_0 l lo br
  have hu : ∀ s : ByteArray, 10 ≤ uS s := fun s => by unfold uS; omega
  clear h
  go_enter Tryz.func78, Tryz.ntmps78
  have q0_2 : W0.cell? ⟨x0, 2, none⟩ = some (.int .i64 tt) := by have := C0.out.cell 2; simpa using this
  go_wp2_with fail
  rw [← hW0.out, ← hx0.out]
  refine (absw (tt) 1048576 W0 B O g l d lo br h0).mono ?_
  rintro e W1 ⟨rfl, O1, hb1, l1, lo1, br1, h1, hn1, hk1⟩
  have HB1 := Lib.hid (HB0.out.trans hb1)
  have C1 := Lib.hid (bk_fr C0.out hb1 hno0.out)
  have hno1 : Hid (¬ O1 x0) := hb1.apart C0.out.lt hno0.out
  obtain ⟨hN1, hK1⟩ := acc_next hN0 hK0 hn1 hk1
  clear hb1 hn1 hk1 hN0 hK0 q0_2
  have q1_3 : W1.cell? ⟨x0, 3, none⟩ = some (.int .i64 gg) := by have := C1.out.cell 3; simpa using this
  go_wp2_with fail
  refine (absw (gg) 1048576 W1 B O1 g l1 d lo1 br1 h1).mono ?_
  rintro e W2 ⟨rfl, O2, hb2, l2, lo2, br2, h2, hn2, hk2⟩
  have HB2 := Lib.hid (HB1.out.trans hb2)
  have C2 := Lib.hid (bk_fr C1.out hb2 hno1.out)
  have hno2 : Hid (¬ O2 x0) := hb2.apart C1.out.lt hno1.out
  obtain ⟨hN2, hK2⟩ := acc_next hN1 hK1 hn2 hk2
  clear hb2 hn2 hk2 hN1 hK1 q1_3
  have q2_4 : W2.cell? ⟨x0, 4, none⟩ = some (.int .i64 ee) := by have := C2.out.cell 4; simpa using this
  go_wp2_with fail
  refine (absw (ee) 1048576 W2 B O2 g l2 d lo2 br2 h2).mono ?_
  rintro e W3 ⟨rfl, O3, hb3, l3, lo3, br3, h3, hn3, hk3⟩
  have HB3 := Lib.hid (HB2.out.trans hb3)
  have C3 := Lib.hid (bk_fr C2.out hb3 hno2.out)
  have hno3 : Hid (¬ O3 x0) := hb3.apart C2.out.lt hno2.out
  obtain ⟨hN3, hK3⟩ := acc_next hN2 hK2 hn3 hk3
  clear hb3 hn3 hk3 hN2 hK2 q2_4
  have q3_5 : W3.cell? ⟨x0, 5, none⟩ = some (.int .i64 ii) := by have := C3.out.cell 5; simpa using this
  go_wp2_with fail
  refine (absw (ii) 1048576 W3 B O3 g l3 d lo3 br3 h3).mono ?_
  rintro e W4 ⟨rfl, O4, hb4, l4, lo4, br4, h4, hn4, hk4⟩
  have HB4 := Lib.hid (HB3.out.trans hb4)
  have C4 := Lib.hid (bk_fr C3.out hb4 hno3.out)
  have hno4 : Hid (¬ O4 x0) := hb4.apart C3.out.lt hno3.out
  obtain ⟨hN4, hK4⟩ := acc_next hN3 hK3 hn4 hk4
  clear hb4 hn4 hk4 hN3 hK3 q3_5
  have q4_6 : W4.cell? ⟨x0, 6, none⟩ = some (.slice Ad nd cd) := by have := C4.out.cell 6; simpa using this
  go_wp2_with fail
  refine (absw ((nd : Int)) 65536 W4 B O4 g l4 d lo4 br4 h4).mono ?_
  rintro e W5 ⟨rfl, O5, hb5, l5, lo5, br5, h5, hn5, hk5⟩
  have HB5 := Lib.hid (HB4.out.trans hb5)
  have C5 := Lib.hid (bk_fr C4.out hb5 hno4.out)
  have hno5 : Hid (¬ O5 x0) := hb5.apart C4.out.lt hno4.out
  obtain ⟨hN5, hK5⟩ := acc_next hN4 hK4 hn5 hk5
  clear hb5 hn5 hk5 hN4 hK4 q4_6
  have q5_7 : W5.cell? ⟨x0, 7, none⟩ = some (.string mt) := by have := C5.out.cell 7; simpa using this
  go_wp2_with fail
  refine (absw ((mt.size : Int)) 1048576 W5 B O5 g l5 d lo5 br5 h5).mono ?_
  rintro e W6 ⟨rfl, O6, hb6, l6, lo6, br6, h6, hn6, hk6⟩
  have HB6 := Lib.hid (HB5.out.trans hb6)
  have C6 := Lib.hid (bk_fr C5.out hb6 hno5.out)
  have hno6 : Hid (¬ O6 x0) := hb6.apart C5.out.lt hno5.out
  obtain ⟨hN6, hK6⟩ := acc_next hN5 hK5 hn6 hk6
  clear hb6 hn6 hk6 hN5 hK5 q5_7
  have q6_8 : W6.cell? ⟨x0, 8, none⟩ = some (.slice Aa na ca) := by have := C6.out.cell 8; simpa using this
  go_wp2_with fail
  refine (absw ((na : Int)) 65536 W6 B O6 g l6 d lo6 br6 h6).mono ?_
  rintro e W7 ⟨rfl, O7, hb7, l7, lo7, br7, h7, hn7, hk7⟩
  have HB7 := Lib.hid (HB6.out.trans hb7)
  have C7 := Lib.hid (bk_fr C6.out hb7 hno6.out)
  have hno7 : Hid (¬ O7 x0) := hb7.apart C6.out.lt hno6.out
  obtain ⟨hN7, hK7⟩ := acc_next hN6 hK6 hn7 hk7
  clear hb7 hn7 hk7 hN6 hK6 q6_8
  have q7_9 : W7.cell? ⟨x0, 9, none⟩ = some (.string nn) := by have := C7.out.cell 9; simpa using this
  go_wp2_with fail
  refine (absw ((nn.size : Int)) 1048576 W7 B O7 g l7 d lo7 br7 h7).mono ?_
  rintro e W8 ⟨rfl, O8, hb8, l8, lo8, br8, h8, hn8, hk8⟩
  have HB8 := Lib.hid (HB7.out.trans hb8)
  have C8 := Lib.hid (bk_fr C7.out hb8 hno7.out)
  have hno8 : Hid (¬ O8 x0) := hb8.apart C7.out.lt hno7.out
  obtain ⟨hN8, hK8⟩ := acc_next hN7 hK7 hn8 hk8
  clear hb8 hn8 hk8 hN7 hK7 q7_9
  have q8_10 : W8.cell? ⟨x0, 10, none⟩ = some (.string vv) := by have := C8.out.cell 10; simpa using this
  go_wp2_with fail
  refine (absw ((vv.size : Int)) 1048576 W8 B O8 g l8 d lo8 br8 h8).mono ?_
  rintro e W9 ⟨rfl, O9, hb9, l9, lo9, br9, h9, hn9, hk9⟩
  have HB9 := Lib.hid (HB8.out.trans hb9)
  have C9 := Lib.hid (bk_fr C8.out hb9 hno8.out)
  have hno9 : Hid (¬ O9 x0) := hb9.apart C8.out.lt hno8.out
  obtain ⟨hN9, hK9⟩ := acc_next hN8 hK8 hn9 hk9
  clear hb9 hn9 hk9 hN8 hK8 q8_10
  go_wp2
  go_end0
  refine ⟨rfl, O9, HB9.out, l9, lo9, br9, h9, by omega, fun a b => ?_⟩
  obtain ⟨x1, x2, ⟨⟨⟨⟨⟨⟨⟨⟨⟨_, y1⟩, y2⟩, y3⟩, y4⟩, y5⟩, y6⟩, y7⟩, y8⟩, y9⟩, x7⟩ := hK9.out a b
  exact ⟨x1, x2, ⟨y1, y2, y3, y4, by omega, by omega, by omega, by omega, by omega⟩, by rw [x7]; simp⟩
theorem mk0 {m : ByteArray} {a : List At} (h : m.size = 0) (k : a.length = 0) : (⟨m, a⟩ : Mk) = ⟨.empty, []⟩ := by rw [size0 h, List.eq_nil_of_length_eq_zero k]
set_option maxRecDepth 100000 in
set_option maxHeartbeats 4000000 in
theorem wstep_any (s : St) (vd va : Value) (hcs : ∀ x ∈ s.mid, 0 ≤ x.c ∧ x.c < 256) (w : World) (B : Nat) (O : Nat → Prop) (g : Nat) (l : List UInt8) (d : Int) (lo br : Bool) (h : Wr w B O g l d lo br) (hvd : Ls w (fun b => b < B) vd s.mid) (hva : Ls w (fun b => b < B) va s.m.a) (hl : l.length + uSt s ≤ limW) :
    Calls Tryz.prog 42 #[.pointer (some ⟨g, 0, none⟩), .agg #[.int .i64 s.k, .int .i64 s.f, .int .i64 s.t, .int .i64 s.g, .int .i64 s.e, .int .i64 s.i, vd, .string s.m.t, va, .string s.n, .string s.v]] w (WrT B O g w l d lo br (okSt s) (eSt s) (uSt s)) := by
  obtain ⟨kk, ff, tt, gg, ee, ii, mid, ⟨mt, ma⟩, nn, vv⟩ := s
  simp only at hcs hvd hva hl ⊢
  have hl' := hl
  unfold uSt at hl'
  simp only at hl'
  obtain ⟨Ad, cd, rfl⟩ := hvd.form
  obtain ⟨Aa, ca, rfl⟩ := hva.form
  by_cases k1 : kk = 1
  · subst k1
    have hOB := fun k hk => (h.own k hk).2
    have hOl := fun k hk => (h.own k hk).1
    obtain ⟨x0, hx0⟩ : ∃ x0, Hid (x0 = w.heap.size) := ⟨_, Lib.hid rfl⟩
    obtain ⟨W0, hW0⟩ : ∃ W0, Hid (W0 = w.alloc (.cells #[.int .i64 1, .int .i64 ff, .int .i64 tt, .int .i64 gg, .int .i64 ee, .int .i64 ii, .slice Ad mid.length cd, .string mt, .slice Aa ma.length ca, .string nn, .string vv] 62)) := ⟨_, Lib.hid rfl⟩
    have HB0 : Hid (Fr O O w W0) := by show Fr _ _ _ _; rw [hW0.out]; exact (Fr.refl hOl).alloc _
    have h0 : Wr W0 B O g l d lo br := by rw [hW0.out]; exact h.alloc _
    have C0 : Hid (Bk W0 x0 62 #[.int .i64 1, .int .i64 ff, .int .i64 tt, .int .i64 gg, .int .i64 ee, .int .i64 ii, .slice Ad mid.length cd, .string mt, .slice Aa ma.length ca, .string nn, .string vv]) := by show Bk _ _ _ _; rw [hW0.out, hx0.out]; exact Bk.new _ _ _
    have hno0 : Hid (¬ O x0) := fun hh => by have := hOl _ hh; have := hx0.out; omega
    have hx0w : w.heap.size ≤ x0 := by rw [hx0.out]; exact Nat.le_refl _
    have hN0 : l.length ≤ l.length + 0 := by omega
    have hK0 := acc_0 l lo br
    have hu : ∀ s : ByteArray, 10 ≤ uS s := fun s => by unfold uS; omega
    clear h
    go_enter Tryz.func42, Tryz.ntmps42
    have q0_0 : W0.cell? ⟨x0, 0, none⟩ = some (.int .i64 1) := by have := C0.out.cell 0; simpa using this
    go_wp2_with fail
    rw [← hW0.out, ← hx0.out]
    refine (wnum_any 1 W0 B O g l d lo br h0 (by omega)).mono ?_
    rintro e W1 ⟨rfl, O1, hb1, l1, lo1, br1, h1, hn1, hk1⟩
    have HB1 := Lib.hid (HB0.out.trans hb1)
    have C1 := Lib.hid (bk_fr C0.out hb1 hno0.out)
    have hno1 : Hid (¬ O1 x0) := hb1.apart C0.out.lt hno0.out
    obtain ⟨hN1, hK1⟩ := acc_next hN0 hK0 hn1 hk1
    clear hb1 hn1 hk1 hN0 hK0 q0_0
    have q1_1 : W1.cell? ⟨x0, 1, none⟩ = some (.int .i64 ff) := by have := C1.out.cell 1; simpa using this
    go_wp2_with fail
    refine (wnum_any ff W1 B O1 g l1 d lo1 br1 h1 (by omega)).mono ?_
    rintro e W2 ⟨rfl, O2, hb2, l2, lo2, br2, h2, hn2, hk2⟩
    have HB2 := Lib.hid (HB1.out.trans hb2)
    have C2 := Lib.hid (bk_fr C1.out hb2 hno1.out)
    have hno2 : Hid (¬ O2 x0) := hb2.apart C1.out.lt hno1.out
    obtain ⟨hN2, hK2⟩ := acc_next hN1 hK1 hn2 hk2
    clear hb2 hn2 hk2 hN1 hK1 q1_1
    have q2_0 : W2.cell? ⟨x0, 0, none⟩ = some (.int .i64 1) := by have := C2.out.cell 0; simpa using this
    have q2_2 : W2.cell? ⟨x0, 2, none⟩ = some (.int .i64 tt) := by have := C2.out.cell 2; simpa using this
    go_wp2_with fail
    refine (wnum_any tt W2 B O2 g l2 d lo2 br2 h2 (by omega)).mono ?_
    rintro e W3 ⟨rfl, O3, hb3, l3, lo3, br3, h3, hn3, hk3⟩
    have HB3 := Lib.hid (HB2.out.trans hb3)
    have C3 := Lib.hid (bk_fr C2.out hb3 hno2.out)
    have hno3 : Hid (¬ O3 x0) := hb3.apart C2.out.lt hno2.out
    obtain ⟨hN3, hK3⟩ := acc_next hN2 hK2 hn3 hk3
    clear hb3 hn3 hk3 hN2 hK2 q2_0 q2_2
    have q3_6 : W3.cell? ⟨x0, 6, none⟩ = some (.slice Ad mid.length cd) := by have := C3.out.cell 6; simpa using this
    go_wp2_with fail
    refine (pl_tk mid hcs (.slice Ad mid.length cd) W3 B O3 g l3 d lo3 br3 h3 (ls_fr hvd HB3.out hOB) (by omega)).mono ?_
    rintro e W4 ⟨rfl, O4, hb4, l4, lo4, br4, h4, hn4, hk4⟩
    have HB4 := Lib.hid (HB3.out.trans hb4)
    have C4 := Lib.hid (bk_fr C3.out hb4 hno3.out)
    have hno4 : Hid (¬ O4 x0) := hb4.apart C3.out.lt hno3.out
    obtain ⟨hN4, hK4⟩ := acc_next hN3 hK3 hn4 hk4
    clear hb4 hn4 hk4 hN3 hK3 q3_6
    have zf : ∀ k, W4.frozen? ⟨x0, k, none⟩ = false := fun k => C4.out.frozen k
    have z4_2 := zf 2
    have z4_6 := zf 6
    have y4_2 : ∃ u, W4.cell? ⟨x0, 2, none⟩ = some u := ⟨_, by have := C4.out.cell 2; simpa using this⟩
    have y4_6 : ∃ u, W4.cell? ⟨x0, 6, none⟩ = some u := ⟨_, by have := C4.out.cell 6; simpa using this⟩
    obtain ⟨_, y4_2⟩ := y4_2
    obtain ⟨_, y4_6⟩ := y4_6
    have v4_0 : W4.cell? ⟨x0, 0, none⟩ = some (.int .i64 1) := by have := C4.out.cell 0; simpa using this
    have v4_1 : W4.cell? ⟨x0, 1, none⟩ = some (.int .i64 ff) := by have := C4.out.cell 1; simpa using this
    have v4_3 : W4.cell? ⟨x0, 3, none⟩ = some (.int .i64 gg) := by have := C4.out.cell 3; simpa using this
    have v4_4 : W4.cell? ⟨x0, 4, none⟩ = some (.int .i64 ee) := by have := C4.out.cell 4; simpa using this
    have v4_5 : W4.cell? ⟨x0, 5, none⟩ = some (.int .i64 ii) := by have := C4.out.cell 5; simpa using this
    have v4_7 : W4.cell? ⟨x0, 7, none⟩ = some (.string mt) := by have := C4.out.cell 7; simpa using this
    have v4_8 : W4.cell? ⟨x0, 8, none⟩ = some (.slice Aa ma.length ca) := by have := C4.out.cell 8; simpa using this
    have v4_9 : W4.cell? ⟨x0, 9, none⟩ = some (.string nn) := by have := C4.out.cell 9; simpa using this
    have v4_10 : W4.cell? ⟨x0, 10, none⟩ = some (.string vv) := by have := C4.out.cell 10; simpa using this
    obtain ⟨W4s, hW4s⟩ : ∃ x, Hid (x = ((W4.setCell ⟨x0, 2, none⟩ (.int .i64 0)).setCell ⟨x0, 6, none⟩ (.slice none 0 0))) := ⟨_, Lib.hid rfl⟩
    have HHB4s : Hid (Fr O O4 w W4s) := by show Fr _ _ _ _; rw [hW4s.out]; exact ((HB4.out.set (p := ⟨x0, 2, none⟩) (.inr hx0w) (.int .i64 0)).set (p := ⟨x0, 6, none⟩) (.inr hx0w) (.slice none 0 0))
    have h4s : Wr W4s B O4 g l4 d lo4 br4 := by rw [hW4s.out]; exact (wr_far (wr_far h4 hno4.out 2 (.int .i64 0)) hno4.out 6 (.slice none 0 0))
    have C4s : Hid (Bk W4s x0 62 #[.int .i64 1, .int .i64 ff, .int .i64 0, .int .i64 gg, .int .i64 ee, .int .i64 ii, .slice none 0 0, .string mt, .slice Aa ma.length ca, .string nn, .string vv]) := by show Bk _ _ _ _; rw [hW4s.out]; simpa using ((C4.out.set 2 (.int .i64 0)).set 6 (.slice none 0 0))
    go_wp2_with fail
    rw [← hW4s.out]
    refine (noSt_any 1 ff 0 gg ee ii none 0 0 mt Aa ma.length ca nn vv W4s B O4 g l4 d lo4 br4 h4s).mono ?_
    rintro e W5 ⟨rfl, O5, hb5, l5, lo5, br5, h5, hn5, hk5⟩
    have HB5 := Lib.hid (HHB4s.out.trans hb5)
    have C5 := Lib.hid (bk_fr C4s.out hb5 hno4.out)
    have hno5 : Hid (¬ O5 x0) := hb5.apart C4s.out.lt hno4.out
    obtain ⟨hN5, hK5⟩ := acc_next hN4 hK4 hn5 hk5
    clear hb5 hn5 hk5 hN4 hK4 
    go_wp2
    go_end0
    refine ⟨rfl, O5, HB5.out, l5, lo5, br5, h5, by unfold uSt; simp only; omega, fun x y => ?_⟩
    obtain ⟨x1, x2, ⟨⟨⟨⟨⟨_, _⟩, y1⟩, y2⟩, y3⟩, ⟨_, z2, z3, z4, _, z6, z7, z8, z9⟩⟩, x7⟩ := hK5.out x y
    exact ⟨x1, x2, ⟨y1, .inl ⟨.inl rfl, y2, y3, z2, z3, z4, mk0 z6 z7, size0 z8, size0 z9⟩⟩, by rw [x7]; simp [eSt, eI]⟩
  by_cases k6 : kk = 6
  · subst k6
    have hOB := fun k hk => (h.own k hk).2
    have hOl := fun k hk => (h.own k hk).1
    obtain ⟨x0, hx0⟩ : ∃ x0, Hid (x0 = w.heap.size) := ⟨_, Lib.hid rfl⟩
    obtain ⟨W0, hW0⟩ : ∃ W0, Hid (W0 = w.alloc (.cells #[.int .i64 6, .int .i64 ff, .int .i64 tt, .int .i64 gg, .int .i64 ee, .int .i64 ii, .slice Ad mid.length cd, .string mt, .slice Aa ma.length ca, .string nn, .string vv] 62)) := ⟨_, Lib.hid rfl⟩
    have HB0 : Hid (Fr O O w W0) := by show Fr _ _ _ _; rw [hW0.out]; exact (Fr.refl hOl).alloc _
    have h0 : Wr W0 B O g l d lo br := by rw [hW0.out]; exact h.alloc _
    have C0 : Hid (Bk W0 x0 62 #[.int .i64 6, .int .i64 ff, .int .i64 tt, .int .i64 gg, .int .i64 ee, .int .i64 ii, .slice Ad mid.length cd, .string mt, .slice Aa ma.length ca, .string nn, .string vv]) := by show Bk _ _ _ _; rw [hW0.out, hx0.out]; exact Bk.new _ _ _
    have hno0 : Hid (¬ O x0) := fun hh => by have := hOl _ hh; have := hx0.out; omega
    have hx0w : w.heap.size ≤ x0 := by rw [hx0.out]; exact Nat.le_refl _
    have hN0 : l.length ≤ l.length + 0 := by omega
    have hK0 := acc_0 l lo br
    have hu : ∀ s : ByteArray, 10 ≤ uS s := fun s => by unfold uS; omega
    clear h
    go_enter Tryz.func42, Tryz.ntmps42
    have q0_0 : W0.cell? ⟨x0, 0, none⟩ = some (.int .i64 6) := by have := C0.out.cell 0; simpa using this
    go_wp2_with fail
    rw [← hW0.out, ← hx0.out]
    refine (wnum_any 6 W0 B O g l d lo br h0 (by omega)).mono ?_
    rintro e W1 ⟨rfl, O1, hb1, l1, lo1, br1, h1, hn1, hk1⟩
    have HB1 := Lib.hid (HB0.out.trans hb1)
    have C1 := Lib.hid (bk_fr C0.out hb1 hno0.out)
    have hno1 : Hid (¬ O1 x0) := hb1.apart C0.out.lt hno0.out
    obtain ⟨hN1, hK1⟩ := acc_next hN0 hK0 hn1 hk1
    clear hb1 hn1 hk1 hN0 hK0 q0_0
    have q1_1 : W1.cell? ⟨x0, 1, none⟩ = some (.int .i64 ff) := by have := C1.out.cell 1; simpa using this
    go_wp2_with fail
    refine (wnum_any ff W1 B O1 g l1 d lo1 br1 h1 (by omega)).mono ?_
    rintro e W2 ⟨rfl, O2, hb2, l2, lo2, br2, h2, hn2, hk2⟩
    have HB2 := Lib.hid (HB1.out.trans hb2)
    have C2 := Lib.hid (bk_fr C1.out hb2 hno1.out)
    have hno2 : Hid (¬ O2 x0) := hb2.apart C1.out.lt hno1.out
    obtain ⟨hN2, hK2⟩ := acc_next hN1 hK1 hn2 hk2
    clear hb2 hn2 hk2 hN1 hK1 q1_1
    have q2_0 : W2.cell? ⟨x0, 0, none⟩ = some (.int .i64 6) := by have := C2.out.cell 0; simpa using this
    have q2_2 : W2.cell? ⟨x0, 2, none⟩ = some (.int .i64 tt) := by have := C2.out.cell 2; simpa using this
    go_wp2_with fail
    refine (wnum_any tt W2 B O2 g l2 d lo2 br2 h2 (by omega)).mono ?_
    rintro e W3 ⟨rfl, O3, hb3, l3, lo3, br3, h3, hn3, hk3⟩
    have HB3 := Lib.hid (HB2.out.trans hb3)
    have C3 := Lib.hid (bk_fr C2.out hb3 hno2.out)
    have hno3 : Hid (¬ O3 x0) := hb3.apart C2.out.lt hno2.out
    obtain ⟨hN3, hK3⟩ := acc_next hN2 hK2 hn3 hk3
    clear hb3 hn3 hk3 hN2 hK2 q2_0 q2_2
    have q3_6 : W3.cell? ⟨x0, 6, none⟩ = some (.slice Ad mid.length cd) := by have := C3.out.cell 6; simpa using this
    go_wp2_with fail
    refine (pl_tk mid hcs (.slice Ad mid.length cd) W3 B O3 g l3 d lo3 br3 h3 (ls_fr hvd HB3.out hOB) (by omega)).mono ?_
    rintro e W4 ⟨rfl, O4, hb4, l4, lo4, br4, h4, hn4, hk4⟩
    have HB4 := Lib.hid (HB3.out.trans hb4)
    have C4 := Lib.hid (bk_fr C3.out hb4 hno3.out)
    have hno4 : Hid (¬ O4 x0) := hb4.apart C3.out.lt hno3.out
    obtain ⟨hN4, hK4⟩ := acc_next hN3 hK3 hn4 hk4
    clear hb4 hn4 hk4 hN3 hK3 q3_6
    have zf : ∀ k, W4.frozen? ⟨x0, k, none⟩ = false := fun k => C4.out.frozen k
    have z4_2 := zf 2
    have z4_6 := zf 6
    have y4_2 : ∃ u, W4.cell? ⟨x0, 2, none⟩ = some u := ⟨_, by have := C4.out.cell 2; simpa using this⟩
    have y4_6 : ∃ u, W4.cell? ⟨x0, 6, none⟩ = some u := ⟨_, by have := C4.out.cell 6; simpa using this⟩
    obtain ⟨_, y4_2⟩ := y4_2
    obtain ⟨_, y4_6⟩ := y4_6
    have v4_0 : W4.cell? ⟨x0, 0, none⟩ = some (.int .i64 6) := by have := C4.out.cell 0; simpa using this
    have v4_1 : W4.cell? ⟨x0, 1, none⟩ = some (.int .i64 ff) := by have := C4.out.cell 1; simpa using this
    have v4_3 : W4.cell? ⟨x0, 3, none⟩ = some (.int .i64 gg) := by have := C4.out.cell 3; simpa using this
    have v4_4 : W4.cell? ⟨x0, 4, none⟩ = some (.int .i64 ee) := by have := C4.out.cell 4; simpa using this
    have v4_5 : W4.cell? ⟨x0, 5, none⟩ = some (.int .i64 ii) := by have := C4.out.cell 5; simpa using this
    have v4_7 : W4.cell? ⟨x0, 7, none⟩ = some (.string mt) := by have := C4.out.cell 7; simpa using this
    have v4_8 : W4.cell? ⟨x0, 8, none⟩ = some (.slice Aa ma.length ca) := by have := C4.out.cell 8; simpa using this
    have v4_9 : W4.cell? ⟨x0, 9, none⟩ = some (.string nn) := by have := C4.out.cell 9; simpa using this
    have v4_10 : W4.cell? ⟨x0, 10, none⟩ = some (.string vv) := by have := C4.out.cell 10; simpa using this
    obtain ⟨W4s, hW4s⟩ : ∃ x, Hid (x = ((W4.setCell ⟨x0, 2, none⟩ (.int .i64 0)).setCell ⟨x0, 6, none⟩ (.slice none 0 0))) := ⟨_, Lib.hid rfl⟩
    have HHB4s : Hid (Fr O O4 w W4s) := by show Fr _ _ _ _; rw [hW4s.out]; exact ((HB4.out.set (p := ⟨x0, 2, none⟩) (.inr hx0w) (.int .i64 0)).set (p := ⟨x0, 6, none⟩) (.inr hx0w) (.slice none 0 0))
    have h4s : Wr W4s B O4 g l4 d lo4 br4 := by rw [hW4s.out]; exact (wr_far (wr_far h4 hno4.out 2 (.int .i64 0)) hno4.out 6 (.slice none 0 0))
    have C4s : Hid (Bk W4s x0 62 #[.int .i64 6, .int .i64 ff, .int .i64 0, .int .i64 gg, .int .i64 ee, .int .i64 ii, .slice none 0 0, .string mt, .slice Aa ma.length ca, .string nn, .string vv]) := by show Bk _ _ _ _; rw [hW4s.out]; simpa using ((C4.out.set 2 (.int .i64 0)).set 6 (.slice none 0 0))
    go_wp2_with fail
    rw [← hW4s.out]
    refine (noSt_any 6 ff 0 gg ee ii none 0 0 mt Aa ma.length ca nn vv W4s B O4 g l4 d lo4 br4 h4s).mono ?_
    rintro e W5 ⟨rfl, O5, hb5, l5, lo5, br5, h5, hn5, hk5⟩
    have HB5 := Lib.hid (HHB4s.out.trans hb5)
    have C5 := Lib.hid (bk_fr C4s.out hb5 hno4.out)
    have hno5 : Hid (¬ O5 x0) := hb5.apart C4s.out.lt hno4.out
    obtain ⟨hN5, hK5⟩ := acc_next hN4 hK4 hn5 hk5
    clear hb5 hn5 hk5 hN4 hK4 
    go_wp2
    go_end0
    refine ⟨rfl, O5, HB5.out, l5, lo5, br5, h5, by unfold uSt; simp only; omega, fun x y => ?_⟩
    obtain ⟨x1, x2, ⟨⟨⟨⟨⟨_, _⟩, y1⟩, y2⟩, y3⟩, ⟨_, z2, z3, z4, _, z6, z7, z8, z9⟩⟩, x7⟩ := hK5.out x y
    exact ⟨x1, x2, ⟨y1, .inl ⟨.inr rfl, y2, y3, z2, z3, z4, mk0 z6 z7, size0 z8, size0 z9⟩⟩, by rw [x7]; simp [eSt, eI]⟩
  by_cases k2 : kk = 2
  · subst k2
    have hOB := fun k hk => (h.own k hk).2
    have hOl := fun k hk => (h.own k hk).1
    obtain ⟨x0, hx0⟩ : ∃ x0, Hid (x0 = w.heap.size) := ⟨_, Lib.hid rfl⟩
    obtain ⟨W0, hW0⟩ : ∃ W0, Hid (W0 = w.alloc (.cells #[.int .i64 2, .int .i64 ff, .int .i64 tt, .int .i64 gg, .int .i64 ee, .int .i64 ii, .slice Ad mid.length cd, .string mt, .slice Aa ma.length ca, .string nn, .string vv] 62)) := ⟨_, Lib.hid rfl⟩
    have HB0 : Hid (Fr O O w W0) := by show Fr _ _ _ _; rw [hW0.out]; exact (Fr.refl hOl).alloc _
    have h0 : Wr W0 B O g l d lo br := by rw [hW0.out]; exact h.alloc _
    have C0 : Hid (Bk W0 x0 62 #[.int .i64 2, .int .i64 ff, .int .i64 tt, .int .i64 gg, .int .i64 ee, .int .i64 ii, .slice Ad mid.length cd, .string mt, .slice Aa ma.length ca, .string nn, .string vv]) := by show Bk _ _ _ _; rw [hW0.out, hx0.out]; exact Bk.new _ _ _
    have hno0 : Hid (¬ O x0) := fun hh => by have := hOl _ hh; have := hx0.out; omega
    have hx0w : w.heap.size ≤ x0 := by rw [hx0.out]; exact Nat.le_refl _
    have hN0 : l.length ≤ l.length + 0 := by omega
    have hK0 := acc_0 l lo br
    have hu : ∀ s : ByteArray, 10 ≤ uS s := fun s => by unfold uS; omega
    clear h
    go_enter Tryz.func42, Tryz.ntmps42
    have q0_0 : W0.cell? ⟨x0, 0, none⟩ = some (.int .i64 2) := by have := C0.out.cell 0; simpa using this
    go_wp2_with fail
    rw [← hW0.out, ← hx0.out]
    refine (wnum_any 2 W0 B O g l d lo br h0 (by omega)).mono ?_
    rintro e W1 ⟨rfl, O1, hb1, l1, lo1, br1, h1, hn1, hk1⟩
    have HB1 := Lib.hid (HB0.out.trans hb1)
    have C1 := Lib.hid (bk_fr C0.out hb1 hno0.out)
    have hno1 : Hid (¬ O1 x0) := hb1.apart C0.out.lt hno0.out
    obtain ⟨hN1, hK1⟩ := acc_next hN0 hK0 hn1 hk1
    clear hb1 hn1 hk1 hN0 hK0 q0_0
    have q1_1 : W1.cell? ⟨x0, 1, none⟩ = some (.int .i64 ff) := by have := C1.out.cell 1; simpa using this
    go_wp2_with fail
    refine (wnum_any ff W1 B O1 g l1 d lo1 br1 h1 (by omega)).mono ?_
    rintro e W2 ⟨rfl, O2, hb2, l2, lo2, br2, h2, hn2, hk2⟩
    have HB2 := Lib.hid (HB1.out.trans hb2)
    have C2 := Lib.hid (bk_fr C1.out hb2 hno1.out)
    have hno2 : Hid (¬ O2 x0) := hb2.apart C1.out.lt hno1.out
    obtain ⟨hN2, hK2⟩ := acc_next hN1 hK1 hn2 hk2
    clear hb2 hn2 hk2 hN1 hK1 q1_1
    have q2_0 : W2.cell? ⟨x0, 0, none⟩ = some (.int .i64 2) := by have := C2.out.cell 0; simpa using this
    have q2_2 : W2.cell? ⟨x0, 2, none⟩ = some (.int .i64 tt) := by have := C2.out.cell 2; simpa using this
    go_wp2_with fail
    refine (wnum_any tt W2 B O2 g l2 d lo2 br2 h2 (by omega)).mono ?_
    rintro e W3 ⟨rfl, O3, hb3, l3, lo3, br3, h3, hn3, hk3⟩
    have HB3 := Lib.hid (HB2.out.trans hb3)
    have C3 := Lib.hid (bk_fr C2.out hb3 hno2.out)
    have hno3 : Hid (¬ O3 x0) := hb3.apart C2.out.lt hno2.out
    obtain ⟨hN3, hK3⟩ := acc_next hN2 hK2 hn3 hk3
    clear hb3 hn3 hk3 hN2 hK2 q2_0 q2_2
    have q3_3 : W3.cell? ⟨x0, 3, none⟩ = some (.int .i64 gg) := by have := C3.out.cell 3; simpa using this
    go_wp2_with fail
    refine (wnum_any gg W3 B O3 g l3 d lo3 br3 h3 (by omega)).mono ?_
    rintro e W4 ⟨rfl, O4, hb4, l4, lo4, br4, h4, hn4, hk4⟩
    have HB4 := Lib.hid (HB3.out.trans hb4)
    have C4 := Lib.hid (bk_fr C3.out hb4 hno3.out)
    have hno4 : Hid (¬ O4 x0) := hb4.apart C3.out.lt hno3.out
    obtain ⟨hN4, hK4⟩ := acc_next hN3 hK3 hn4 hk4
    clear hb4 hn4 hk4 hN3 hK3 q3_3
    have q4_4 : W4.cell? ⟨x0, 4, none⟩ = some (.int .i64 ee) := by have := C4.out.cell 4; simpa using this
    go_wp2_with fail
    refine (wnum_any ee W4 B O4 g l4 d lo4 br4 h4 (by omega)).mono ?_
    rintro e W5 ⟨rfl, O5, hb5, l5, lo5, br5, h5, hn5, hk5⟩
    have HB5 := Lib.hid (HB4.out.trans hb5)
    have C5 := Lib.hid (bk_fr C4.out hb5 hno4.out)
    have hno5 : Hid (¬ O5 x0) := hb5.apart C4.out.lt hno4.out
    obtain ⟨hN5, hK5⟩ := acc_next hN4 hK4 hn5 hk5
    clear hb5 hn5 hk5 hN4 hK4 q4_4
    have q5_5 : W5.cell? ⟨x0, 5, none⟩ = some (.int .i64 ii) := by have := C5.out.cell 5; simpa using this
    go_wp2_with fail
    refine (wnum_any ii W5 B O5 g l5 d lo5 br5 h5 (by omega)).mono ?_
    rintro e W6 ⟨rfl, O6, hb6, l6, lo6, br6, h6, hn6, hk6⟩
    have HB6 := Lib.hid (HB5.out.trans hb6)
    have C6 := Lib.hid (bk_fr C5.out hb6 hno5.out)
    have hno6 : Hid (¬ O6 x0) := hb6.apart C5.out.lt hno5.out
    obtain ⟨hN6, hK6⟩ := acc_next hN5 hK5 hn6 hk6
    clear hb6 hn6 hk6 hN5 hK5 q5_5
    have q6_6 : W6.cell? ⟨x0, 6, none⟩ = some (.slice Ad mid.length cd) := by have := C6.out.cell 6; simpa using this
    go_wp2_with fail
    refine (pl_tk mid hcs (.slice Ad mid.length cd) W6 B O6 g l6 d lo6 br6 h6 (ls_fr hvd HB6.out hOB) (by omega)).mono ?_
    rintro e W7 ⟨rfl, O7, hb7, l7, lo7, br7, h7, hn7, hk7⟩
    have HB7 := Lib.hid (HB6.out.trans hb7)
    have C7 := Lib.hid (bk_fr C6.out hb7 hno6.out)
    have hno7 : Hid (¬ O7 x0) := hb7.apart C6.out.lt hno6.out
    obtain ⟨hN7, hK7⟩ := acc_next hN6 hK6 hn7 hk7
    clear hb7 hn7 hk7 hN6 hK6 q6_6
    have zf : ∀ k, W7.frozen? ⟨x0, k, none⟩ = false := fun k => C7.out.frozen k
    have z7_2 := zf 2
    have z7_3 := zf 3
    have z7_4 := zf 4
    have z7_5 := zf 5
    have z7_6 := zf 6
    have y7_2 : ∃ u, W7.cell? ⟨x0, 2, none⟩ = some u := ⟨_, by have := C7.out.cell 2; simpa using this⟩
    have y7_3 : ∃ u, W7.cell? ⟨x0, 3, none⟩ = some u := ⟨_, by have := C7.out.cell 3; simpa using this⟩
    have y7_4 : ∃ u, W7.cell? ⟨x0, 4, none⟩ = some u := ⟨_, by have := C7.out.cell 4; simpa using this⟩
    have y7_5 : ∃ u, W7.cell? ⟨x0, 5, none⟩ = some u := ⟨_, by have := C7.out.cell 5; simpa using this⟩
    have y7_6 : ∃ u, W7.cell? ⟨x0, 6, none⟩ = some u := ⟨_, by have := C7.out.cell 6; simpa using this⟩
    obtain ⟨_, y7_2⟩ := y7_2
    obtain ⟨_, y7_3⟩ := y7_3
    obtain ⟨_, y7_4⟩ := y7_4
    obtain ⟨_, y7_5⟩ := y7_5
    obtain ⟨_, y7_6⟩ := y7_6
    have v7_0 : W7.cell? ⟨x0, 0, none⟩ = some (.int .i64 2) := by have := C7.out.cell 0; simpa using this
    have v7_1 : W7.cell? ⟨x0, 1, none⟩ = some (.int .i64 ff) := by have := C7.out.cell 1; simpa using this
    have v7_7 : W7.cell? ⟨x0, 7, none⟩ = some (.string mt) := by have := C7.out.cell 7; simpa using this
    have v7_8 : W7.cell? ⟨x0, 8, none⟩ = some (.slice Aa ma.length ca) := by have := C7.out.cell 8; simpa using this
    have v7_9 : W7.cell? ⟨x0, 9, none⟩ = some (.string nn) := by have := C7.out.cell 9; simpa using this
    have v7_10 : W7.cell? ⟨x0, 10, none⟩ = some (.string vv) := by have := C7.out.cell 10; simpa using this
    obtain ⟨W7s, hW7s⟩ : ∃ x, Hid (x = (((((W7.setCell ⟨x0, 2, none⟩ (.int .i64 0)).setCell ⟨x0, 3, none⟩ (.int .i64 0)).setCell ⟨x0, 4, none⟩ (.int .i64 0)).setCell ⟨x0, 5, none⟩ (.int .i64 0)).setCell ⟨x0, 6, none⟩ (.slice none 0 0))) := ⟨_, Lib.hid rfl⟩
    have HHB7s : Hid (Fr O O7 w W7s) := by show Fr _ _ _ _; rw [hW7s.out]; exact (((((HB7.out.set (p := ⟨x0, 2, none⟩) (.inr hx0w) (.int .i64 0)).set (p := ⟨x0, 3, none⟩) (.inr hx0w) (.int .i64 0)).set (p := ⟨x0, 4, none⟩) (.inr hx0w) (.int .i64 0)).set (p := ⟨x0, 5, none⟩) (.inr hx0w) (.int .i64 0)).set (p := ⟨x0, 6, none⟩) (.inr hx0w) (.slice none 0 0))
    have h7s : Wr W7s B O7 g l7 d lo7 br7 := by rw [hW7s.out]; exact (wr_far (wr_far (wr_far (wr_far (wr_far h7 hno7.out 2 (.int .i64 0)) hno7.out 3 (.int .i64 0)) hno7.out 4 (.int .i64 0)) hno7.out 5 (.int .i64 0)) hno7.out 6 (.slice none 0 0))
    have C7s : Hid (Bk W7s x0 62 #[.int .i64 2, .int .i64 ff, .int .i64 0, .int .i64 0, .int .i64 0, .int .i64 0, .slice none 0 0, .string mt, .slice Aa ma.length ca, .string nn, .string vv]) := by show Bk _ _ _ _; rw [hW7s.out]; simpa using (((((C7.out.set 2 (.int .i64 0)).set 3 (.int .i64 0)).set 4 (.int .i64 0)).set 5 (.int .i64 0)).set 6 (.slice none 0 0))
    go_wp2_with fail
    rw [← hW7s.out]
    refine (noSt_any 2 ff 0 0 0 0 none 0 0 mt Aa ma.length ca nn vv W7s B O7 g l7 d lo7 br7 h7s).mono ?_
    rintro e W8 ⟨rfl, O8, hb8, l8, lo8, br8, h8, hn8, hk8⟩
    have HB8 := Lib.hid (HHB7s.out.trans hb8)
    have C8 := Lib.hid (bk_fr C7s.out hb8 hno7.out)
    have hno8 : Hid (¬ O8 x0) := hb8.apart C7s.out.lt hno7.out
    obtain ⟨hN8, hK8⟩ := acc_next hN7 hK7 hn8 hk8
    clear hb8 hn8 hk8 hN7 hK7 
    go_wp2
    go_end0
    refine ⟨rfl, O8, HB8.out, l8, lo8, br8, h8, by unfold uSt; simp only; omega, fun x y => ?_⟩
    obtain ⟨x1, x2, ⟨⟨⟨⟨⟨⟨⟨⟨_, _⟩, y1⟩, y2⟩, y3⟩, y4⟩, y5⟩, y6⟩, ⟨_, _, _, _, _, z6, z7, z8, z9⟩⟩, x7⟩ := hK8.out x y
    exact ⟨x1, x2, ⟨y1, .inr (.inl ⟨rfl, y2, y3, y4, y5, y6, mk0 z6 z7, size0 z8, size0 z9⟩)⟩, by rw [x7]; simp [eSt, eI]⟩
  by_cases k3 : kk = 3
  · subst k3
    have hOB := fun k hk => (h.own k hk).2
    have hOl := fun k hk => (h.own k hk).1
    obtain ⟨x0, hx0⟩ : ∃ x0, Hid (x0 = w.heap.size) := ⟨_, Lib.hid rfl⟩
    obtain ⟨W0, hW0⟩ : ∃ W0, Hid (W0 = w.alloc (.cells #[.int .i64 3, .int .i64 ff, .int .i64 tt, .int .i64 gg, .int .i64 ee, .int .i64 ii, .slice Ad mid.length cd, .string mt, .slice Aa ma.length ca, .string nn, .string vv] 62)) := ⟨_, Lib.hid rfl⟩
    have HB0 : Hid (Fr O O w W0) := by show Fr _ _ _ _; rw [hW0.out]; exact (Fr.refl hOl).alloc _
    have h0 : Wr W0 B O g l d lo br := by rw [hW0.out]; exact h.alloc _
    have C0 : Hid (Bk W0 x0 62 #[.int .i64 3, .int .i64 ff, .int .i64 tt, .int .i64 gg, .int .i64 ee, .int .i64 ii, .slice Ad mid.length cd, .string mt, .slice Aa ma.length ca, .string nn, .string vv]) := by show Bk _ _ _ _; rw [hW0.out, hx0.out]; exact Bk.new _ _ _
    have hno0 : Hid (¬ O x0) := fun hh => by have := hOl _ hh; have := hx0.out; omega
    have hx0w : w.heap.size ≤ x0 := by rw [hx0.out]; exact Nat.le_refl _
    have hN0 : l.length ≤ l.length + 0 := by omega
    have hK0 := acc_0 l lo br
    have hu : ∀ s : ByteArray, 10 ≤ uS s := fun s => by unfold uS; omega
    clear h
    go_enter Tryz.func42, Tryz.ntmps42
    have q0_0 : W0.cell? ⟨x0, 0, none⟩ = some (.int .i64 3) := by have := C0.out.cell 0; simpa using this
    go_wp2_with fail
    rw [← hW0.out, ← hx0.out]
    refine (wnum_any 3 W0 B O g l d lo br h0 (by omega)).mono ?_
    rintro e W1 ⟨rfl, O1, hb1, l1, lo1, br1, h1, hn1, hk1⟩
    have HB1 := Lib.hid (HB0.out.trans hb1)
    have C1 := Lib.hid (bk_fr C0.out hb1 hno0.out)
    have hno1 : Hid (¬ O1 x0) := hb1.apart C0.out.lt hno0.out
    obtain ⟨hN1, hK1⟩ := acc_next hN0 hK0 hn1 hk1
    clear hb1 hn1 hk1 hN0 hK0 q0_0
    have q1_1 : W1.cell? ⟨x0, 1, none⟩ = some (.int .i64 ff) := by have := C1.out.cell 1; simpa using this
    go_wp2_with fail
    refine (wnum_any ff W1 B O1 g l1 d lo1 br1 h1 (by omega)).mono ?_
    rintro e W2 ⟨rfl, O2, hb2, l2, lo2, br2, h2, hn2, hk2⟩
    have HB2 := Lib.hid (HB1.out.trans hb2)
    have C2 := Lib.hid (bk_fr C1.out hb2 hno1.out)
    have hno2 : Hid (¬ O2 x0) := hb2.apart C1.out.lt hno1.out
    obtain ⟨hN2, hK2⟩ := acc_next hN1 hK1 hn2 hk2
    clear hb2 hn2 hk2 hN1 hK1 q1_1
    have q2_0 : W2.cell? ⟨x0, 0, none⟩ = some (.int .i64 3) := by have := C2.out.cell 0; simpa using this
    have q2_2 : W2.cell? ⟨x0, 2, none⟩ = some (.int .i64 tt) := by have := C2.out.cell 2; simpa using this
    go_wp2_with fail
    refine (wnum_any tt W2 B O2 g l2 d lo2 br2 h2 (by omega)).mono ?_
    rintro e W3 ⟨rfl, O3, hb3, l3, lo3, br3, h3, hn3, hk3⟩
    have HB3 := Lib.hid (HB2.out.trans hb3)
    have C3 := Lib.hid (bk_fr C2.out hb3 hno2.out)
    have hno3 : Hid (¬ O3 x0) := hb3.apart C2.out.lt hno2.out
    obtain ⟨hN3, hK3⟩ := acc_next hN2 hK2 hn3 hk3
    clear hb3 hn3 hk3 hN2 hK2 q2_0 q2_2
    have q3_7 : W3.cell? ⟨x0, 7, none⟩ = some (.string mt) := by have := C3.out.cell 7; simpa using this
    have q3_8 : W3.cell? ⟨x0, 8, none⟩ = some (.slice Aa ma.length ca) := by have := C3.out.cell 8; simpa using this
    go_wp2_with fail
    refine (wmark_any ⟨mt, ma⟩ (.slice Aa ma.length ca) W3 B O3 g l3 d lo3 br3 h3 (ls_fr hva HB3.out hOB) (by omega)).mono ?_
    rintro e W4 ⟨rfl, O4, hb4, l4, lo4, br4, h4, hn4, hk4⟩
    have HB4 := Lib.hid (HB3.out.trans hb4)
    have C4 := Lib.hid (bk_fr C3.out hb4 hno3.out)
    have hno4 : Hid (¬ O4 x0) := hb4.apart C3.out.lt hno3.out
    obtain ⟨hN4, hK4⟩ := acc_next hN3 hK3 hn4 hk4
    clear hb4 hn4 hk4 hN3 hK3 q3_7 q3_8
    have zf : ∀ k, W4.frozen? ⟨x0, k, none⟩ = false := fun k => C4.out.frozen k
    have z4_2 := zf 2
    have z4_7 := zf 7
    have z4_8 := zf 8
    have y4_2 : ∃ u, W4.cell? ⟨x0, 2, none⟩ = some u := ⟨_, by have := C4.out.cell 2; simpa using this⟩
    have y4_7 : ∃ u, W4.cell? ⟨x0, 7, none⟩ = some u := ⟨_, by have := C4.out.cell 7; simpa using this⟩
    have y4_8 : ∃ u, W4.cell? ⟨x0, 8, none⟩ = some u := ⟨_, by have := C4.out.cell 8; simpa using this⟩
    obtain ⟨_, y4_2⟩ := y4_2
    obtain ⟨_, y4_7⟩ := y4_7
    obtain ⟨_, y4_8⟩ := y4_8
    have v4_0 : W4.cell? ⟨x0, 0, none⟩ = some (.int .i64 3) := by have := C4.out.cell 0; simpa using this
    have v4_1 : W4.cell? ⟨x0, 1, none⟩ = some (.int .i64 ff) := by have := C4.out.cell 1; simpa using this
    have v4_3 : W4.cell? ⟨x0, 3, none⟩ = some (.int .i64 gg) := by have := C4.out.cell 3; simpa using this
    have v4_4 : W4.cell? ⟨x0, 4, none⟩ = some (.int .i64 ee) := by have := C4.out.cell 4; simpa using this
    have v4_5 : W4.cell? ⟨x0, 5, none⟩ = some (.int .i64 ii) := by have := C4.out.cell 5; simpa using this
    have v4_6 : W4.cell? ⟨x0, 6, none⟩ = some (.slice Ad mid.length cd) := by have := C4.out.cell 6; simpa using this
    have v4_9 : W4.cell? ⟨x0, 9, none⟩ = some (.string nn) := by have := C4.out.cell 9; simpa using this
    have v4_10 : W4.cell? ⟨x0, 10, none⟩ = some (.string vv) := by have := C4.out.cell 10; simpa using this
    obtain ⟨W4s, hW4s⟩ : ∃ x, Hid (x = (((W4.setCell ⟨x0, 2, none⟩ (.int .i64 0)).setCell ⟨x0, 7, none⟩ (.string ⟨#[]⟩)).setCell ⟨x0, 8, none⟩ (.slice none 0 0))) := ⟨_, Lib.hid rfl⟩
    have HHB4s : Hid (Fr O O4 w W4s) := by show Fr _ _ _ _; rw [hW4s.out]; exact (((HB4.out.set (p := ⟨x0, 2, none⟩) (.inr hx0w) (.int .i64 0)).set (p := ⟨x0, 7, none⟩) (.inr hx0w) (.string ⟨#[]⟩)).set (p := ⟨x0, 8, none⟩) (.inr hx0w) (.slice none 0 0))
    have h4s : Wr W4s B O4 g l4 d lo4 br4 := by rw [hW4s.out]; exact (wr_far (wr_far (wr_far h4 hno4.out 2 (.int .i64 0)) hno4.out 7 (.string ⟨#[]⟩)) hno4.out 8 (.slice none 0 0))
    have C4s : Hid (Bk W4s x0 62 #[.int .i64 3, .int .i64 ff, .int .i64 0, .int .i64 gg, .int .i64 ee, .int .i64 ii, .slice Ad mid.length cd, .string ⟨#[]⟩, .slice none 0 0, .string nn, .string vv]) := by show Bk _ _ _ _; rw [hW4s.out]; simpa using (((C4.out.set 2 (.int .i64 0)).set 7 (.string ⟨#[]⟩)).set 8 (.slice none 0 0))
    go_wp2_with fail
    rw [← hW4s.out]
    refine (noSt_any 3 ff 0 gg ee ii Ad mid.length cd ⟨#[]⟩ none 0 0 nn vv W4s B O4 g l4 d lo4 br4 h4s).mono ?_
    rintro e W5 ⟨rfl, O5, hb5, l5, lo5, br5, h5, hn5, hk5⟩
    have HB5 := Lib.hid (HHB4s.out.trans hb5)
    have C5 := Lib.hid (bk_fr C4s.out hb5 hno4.out)
    have hno5 : Hid (¬ O5 x0) := hb5.apart C4s.out.lt hno4.out
    obtain ⟨hN5, hK5⟩ := acc_next hN4 hK4 hn5 hk5
    clear hb5 hn5 hk5 hN4 hK4 
    go_wp2
    go_end0
    refine ⟨rfl, O5, HB5.out, l5, lo5, br5, h5, by unfold uSt; simp only; omega, fun x y => ?_⟩
    obtain ⟨x1, x2, ⟨⟨⟨⟨⟨_, _⟩, y1⟩, y2⟩, y3⟩, ⟨_, z2, z3, z4, z5, _, _, z8, z9⟩⟩, x7⟩ := hK5.out x y
    exact ⟨x1, x2, ⟨y1, .inr (.inr (.inl ⟨.inl rfl, y2, y3, z2, z3, z4, List.eq_nil_of_length_eq_zero z5, size0 z8, size0 z9⟩))⟩, by rw [x7]; simp [eSt, eI]⟩
  by_cases k4 : kk = 4
  · subst k4
    have hOB := fun k hk => (h.own k hk).2
    have hOl := fun k hk => (h.own k hk).1
    obtain ⟨x0, hx0⟩ : ∃ x0, Hid (x0 = w.heap.size) := ⟨_, Lib.hid rfl⟩
    obtain ⟨W0, hW0⟩ : ∃ W0, Hid (W0 = w.alloc (.cells #[.int .i64 4, .int .i64 ff, .int .i64 tt, .int .i64 gg, .int .i64 ee, .int .i64 ii, .slice Ad mid.length cd, .string mt, .slice Aa ma.length ca, .string nn, .string vv] 62)) := ⟨_, Lib.hid rfl⟩
    have HB0 : Hid (Fr O O w W0) := by show Fr _ _ _ _; rw [hW0.out]; exact (Fr.refl hOl).alloc _
    have h0 : Wr W0 B O g l d lo br := by rw [hW0.out]; exact h.alloc _
    have C0 : Hid (Bk W0 x0 62 #[.int .i64 4, .int .i64 ff, .int .i64 tt, .int .i64 gg, .int .i64 ee, .int .i64 ii, .slice Ad mid.length cd, .string mt, .slice Aa ma.length ca, .string nn, .string vv]) := by show Bk _ _ _ _; rw [hW0.out, hx0.out]; exact Bk.new _ _ _
    have hno0 : Hid (¬ O x0) := fun hh => by have := hOl _ hh; have := hx0.out; omega
    have hx0w : w.heap.size ≤ x0 := by rw [hx0.out]; exact Nat.le_refl _
    have hN0 : l.length ≤ l.length + 0 := by omega
    have hK0 := acc_0 l lo br
    have hu : ∀ s : ByteArray, 10 ≤ uS s := fun s => by unfold uS; omega
    clear h
    go_enter Tryz.func42, Tryz.ntmps42
    have q0_0 : W0.cell? ⟨x0, 0, none⟩ = some (.int .i64 4) := by have := C0.out.cell 0; simpa using this
    go_wp2_with fail
    rw [← hW0.out, ← hx0.out]
    refine (wnum_any 4 W0 B O g l d lo br h0 (by omega)).mono ?_
    rintro e W1 ⟨rfl, O1, hb1, l1, lo1, br1, h1, hn1, hk1⟩
    have HB1 := Lib.hid (HB0.out.trans hb1)
    have C1 := Lib.hid (bk_fr C0.out hb1 hno0.out)
    have hno1 : Hid (¬ O1 x0) := hb1.apart C0.out.lt hno0.out
    obtain ⟨hN1, hK1⟩ := acc_next hN0 hK0 hn1 hk1
    clear hb1 hn1 hk1 hN0 hK0 q0_0
    have q1_1 : W1.cell? ⟨x0, 1, none⟩ = some (.int .i64 ff) := by have := C1.out.cell 1; simpa using this
    go_wp2_with fail
    refine (wnum_any ff W1 B O1 g l1 d lo1 br1 h1 (by omega)).mono ?_
    rintro e W2 ⟨rfl, O2, hb2, l2, lo2, br2, h2, hn2, hk2⟩
    have HB2 := Lib.hid (HB1.out.trans hb2)
    have C2 := Lib.hid (bk_fr C1.out hb2 hno1.out)
    have hno2 : Hid (¬ O2 x0) := hb2.apart C1.out.lt hno1.out
    obtain ⟨hN2, hK2⟩ := acc_next hN1 hK1 hn2 hk2
    clear hb2 hn2 hk2 hN1 hK1 q1_1
    have q2_0 : W2.cell? ⟨x0, 0, none⟩ = some (.int .i64 4) := by have := C2.out.cell 0; simpa using this
    have q2_2 : W2.cell? ⟨x0, 2, none⟩ = some (.int .i64 tt) := by have := C2.out.cell 2; simpa using this
    go_wp2_with fail
    refine (wnum_any tt W2 B O2 g l2 d lo2 br2 h2 (by omega)).mono ?_
    rintro e W3 ⟨rfl, O3, hb3, l3, lo3, br3, h3, hn3, hk3⟩
    have HB3 := Lib.hid (HB2.out.trans hb3)
    have C3 := Lib.hid (bk_fr C2.out hb3 hno2.out)
    have hno3 : Hid (¬ O3 x0) := hb3.apart C2.out.lt hno2.out
    obtain ⟨hN3, hK3⟩ := acc_next hN2 hK2 hn3 hk3
    clear hb3 hn3 hk3 hN2 hK2 q2_0 q2_2
    have q3_7 : W3.cell? ⟨x0, 7, none⟩ = some (.string mt) := by have := C3.out.cell 7; simpa using this
    have q3_8 : W3.cell? ⟨x0, 8, none⟩ = some (.slice Aa ma.length ca) := by have := C3.out.cell 8; simpa using this
    go_wp2_with fail
    refine (wmark_any ⟨mt, ma⟩ (.slice Aa ma.length ca) W3 B O3 g l3 d lo3 br3 h3 (ls_fr hva HB3.out hOB) (by omega)).mono ?_
    rintro e W4 ⟨rfl, O4, hb4, l4, lo4, br4, h4, hn4, hk4⟩
    have HB4 := Lib.hid (HB3.out.trans hb4)
    have C4 := Lib.hid (bk_fr C3.out hb4 hno3.out)
    have hno4 : Hid (¬ O4 x0) := hb4.apart C3.out.lt hno3.out
    obtain ⟨hN4, hK4⟩ := acc_next hN3 hK3 hn4 hk4
    clear hb4 hn4 hk4 hN3 hK3 q3_7 q3_8
    have zf : ∀ k, W4.frozen? ⟨x0, k, none⟩ = false := fun k => C4.out.frozen k
    have z4_2 := zf 2
    have z4_7 := zf 7
    have z4_8 := zf 8
    have y4_2 : ∃ u, W4.cell? ⟨x0, 2, none⟩ = some u := ⟨_, by have := C4.out.cell 2; simpa using this⟩
    have y4_7 : ∃ u, W4.cell? ⟨x0, 7, none⟩ = some u := ⟨_, by have := C4.out.cell 7; simpa using this⟩
    have y4_8 : ∃ u, W4.cell? ⟨x0, 8, none⟩ = some u := ⟨_, by have := C4.out.cell 8; simpa using this⟩
    obtain ⟨_, y4_2⟩ := y4_2
    obtain ⟨_, y4_7⟩ := y4_7
    obtain ⟨_, y4_8⟩ := y4_8
    have v4_0 : W4.cell? ⟨x0, 0, none⟩ = some (.int .i64 4) := by have := C4.out.cell 0; simpa using this
    have v4_1 : W4.cell? ⟨x0, 1, none⟩ = some (.int .i64 ff) := by have := C4.out.cell 1; simpa using this
    have v4_3 : W4.cell? ⟨x0, 3, none⟩ = some (.int .i64 gg) := by have := C4.out.cell 3; simpa using this
    have v4_4 : W4.cell? ⟨x0, 4, none⟩ = some (.int .i64 ee) := by have := C4.out.cell 4; simpa using this
    have v4_5 : W4.cell? ⟨x0, 5, none⟩ = some (.int .i64 ii) := by have := C4.out.cell 5; simpa using this
    have v4_6 : W4.cell? ⟨x0, 6, none⟩ = some (.slice Ad mid.length cd) := by have := C4.out.cell 6; simpa using this
    have v4_9 : W4.cell? ⟨x0, 9, none⟩ = some (.string nn) := by have := C4.out.cell 9; simpa using this
    have v4_10 : W4.cell? ⟨x0, 10, none⟩ = some (.string vv) := by have := C4.out.cell 10; simpa using this
    obtain ⟨W4s, hW4s⟩ : ∃ x, Hid (x = (((W4.setCell ⟨x0, 2, none⟩ (.int .i64 0)).setCell ⟨x0, 7, none⟩ (.string ⟨#[]⟩)).setCell ⟨x0, 8, none⟩ (.slice none 0 0))) := ⟨_, Lib.hid rfl⟩
    have HHB4s : Hid (Fr O O4 w W4s) := by show Fr _ _ _ _; rw [hW4s.out]; exact (((HB4.out.set (p := ⟨x0, 2, none⟩) (.inr hx0w) (.int .i64 0)).set (p := ⟨x0, 7, none⟩) (.inr hx0w) (.string ⟨#[]⟩)).set (p := ⟨x0, 8, none⟩) (.inr hx0w) (.slice none 0 0))
    have h4s : Wr W4s B O4 g l4 d lo4 br4 := by rw [hW4s.out]; exact (wr_far (wr_far (wr_far h4 hno4.out 2 (.int .i64 0)) hno4.out 7 (.string ⟨#[]⟩)) hno4.out 8 (.slice none 0 0))
    have C4s : Hid (Bk W4s x0 62 #[.int .i64 4, .int .i64 ff, .int .i64 0, .int .i64 gg, .int .i64 ee, .int .i64 ii, .slice Ad mid.length cd, .string ⟨#[]⟩, .slice none 0 0, .string nn, .string vv]) := by show Bk _ _ _ _; rw [hW4s.out]; simpa using (((C4.out.set 2 (.int .i64 0)).set 7 (.string ⟨#[]⟩)).set 8 (.slice none 0 0))
    go_wp2_with fail
    rw [← hW4s.out]
    refine (noSt_any 4 ff 0 gg ee ii Ad mid.length cd ⟨#[]⟩ none 0 0 nn vv W4s B O4 g l4 d lo4 br4 h4s).mono ?_
    rintro e W5 ⟨rfl, O5, hb5, l5, lo5, br5, h5, hn5, hk5⟩
    have HB5 := Lib.hid (HHB4s.out.trans hb5)
    have C5 := Lib.hid (bk_fr C4s.out hb5 hno4.out)
    have hno5 : Hid (¬ O5 x0) := hb5.apart C4s.out.lt hno4.out
    obtain ⟨hN5, hK5⟩ := acc_next hN4 hK4 hn5 hk5
    clear hb5 hn5 hk5 hN4 hK4 
    go_wp2
    go_end0
    refine ⟨rfl, O5, HB5.out, l5, lo5, br5, h5, by unfold uSt; simp only; omega, fun x y => ?_⟩
    obtain ⟨x1, x2, ⟨⟨⟨⟨⟨_, _⟩, y1⟩, y2⟩, y3⟩, ⟨_, z2, z3, z4, z5, _, _, z8, z9⟩⟩, x7⟩ := hK5.out x y
    exact ⟨x1, x2, ⟨y1, .inr (.inr (.inl ⟨.inr rfl, y2, y3, z2, z3, z4, List.eq_nil_of_length_eq_zero z5, size0 z8, size0 z9⟩))⟩, by rw [x7]; simp [eSt, eI]⟩
  by_cases k5 : kk = 5
  · subst k5
    have hOB := fun k hk => (h.own k hk).2
    have hOl := fun k hk => (h.own k hk).1
    obtain ⟨x0, hx0⟩ : ∃ x0, Hid (x0 = w.heap.size) := ⟨_, Lib.hid rfl⟩
    obtain ⟨W0, hW0⟩ : ∃ W0, Hid (W0 = w.alloc (.cells #[.int .i64 5, .int .i64 ff, .int .i64 tt, .int .i64 gg, .int .i64 ee, .int .i64 ii, .slice Ad mid.length cd, .string mt, .slice Aa ma.length ca, .string nn, .string vv] 62)) := ⟨_, Lib.hid rfl⟩
    have HB0 : Hid (Fr O O w W0) := by show Fr _ _ _ _; rw [hW0.out]; exact (Fr.refl hOl).alloc _
    have h0 : Wr W0 B O g l d lo br := by rw [hW0.out]; exact h.alloc _
    have C0 : Hid (Bk W0 x0 62 #[.int .i64 5, .int .i64 ff, .int .i64 tt, .int .i64 gg, .int .i64 ee, .int .i64 ii, .slice Ad mid.length cd, .string mt, .slice Aa ma.length ca, .string nn, .string vv]) := by show Bk _ _ _ _; rw [hW0.out, hx0.out]; exact Bk.new _ _ _
    have hno0 : Hid (¬ O x0) := fun hh => by have := hOl _ hh; have := hx0.out; omega
    have hx0w : w.heap.size ≤ x0 := by rw [hx0.out]; exact Nat.le_refl _
    have hN0 : l.length ≤ l.length + 0 := by omega
    have hK0 := acc_0 l lo br
    have hu : ∀ s : ByteArray, 10 ≤ uS s := fun s => by unfold uS; omega
    clear h
    go_enter Tryz.func42, Tryz.ntmps42
    have q0_0 : W0.cell? ⟨x0, 0, none⟩ = some (.int .i64 5) := by have := C0.out.cell 0; simpa using this
    go_wp2_with fail
    rw [← hW0.out, ← hx0.out]
    refine (wnum_any 5 W0 B O g l d lo br h0 (by omega)).mono ?_
    rintro e W1 ⟨rfl, O1, hb1, l1, lo1, br1, h1, hn1, hk1⟩
    have HB1 := Lib.hid (HB0.out.trans hb1)
    have C1 := Lib.hid (bk_fr C0.out hb1 hno0.out)
    have hno1 : Hid (¬ O1 x0) := hb1.apart C0.out.lt hno0.out
    obtain ⟨hN1, hK1⟩ := acc_next hN0 hK0 hn1 hk1
    clear hb1 hn1 hk1 hN0 hK0 q0_0
    have q1_1 : W1.cell? ⟨x0, 1, none⟩ = some (.int .i64 ff) := by have := C1.out.cell 1; simpa using this
    go_wp2_with fail
    refine (wnum_any ff W1 B O1 g l1 d lo1 br1 h1 (by omega)).mono ?_
    rintro e W2 ⟨rfl, O2, hb2, l2, lo2, br2, h2, hn2, hk2⟩
    have HB2 := Lib.hid (HB1.out.trans hb2)
    have C2 := Lib.hid (bk_fr C1.out hb2 hno1.out)
    have hno2 : Hid (¬ O2 x0) := hb2.apart C1.out.lt hno1.out
    obtain ⟨hN2, hK2⟩ := acc_next hN1 hK1 hn2 hk2
    clear hb2 hn2 hk2 hN1 hK1 q1_1
    have q2_0 : W2.cell? ⟨x0, 0, none⟩ = some (.int .i64 5) := by have := C2.out.cell 0; simpa using this
    have q2_9 : W2.cell? ⟨x0, 9, none⟩ = some (.string nn) := by have := C2.out.cell 9; simpa using this
    go_wp2_with fail
    refine (wtext_any nn W2 B O2 g l2 d lo2 br2 h2 (by omega)).mono ?_
    rintro e W3 ⟨rfl, O3, hb3, l3, lo3, br3, h3, hn3, hk3⟩
    have HB3 := Lib.hid (HB2.out.trans hb3)
    have C3 := Lib.hid (bk_fr C2.out hb3 hno2.out)
    have hno3 : Hid (¬ O3 x0) := hb3.apart C2.out.lt hno2.out
    obtain ⟨hN3, hK3⟩ := acc_next hN2 hK2 hn3 hk3
    clear hb3 hn3 hk3 hN2 hK2 q2_0 q2_9
    have q3_10 : W3.cell? ⟨x0, 10, none⟩ = some (.string vv) := by have := C3.out.cell 10; simpa using this
    go_wp2_with fail
    refine (wtext_any vv W3 B O3 g l3 d lo3 br3 h3 (by omega)).mono ?_
    rintro e W4 ⟨rfl, O4, hb4, l4, lo4, br4, h4, hn4, hk4⟩
    have HB4 := Lib.hid (HB3.out.trans hb4)
    have C4 := Lib.hid (bk_fr C3.out hb4 hno3.out)
    have hno4 : Hid (¬ O4 x0) := hb4.apart C3.out.lt hno3.out
    obtain ⟨hN4, hK4⟩ := acc_next hN3 hK3 hn4 hk4
    clear hb4 hn4 hk4 hN3 hK3 q3_10
    have zf : ∀ k, W4.frozen? ⟨x0, k, none⟩ = false := fun k => C4.out.frozen k
    have z4_9 := zf 9
    have z4_10 := zf 10
    have y4_9 : ∃ u, W4.cell? ⟨x0, 9, none⟩ = some u := ⟨_, by have := C4.out.cell 9; simpa using this⟩
    have y4_10 : ∃ u, W4.cell? ⟨x0, 10, none⟩ = some u := ⟨_, by have := C4.out.cell 10; simpa using this⟩
    obtain ⟨_, y4_9⟩ := y4_9
    obtain ⟨_, y4_10⟩ := y4_10
    have v4_0 : W4.cell? ⟨x0, 0, none⟩ = some (.int .i64 5) := by have := C4.out.cell 0; simpa using this
    have v4_1 : W4.cell? ⟨x0, 1, none⟩ = some (.int .i64 ff) := by have := C4.out.cell 1; simpa using this
    have v4_2 : W4.cell? ⟨x0, 2, none⟩ = some (.int .i64 tt) := by have := C4.out.cell 2; simpa using this
    have v4_3 : W4.cell? ⟨x0, 3, none⟩ = some (.int .i64 gg) := by have := C4.out.cell 3; simpa using this
    have v4_4 : W4.cell? ⟨x0, 4, none⟩ = some (.int .i64 ee) := by have := C4.out.cell 4; simpa using this
    have v4_5 : W4.cell? ⟨x0, 5, none⟩ = some (.int .i64 ii) := by have := C4.out.cell 5; simpa using this
    have v4_6 : W4.cell? ⟨x0, 6, none⟩ = some (.slice Ad mid.length cd) := by have := C4.out.cell 6; simpa using this
    have v4_7 : W4.cell? ⟨x0, 7, none⟩ = some (.string mt) := by have := C4.out.cell 7; simpa using this
    have v4_8 : W4.cell? ⟨x0, 8, none⟩ = some (.slice Aa ma.length ca) := by have := C4.out.cell 8; simpa using this
    obtain ⟨W4s, hW4s⟩ : ∃ x, Hid (x = ((W4.setCell ⟨x0, 9, none⟩ (.string ⟨#[]⟩)).setCell ⟨x0, 10, none⟩ (.string ⟨#[]⟩))) := ⟨_, Lib.hid rfl⟩
    have HHB4s : Hid (Fr O O4 w W4s) := by show Fr _ _ _ _; rw [hW4s.out]; exact ((HB4.out.set (p := ⟨x0, 9, none⟩) (.inr hx0w) (.string ⟨#[]⟩)).set (p := ⟨x0, 10, none⟩) (.inr hx0w) (.string ⟨#[]⟩))
    have h4s : Wr W4s B O4 g l4 d lo4 br4 := by rw [hW4s.out]; exact (wr_far (wr_far h4 hno4.out 9 (.string ⟨#[]⟩)) hno4.out 10 (.string ⟨#[]⟩))
    have C4s : Hid (Bk W4s x0 62 #[.int .i64 5, .int .i64 ff, .int .i64 tt, .int .i64 gg, .int .i64 ee, .int .i64 ii, .slice Ad mid.length cd, .string mt, .slice Aa ma.length ca, .string ⟨#[]⟩, .string ⟨#[]⟩]) := by show Bk _ _ _ _; rw [hW4s.out]; simpa using ((C4.out.set 9 (.string ⟨#[]⟩)).set 10 (.string ⟨#[]⟩))
    go_wp2_with fail
    rw [← hW4s.out]
    refine (noSt_any 5 ff tt gg ee ii Ad mid.length cd mt Aa ma.length ca ⟨#[]⟩ ⟨#[]⟩ W4s B O4 g l4 d lo4 br4 h4s).mono ?_
    rintro e W5 ⟨rfl, O5, hb5, l5, lo5, br5, h5, hn5, hk5⟩
    have HB5 := Lib.hid (HHB4s.out.trans hb5)
    have C5 := Lib.hid (bk_fr C4s.out hb5 hno4.out)
    have hno5 : Hid (¬ O5 x0) := hb5.apart C4s.out.lt hno4.out
    obtain ⟨hN5, hK5⟩ := acc_next hN4 hK4 hn5 hk5
    clear hb5 hn5 hk5 hN4 hK4 
    go_wp2
    go_end0
    refine ⟨rfl, O5, HB5.out, l5, lo5, br5, h5, by unfold uSt; simp only; omega, fun x y => ?_⟩
    obtain ⟨x1, x2, ⟨⟨⟨⟨⟨_, _⟩, y1⟩, y2⟩, y3⟩, ⟨z1, z2, z3, z4, z5, z6, z7, _, _⟩⟩, x7⟩ := hK5.out x y
    exact ⟨x1, x2, ⟨y1, .inr (.inr (.inr ⟨rfl, y2, y3, z1, z2, z3, z4, List.eq_nil_of_length_eq_zero z5, mk0 z6 z7⟩))⟩, by rw [x7]; simp [eSt, eI]⟩
  have e1 : (kk == 1) = false := by simpa using k1
  have e6 : (kk == 6) = false := by simpa using k6
  have e2 : (kk == 2) = false := by simpa using k2
  have e3 : (kk == 3) = false := by simpa using k3
  have e4 : (kk == 4) = false := by simpa using k4
  have e5 : (kk == 5) = false := by simpa using k5
  have hOB := fun k hk => (h.own k hk).2
  have hOl := fun k hk => (h.own k hk).1
  obtain ⟨x0, hx0⟩ : ∃ x0, Hid (x0 = w.heap.size) := ⟨_, Lib.hid rfl⟩
  obtain ⟨W0, hW0⟩ : ∃ W0, Hid (W0 = w.alloc (.cells #[.int .i64 kk, .int .i64 ff, .int .i64 tt, .int .i64 gg, .int .i64 ee, .int .i64 ii, .slice Ad mid.length cd, .string mt, .slice Aa ma.length ca, .string nn, .string vv] 62)) := ⟨_, Lib.hid rfl⟩
  have HB0 : Hid (Fr O O w W0) := by show Fr _ _ _ _; rw [hW0.out]; exact (Fr.refl hOl).alloc _
  have h0 : Wr W0 B O g l d lo br := by rw [hW0.out]; exact h.alloc _
  have C0 : Hid (Bk W0 x0 62 #[.int .i64 kk, .int .i64 ff, .int .i64 tt, .int .i64 gg, .int .i64 ee, .int .i64 ii, .slice Ad mid.length cd, .string mt, .slice Aa ma.length ca, .string nn, .string vv]) := by show Bk _ _ _ _; rw [hW0.out, hx0.out]; exact Bk.new _ _ _
  have hno0 : Hid (¬ O x0) := fun hh => by have := hOl _ hh; have := hx0.out; omega
  have hx0w : w.heap.size ≤ x0 := by rw [hx0.out]; exact Nat.le_refl _
  have hN0 : l.length ≤ l.length + 0 := by omega
  have hK0 := acc_0 l lo br
  have hu : ∀ s : ByteArray, 10 ≤ uS s := fun s => by unfold uS; omega
  clear h
  clear k1 k6 k2 k3 k4 k5
  go_enter Tryz.func42, Tryz.ntmps42
  have q0_0 : W0.cell? ⟨x0, 0, none⟩ = some (.int .i64 kk) := by have := C0.out.cell 0; simpa using this
  go_wp2_with fail
  rw [← hW0.out, ← hx0.out]
  refine (wnum_any kk W0 B O g l d lo br h0 (by omega)).mono ?_
  rintro e W1 ⟨rfl, O1, hb1, l1, lo1, br1, h1, hn1, hk1⟩
  have HB1 := Lib.hid (HB0.out.trans hb1)
  have C1 := Lib.hid (bk_fr C0.out hb1 hno0.out)
  have hno1 : Hid (¬ O1 x0) := hb1.apart C0.out.lt hno0.out
  obtain ⟨hN1, hK1⟩ := acc_next hN0 hK0 hn1 hk1
  clear hb1 hn1 hk1 hN0 hK0 q0_0
  have q1_1 : W1.cell? ⟨x0, 1, none⟩ = some (.int .i64 ff) := by have := C1.out.cell 1; simpa using this
  go_wp2_with fail
  refine (wnum_any ff W1 B O1 g l1 d lo1 br1 h1 (by omega)).mono ?_
  rintro e W2 ⟨rfl, O2, hb2, l2, lo2, br2, h2, hn2, hk2⟩
  have HB2 := Lib.hid (HB1.out.trans hb2)
  have C2 := Lib.hid (bk_fr C1.out hb2 hno1.out)
  have hno2 : Hid (¬ O2 x0) := hb2.apart C1.out.lt hno1.out
  obtain ⟨hN2, hK2⟩ := acc_next hN1 hK1 hn2 hk2
  clear hb2 hn2 hk2 hN1 hK1 q1_1
  obtain ⟨W3, hW3⟩ : ∃ x, Hid (x = W2.setCell ⟨g, 3, none⟩ (.bool true)) := ⟨_, Lib.hid rfl⟩
  obtain ⟨f3, h3⟩ := wr_wrong HB2.out h2
  rw [← hW3.out] at f3 h3
  have z3 : W2.frozen? ⟨g, 3, none⟩ = false ∧ ∃ u, W2.cell? ⟨g, 3, none⟩ = some u := wr_cell3 h2
  obtain ⟨z3, u3, y3⟩ := z3
  have hxg : g ≠ x0 := fun e => hno2.out (e ▸ wr_g h2)
  have q2_0 : W2.cell? ⟨x0, 0, none⟩ = some (.int .i64 kk) := by have := C2.out.cell 0; simpa using this
  have q2_1 : W2.cell? ⟨x0, 1, none⟩ = some (.int .i64 ff) := by have := C2.out.cell 1; simpa using this
  have q2_2 : W2.cell? ⟨x0, 2, none⟩ = some (.int .i64 tt) := by have := C2.out.cell 2; simpa using this
  have q2_3 : W2.cell? ⟨x0, 3, none⟩ = some (.int .i64 gg) := by have := C2.out.cell 3; simpa using this
  have q2_4 : W2.cell? ⟨x0, 4, none⟩ = some (.int .i64 ee) := by have := C2.out.cell 4; simpa using this
  have q2_5 : W2.cell? ⟨x0, 5, none⟩ = some (.int .i64 ii) := by have := C2.out.cell 5; simpa using this
  have q2_6 : W2.cell? ⟨x0, 6, none⟩ = some (.slice Ad mid.length cd) := by have := C2.out.cell 6; simpa using this
  have q2_7 : W2.cell? ⟨x0, 7, none⟩ = some (.string mt) := by have := C2.out.cell 7; simpa using this
  have q2_8 : W2.cell? ⟨x0, 8, none⟩ = some (.slice Aa ma.length ca) := by have := C2.out.cell 8; simpa using this
  have q2_9 : W2.cell? ⟨x0, 9, none⟩ = some (.string nn) := by have := C2.out.cell 9; simpa using this
  have q2_10 : W2.cell? ⟨x0, 10, none⟩ = some (.string vv) := by have := C2.out.cell 10; simpa using this
  have HB3 := Lib.hid f3
  go_wp2_with fail
  rw [← hW3.out]
  refine (noSt_any kk ff tt gg ee ii Ad mid.length cd mt Aa ma.length ca nn vv W3 B O2 g l2 d lo2 true h3).mono ?_
  rintro e W4 ⟨rfl, O4, hb4, l4, lo4, br4, h4, hn4, hk4⟩
  go_wp2
  go_end0
  refine ⟨rfl, O4, HB3.out.trans hb4, l4, lo4, br4, h4, by unfold uSt; simp only; omega, fun x y => ?_⟩
  obtain ⟨_, x2, _⟩ := hk4.out x y
  cases x2
set_option maxRecDepth 100000 in
set_option maxHeartbeats 1000000 in
theorem pl_st (L : List St) (hcs : ∀ s ∈ L, ∀ x ∈ s.mid, 0 ≤ x.c ∧ x.c < 256) (v : Value) (w : World) (B : Nat) (O : Nat → Prop) (g : Nat) (l : List UInt8) (d : Int) (lo br : Bool) (h : Wr w B O g l d lo br) (hv : Ls w (fun b => b < B) v L) (hl : l.length + uL uSt L ≤ limW) :
    Calls Tryz.prog 46 #[.pointer (some ⟨g, 0, none⟩), v, .func (.func 42) #[] #[]] w (WrT B O g w l d lo br (okL okSt L) (eL eSt L) (uL uSt L)) := by
  obtain ⟨A, cap, rfl⟩ := hv.form
  have hmax := hv.max
  unfold maxLen at hmax
  unfold uL at hl
  have hOB := fun k hk => (h.own k hk).2
  go_enter Tryz.func46, Tryz.ntmps46
  go_wp2_with fail
  refine (within_any (L.length : Int) 65536 w B O g l d lo br h).mono ?_
  rintro e w1 ⟨rfl, hb1, l1, r1, h1, hl1, hr1⟩
  go_wp2_with fail
  refine (wnum_any (L.length : Int) w1 B O g l d l1 r1 h1 (by omega)).mono ?_
  rintro e w2 ⟨rfl, O2, hb2, k2, l2, r2, h2, hlen2, hk2⟩
  have HB := Lib.hid (hb1.trans hb2)
  have HK : Hid (l2 = false → r2 = false → lo = false ∧ br = false ∧ L.length ≤ 65536 ∧ k2 = l ++ uv L.length) := fun a b => by
    obtain ⟨x1, x2, x3, x4⟩ := hk2.out a b
    obtain ⟨y1, y2⟩ := hl1.out x1
    exact ⟨y1, (hr1.out x2).1, by omega, by rw [x4]; rfl⟩
  clear hk2 hl1 hr1 h1 h hb1 hb2
  go_wp2
  go_loopg [18] L.length (fun n s wk => ∃ (k : Nat) (Ok : Nat → Prop) (lk : List UInt8) (lok rk : Bool), k ≤ L.length ∧ n = L.length - k ∧ s = .int .i64 k ∧ Wr wk B Ok g lk d lok rk ∧ Fr O Ok w wk ∧ Hid (lk.length ≤ l.length + 10 + sm uSt L k) ∧
    Hid (lok = false → rk = false → lo = false ∧ br = false ∧ L.length ≤ 65536 ∧ (∀ x ∈ L.take k, okSt x) ∧ lk = l ++ (uv L.length ++ (L.take k).flatMap eSt)))
  case atStart => exact ⟨0, O2, k2, l2, r2, Nat.zero_le _, by omega, rfl, h2, HB.out, by show _ ≤ _; omega, fun a b => by obtain ⟨x1, x2, x3, x4⟩ := HK.out a b; exact ⟨x1, x2, x3, by simp, by rw [x4]; simp⟩⟩
  case round =>
    obtain ⟨k, Ok, lk, lok, rk, hk, hn, rfl, hW, hb, hlk, hok⟩ := hrel
    have HN := Lib.hid hn
    clear hn HB HK h2 hlen2
    by_cases hlt : k < L.length
    · have hvk := ls_fr hv hb hOB
      have hsm := Lib.hid (sm_succ uSt L k hlt)
      have hsl := Lib.hid (sm_le uSt L (k + 1))
      have htk : Hid (L.take (k + 1) = L.take k ++ [L[k]]) := by show _ = _; rw [List.take_add_one, List.getElem?_eq_getElem hlt]; rfl
      have hmem : L[k] ∈ L := List.getElem_mem hlt
      obtain ⟨b, off, vd, va, rfl, hbb, hcap, a0, a1, a2, a3, a4, a5, a6, a7, a8, a9, a10, rd, ra⟩ := at_st hvk hlt
      obtain ⟨y, hy⟩ : ∃ y, Hid (y = L[k]) := ⟨_, Lib.hid rfl⟩
      rw [← hy.out] at a0 a1 a2 a3 a4 a5 a7 a9 a10 rd ra
      obtain ⟨Ard, crd, rfl⟩ := rd.form
      obtain ⟨Ara, cra, rfl⟩ := ra.form
      have hW' := hW
      have hBs := hW.base
      obtain ⟨vw, hbk, how, hBg, hne⟩ := hW
      have c2 := hbk.cell 2
      simp at c2
      have hgl := hbk.lt
      have hyu : Hid (lk.length + uSt y ≤ limW) := by show _ ≤ _; have := hlk.out; have := hsm.out; have := hsl.out; rw [hy.out]; omega
      have hi0 : (0 : Int) ≤ (k : Int) := by omega
      have hi1 : (k : Int) < (L.length : Int) := by omega
      clear hbk how hv
      cases lok
      · go_wp2_with fail
        refine (wstep_any y _ _ (by rw [hy.out]; exact hcs _ hmem) _ B Ok g lk d false rk (hW'.alloc _) (rd.under (box1 _ _)) (ra.under (box1 _ _)) hyu.out).mono ?_
        rintro e w4 ⟨rfl, O4, hb4, l4, lo4, r4, h4, hlen4, hk4⟩
        have hbb4 := Lib.hid ((hb.alloc _).trans hb4)
        have HL4 : Hid (l4.length ≤ l.length + 10 + sm uSt L (k + 1)) := by show _ ≤ _; have := hlk.out; have := hsm.out; rw [← hy.out] at this; omega
        have HK4 : Hid (lo4 = false → r4 = false → lo = false ∧ br = false ∧ L.length ≤ 65536 ∧ (∀ x ∈ L.take (k + 1), okSt x) ∧ l4 = l ++ (uv L.length ++ (L.take (k + 1)).flatMap eSt)) := fun a b => by
          obtain ⟨x1, x2, x3, x4⟩ := hk4.out a b
          obtain ⟨y1, y2, y3, y4, y5⟩ := hok.out (by first | rfl | trivial) x2
          refine ⟨y1, y2, y3, ?_, ?_⟩
          · rw [htk.out]
            intro x hx
            rcases List.mem_append.1 hx with hx | hx
            · exact y4 x hx
            · rw [List.mem_singleton.1 hx, ← hy.out]; exact x3
          · rw [htk.out, x4, y5, List.flatMap_append, ← hy.out]
            simp [List.append_assoc]
        clear hk4 hlen4 hb4 hb hok hlk hW'
        go_wp2
        go_roundg (L.length - (k + 1))
        case measure => have := HN.out; omega
        case rel => exact ⟨k + 1, O4, l4, lo4, r4, by omega, rfl, by go_num, h4, hbb4.out, HL4, HK4⟩
      · go_wp2
        go_end0
        exact ⟨rfl, Ok, hb.alloc _, lk, true, rk, hW'.alloc _, by have := hlk.out; have := sm_le uSt L k; unfold uL; omega, fun a => by cases a⟩
    · have hkl : k = L.length := by omega
      have hi1 : ¬ (k : Int) < (L.length : Int) := by omega
      have HKL := Lib.hid hkl
      clear hkl
      go_wp2
      go_end0
      refine ⟨rfl, Ok, hb, lk, lok, rk, hW, by have := hlk.out; have := sm_le uSt L k; unfold uL; omega, fun a b => ?_⟩
      obtain ⟨x1, x2, x3, x4, x5⟩ := hok.out a b
      rw [HKL.out, List.take_length] at x4 x5
      exact ⟨x1, x2, ⟨x3, x4⟩, x5⟩
end Go.Proofs.YtjajcecenflejaaGreat
