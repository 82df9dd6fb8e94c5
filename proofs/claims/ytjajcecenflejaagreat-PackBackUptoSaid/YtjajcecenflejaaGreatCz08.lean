/- YtjajcecenflejaaGreatCz08 -/
import Derived.Test.YtjajcecenflejaaGreatCz07
namespace Go.Proofs.YtjajcecenflejaaGreat
open Go.RowKit
theorem acc_next {l l1 l2 : List UInt8} {U u : Nat} {lo br lo1 br1 lo2 br2 : Bool} {OK ok : Prop} {EN en : List UInt8} (hn : l1.length ≤ l.length + U) (hk : Hid (lo1 = false → br1 = false → lo = false ∧ br = false ∧ OK ∧ l1 = l ++ EN))
    (hn2 : l2.length ≤ l1.length + u) (hk2 : Hid (lo2 = false → br2 = false → lo1 = false ∧ br1 = false ∧ ok ∧ l2 = l1 ++ en)) :
    l2.length ≤ l.length + (U + u) ∧ Hid (lo2 = false → br2 = false → lo = false ∧ br = false ∧ (OK ∧ ok) ∧ l2 = l ++ (EN ++ en)) := by
  refine ⟨by omega, fun a b => ?_⟩
  obtain ⟨k1, k2, k3, k4⟩ := hk2.out a b
  obtain ⟨j1, j2, j3, j4⟩ := hk.out k1 k2
  exact ⟨j1, j2, ⟨j3, k3⟩, by rw [k4, j4, List.append_assoc]⟩
theorem acc_0 (l : List UInt8) (lo br : Bool) : Hid (lo = false → br = false → lo = false ∧ br = false ∧ True ∧ l = l ++ []) := fun a b => ⟨a, b, trivial, by simp⟩
theorem wr_far {w : World} {B g x : Nat} {O : Nat → Prop} {l : List UInt8} {d : Int} {lo wr : Bool} (h : Wr w B O g l d lo wr) (hx : ¬ O x) (i : Nat) (u : Value) : Wr (w.setCell ⟨x, i, none⟩ u) B O g l d lo wr := by
  obtain ⟨v, h1, h2, h3, h4, h5⟩ := h
  have hg : g ≠ x := fun e => hx ((h5 x).2 (.inl e.symm))
  have hv : v.ownBlock ≠ some x := fun e => hx ((h5 x).2 (.inr e))
  exact ⟨v, h1.far (p := ⟨x, i, none⟩) hg u, ow_set h2 hv, h3, h4, h5⟩
theorem AbsT.wrt {B : Nat} {O : Nat → Prop} {g : Nat} {w : World} {l : List UInt8} {d : Int} {lo wr : Bool} {x : Int} {e : Ending} {w' : World} (h : AbsT B O g w l d lo wr x e w') : WrT B O g w l d lo wr (x = 0) [] 0 e w' := by
  obtain ⟨a, b, lo', wr', c, k⟩ := h
  exact ⟨a, O, b, l, lo', wr', c, by omega, fun y z => by obtain ⟨k1, k2, k3⟩ := k.out y z; exact ⟨k1, k2, k3, by simp⟩⟩
theorem absw (x most : Int) (w : World) (B : Nat) (O : Nat → Prop) (g : Nat) (l : List UInt8) (d : Int) (lo wr : Bool) (h : Wr w B O g l d lo wr) :
    Calls Tryz.prog 99 #[.pointer (some ⟨g, 0, none⟩), .int .i64 x, .int .i64 most] w (WrT B O g w l d lo wr (x = 0) [] 0) := (absent_any x most w B O g l d lo wr h).mono fun _ _ hh => hh.wrt
set_option maxRecDepth 100000 in
set_option maxHeartbeats 2000000 in
theorem noTk_any (k : Int) (t : ByteArray) (Aa Am : Option Addr) (na ca nm cm : Nat) (c : Int) (hc : 0 ≤ c ∧ c < 256) (w : World) (B : Nat) (O : Nat → Prop) (g : Nat) (l : List UInt8) (d : Int) (lo br : Bool) (h : Wr w B O g l d lo br) :
    Calls Tryz.prog 98 #[.pointer (some ⟨g, 0, none⟩), .agg #[.int .i64 k, .string t, .slice Aa na ca, .slice Am nm cm, .int .u8 c]] w (WrT B O g w l d lo br (t.size = 0 ∧ na = 0 ∧ nm = 0 ∧ c = 0) [] 0) := by
  have hOB := fun k hk => (h.own k hk).2
  have hOl := fun k hk => (h.own k hk).1
  obtain ⟨x0, hx0⟩ : ∃ x0, Hid (x0 = w.heap.size) := ⟨_, Lib.hid rfl⟩
  obtain ⟨W0, hW0⟩ : ∃ W0, Hid (W0 = w.alloc (.cells #[.int .i64 k, .string t, .slice Aa na ca, .slice Am nm cm, .int .u8 c] 57)) := ⟨_, Lib.hid rfl⟩
  have HB0 : Hid (Fr O O w W0) := by show Fr _ _ _ _; rw [hW0.out]; exact (Fr.refl hOl).alloc _
  have h0 : Wr W0 B O g l d lo br := by rw [hW0.out]; exact h.alloc _
  have C0 : Hid (Bk W0 x0 57 #[.int .i64 k, .string t, .slice Aa na ca, .slice Am nm cm, .int .u8 c]) := by show Bk _ _ _ _; rw [hW0.out, hx0.out]; exact Bk.new _ _ _
  have hno0 : Hid (¬ O x0) := fun hh => by have := hOl _ hh; have := hx0.out; omega
  have hx0w : w.heap.size ≤ x0 := by rw [hx0.out]; exact Nat.le_refl _
  have hN0 : l.length ≤ l.length + 0 := by omega
  have hK0 := acc_0 l lo br
  have hu : ∀ s : ByteArray, 10 ≤ uS s := fun s => by unfold uS; omega
  clear h
  have hcw : IntKind.i64.wrap c = c := IntWalk.i64_in _ ⟨by omega, by omega⟩
  go_enter Tryz.func98, Tryz.ntmps98
  have q0_1 : W0.cell? ⟨x0, 1, none⟩ = some (.string t) := by have := C0.out.cell 1; simpa using this
  go_wp2_with fail
  rw [← hW0.out, ← hx0.out]
  refine (absw ((t.size : Int)) 1048576 W0 B O g l d lo br h0).mono ?_
  rintro e W1 ⟨rfl, O1, hb1, l1, lo1, br1, h1, hn1, hk1⟩
  have HB1 := Lib.hid (HB0.out.trans hb1)
  have C1 := Lib.hid (bk_fr C0.out hb1 hno0.out)
  have hno1 : Hid (¬ O1 x0) := hb1.apart C0.out.lt hno0.out
  obtain ⟨hN1, hK1⟩ := acc_next hN0 hK0 hn1 hk1
  clear hb1 hn1 hk1 hN0 hK0 q0_1
  have q1_2 : W1.cell? ⟨x0, 2, none⟩ = some (.slice Aa na ca) := by have := C1.out.cell 2; simpa using this
  go_wp2_with fail
  refine (absw ((na : Int)) 65536 W1 B O1 g l1 d lo1 br1 h1).mono ?_
  rintro e W2 ⟨rfl, O2, hb2, l2, lo2, br2, h2, hn2, hk2⟩
  have HB2 := Lib.hid (HB1.out.trans hb2)
  have C2 := Lib.hid (bk_fr C1.out hb2 hno1.out)
  have hno2 : Hid (¬ O2 x0) := hb2.apart C1.out.lt hno1.out
  obtain ⟨hN2, hK2⟩ := acc_next hN1 hK1 hn2 hk2
  clear hb2 hn2 hk2 hN1 hK1 q1_2
  have q2_3 : W2.cell? ⟨x0, 3, none⟩ = some (.slice Am nm cm) := by have := C2.out.cell 3; simpa using this
  go_wp2_with fail
  refine (absw ((nm : Int)) 65536 W2 B O2 g l2 d lo2 br2 h2).mono ?_
  rintro e W3 ⟨rfl, O3, hb3, l3, lo3, br3, h3, hn3, hk3⟩
  have HB3 := Lib.hid (HB2.out.trans hb3)
  have C3 := Lib.hid (bk_fr C2.out hb3 hno2.out)
  have hno3 : Hid (¬ O3 x0) := hb3.apart C2.out.lt hno2.out
  obtain ⟨hN3, hK3⟩ := acc_next hN2 hK2 hn3 hk3
  clear hb3 hn3 hk3 hN2 hK2 q2_3
  have q3_4 : W3.cell? ⟨x0, 4, none⟩ = some (.int .u8 c) := by have := C3.out.cell 4; simpa using this
  go_wp2_with fail
  refine (absw (c) 1048576 W3 B O3 g l3 d lo3 br3 h3).mono ?_
  rintro e W4 ⟨rfl, O4, hb4, l4, lo4, br4, h4, hn4, hk4⟩
  have HB4 := Lib.hid (HB3.out.trans hb4)
  have C4 := Lib.hid (bk_fr C3.out hb4 hno3.out)
  have hno4 : Hid (¬ O4 x0) := hb4.apart C3.out.lt hno3.out
  obtain ⟨hN4, hK4⟩ := acc_next hN3 hK3 hn4 hk4
  clear hb4 hn4 hk4 hN3 hK3 q3_4
  go_wp2
  go_end0
  refine ⟨rfl, O4, HB4.out, l4, lo4, br4, h4, by omega, fun a b => ?_⟩
  obtain ⟨x1, x2, ⟨⟨⟨⟨_, x3⟩, x4⟩, x5⟩, x6⟩, x7⟩ := hK4.out a b
  exact ⟨x1, x2, ⟨by omega, by omega, by omega, x6⟩, by rw [x7]; simp⟩
theorem wr_g {w : World} {B : Nat} {O : Nat → Prop} {g : Nat} {l : List UInt8} {d : Int} {lo wr : Bool} (h : Wr w B O g l d lo wr) : O g := by
  obtain ⟨v, h1, h2, h3, h4, h5⟩ := h
  exact (h5 g).2 (.inl rfl)
theorem wr_cell3 {w : World} {B : Nat} {O : Nat → Prop} {g : Nat} {l : List UInt8} {d : Int} {lo wr : Bool} (h : Wr w B O g l d lo wr) : w.frozen? ⟨g, 3, none⟩ = false ∧ ∃ u, w.cell? ⟨g, 3, none⟩ = some u := by
  obtain ⟨v, h1, h2, h3, h4, h5⟩ := h
  exact ⟨h1.frozen 3, _, by have := h1.cell 3; simpa using this⟩
theorem wr_wrong {w0 w : World} {B : Nat} {O0 O : Nat → Prop} {g : Nat} {l : List UInt8} {d : Int} {lo wr : Bool} (hb : Fr O0 O w0 w) (h : Wr w B O g l d lo wr) : Fr O0 O w0 (w.setCell ⟨g, 3, none⟩ (.bool true)) ∧ Wr (w.setCell ⟨g, 3, none⟩ (.bool true)) B O g l d lo true := by
  have hg := wr_g h
  obtain ⟨v, h1, h2, h3, h4, h5⟩ := h
  exact ⟨hb.set (p := ⟨g, 3, none⟩) (.inl hg) _, v, by simpa using h1.set 3 (.bool true), ow_set h2 h4, h3, h4, h5⟩
theorem size0 {s : ByteArray} (h : s.size = 0) : s = .empty := by
  apply ByteArray.ext; apply Array.eq_empty_of_size_eq_zero; exact h
set_option maxRecDepth 100000 in
set_option maxHeartbeats 2000000 in
theorem wtoken_any (t : Tk) (va vm : Value) (hc : 0 ≤ t.c ∧ t.c < 256) (w : World) (B : Nat) (O : Nat → Prop) (g : Nat) (l : List UInt8) (d : Int) (lo br : Bool) (h : Wr w B O g l d lo br) (hva : Ls w (fun b => b < B) va t.a) (hvm : Ls w (fun b => b < B) vm t.m) (hl : l.length + uTk t ≤ limW) :
    Calls Tryz.prog 77 #[.pointer (some ⟨g, 0, none⟩), .agg #[.int .i64 t.k, .string t.t, va, vm, .int .u8 t.c]] w (WrT B O g w l d lo br (okTk t) (eTk t) (uTk t)) := by
  obtain ⟨k, tt, a, m, c⟩ := t
  simp only at hc hva hvm hl ⊢
  have hl' := hl
  unfold uTk at hl'
  simp only at hl'
  obtain ⟨Aa, ca, rfl⟩ := hva.form
  obtain ⟨Am, cm, rfl⟩ := hvm.form
  have hcw : IntKind.i64.wrap c = c := IntWalk.i64_in _ ⟨by omega, by omega⟩
  by_cases k1 : k = 1
  · subst k1
    have hOB := fun k hk => (h.own k hk).2
    have hOl := fun k hk => (h.own k hk).1
    obtain ⟨x0, hx0⟩ : ∃ x0, Hid (x0 = w.heap.size) := ⟨_, Lib.hid rfl⟩
    obtain ⟨W0, hW0⟩ : ∃ W0, Hid (W0 = w.alloc (.cells #[.int .i64 1, .string tt, .slice Aa a.length ca, .slice Am m.length cm, .int .u8 c] 57)) := ⟨_, Lib.hid rfl⟩
    have HB0 : Hid (Fr O O w W0) := by show Fr _ _ _ _; rw [hW0.out]; exact (Fr.refl hOl).alloc _
    have h0 : Wr W0 B O g l d lo br := by rw [hW0.out]; exact h.alloc _
    have C0 : Hid (Bk W0 x0 57 #[.int .i64 1, .string tt, .slice Aa a.length ca, .slice Am m.length cm, .int .u8 c]) := by show Bk _ _ _ _; rw [hW0.out, hx0.out]; exact Bk.new _ _ _
    have hno0 : Hid (¬ O x0) := fun hh => by have := hOl _ hh; have := hx0.out; omega
    have hx0w : w.heap.size ≤ x0 := by rw [hx0.out]; exact Nat.le_refl _
    have hN0 : l.length ≤ l.length + 0 := by omega
    have hK0 := acc_0 l lo br
    have hu : ∀ s : ByteArray, 10 ≤ uS s := fun s => by unfold uS; omega
    clear h
    go_enter Tryz.func77, Tryz.ntmps77
    have q0_0 : W0.cell? ⟨x0, 0, none⟩ = some (.int .i64 1) := by have := C0.out.cell 0; simpa using this
    go_wp2_with fail
    rw [← hW0.out, ← hx0.out]
    refine (wnum_any 1 W0 B O g l d lo br h0 (by omega)).mono ?_
    rintro e W1 ⟨rfl, O1, hb1, l1, lo1, br1, h1, hn1, hk1⟩
    have HB1 := Lib.hid (HB0.out.trans hb1)
    have C1 := Lib.hid (bk_fr C0.out hb1 hno0.out)
    have hno1 : Hid (¬ O1 x0) := hb1.apart C0.out.lt hno0.out
    obtain ⟨hN1, hK1⟩ := acc_next hN0 hK0 hn1 hk1
    clear hb1 hn1 hk1 hN0 hK0 q0_0
    have q1_0 : W1.cell? ⟨x0, 0, none⟩ = some (.int .i64 1) := by have := C1.out.cell 0; simpa using this
    have q1_1 : W1.cell? ⟨x0, 1, none⟩ = some (.string tt) := by have := C1.out.cell 1; simpa using this
    go_wp2_with fail
    refine (wtext_any tt W1 B O1 g l1 d lo1 br1 h1 (by omega)).mono ?_
    rintro e W2 ⟨rfl, O2, hb2, l2, lo2, br2, h2, hn2, hk2⟩
    have HB2 := Lib.hid (HB1.out.trans hb2)
    have C2 := Lib.hid (bk_fr C1.out hb2 hno1.out)
    have hno2 : Hid (¬ O2 x0) := hb2.apart C1.out.lt hno1.out
    obtain ⟨hN2, hK2⟩ := acc_next hN1 hK1 hn2 hk2
    clear hb2 hn2 hk2 hN1 hK1 q1_0 q1_1
    have q2_2 : W2.cell? ⟨x0, 2, none⟩ = some (.slice Aa a.length ca) := by have := C2.out.cell 2; simpa using this
    go_wp2_with fail
    refine (pl_at a (.slice Aa a.length ca) W2 B O2 g l2 d lo2 br2 h2 (ls_fr hva HB2.out hOB) (by omega)).mono ?_
    rintro e W3 ⟨rfl, O3, hb3, l3, lo3, br3, h3, hn3, hk3⟩
    have HB3 := Lib.hid (HB2.out.trans hb3)
    have C3 := Lib.hid (bk_fr C2.out hb3 hno2.out)
    have hno3 : Hid (¬ O3 x0) := hb3.apart C2.out.lt hno2.out
    obtain ⟨hN3, hK3⟩ := acc_next hN2 hK2 hn3 hk3
    clear hb3 hn3 hk3 hN2 hK2 q2_2
    have q3_3 : W3.cell? ⟨x0, 3, none⟩ = some (.slice Am m.length cm) := by have := C3.out.cell 3; simpa using this
    go_wp2_with fail
    refine (pl_mk m (.slice Am m.length cm) W3 B O3 g l3 d lo3 br3 h3 (ls_fr hvm HB3.out hOB) (by omega)).mono ?_
    rintro e W4 ⟨rfl, O4, hb4, l4, lo4, br4, h4, hn4, hk4⟩
    have HB4 := Lib.hid (HB3.out.trans hb4)
    have C4 := Lib.hid (bk_fr C3.out hb4 hno3.out)
    have hno4 : Hid (¬ O4 x0) := hb4.apart C3.out.lt hno3.out
    obtain ⟨hN4, hK4⟩ := acc_next hN3 hK3 hn4 hk4
    clear hb4 hn4 hk4 hN3 hK3 q3_3
    have zf : ∀ k, W4.frozen? ⟨x0, k, none⟩ = false := fun k => C4.out.frozen k
    have z4_1 := zf 1
    have z4_2 := zf 2
    have z4_3 := zf 3
    have y4_1 : ∃ u, W4.cell? ⟨x0, 1, none⟩ = some u := ⟨_, by have := C4.out.cell 1; simpa using this⟩
    have y4_2 : ∃ u, W4.cell? ⟨x0, 2, none⟩ = some u := ⟨_, by have := C4.out.cell 2; simpa using this⟩
    have y4_3 : ∃ u, W4.cell? ⟨x0, 3, none⟩ = some u := ⟨_, by have := C4.out.cell 3; simpa using this⟩
    obtain ⟨_, y4_1⟩ := y4_1
    obtain ⟨_, y4_2⟩ := y4_2
    obtain ⟨_, y4_3⟩ := y4_3
    have v4_0 : W4.cell? ⟨x0, 0, none⟩ = some (.int .i64 1) := by have := C4.out.cell 0; simpa using this
    have v4_4 : W4.cell? ⟨x0, 4, none⟩ = some (.int .u8 c) := by have := C4.out.cell 4; simpa using this
    obtain ⟨W4s, hW4s⟩ : ∃ x, Hid (x = (((W4.setCell ⟨x0, 1, none⟩ (.string ⟨#[]⟩)).setCell ⟨x0, 2, none⟩ (.slice none 0 0)).setCell ⟨x0, 3, none⟩ (.slice none 0 0))) := ⟨_, Lib.hid rfl⟩
    have HHB4s : Hid (Fr O O4 w W4s) := by show Fr _ _ _ _; rw [hW4s.out]; exact (((HB4.out.set (p := ⟨x0, 1, none⟩) (.inr hx0w) (.string ⟨#[]⟩)).set (p := ⟨x0, 2, none⟩) (.inr hx0w) (.slice none 0 0)).set (p := ⟨x0, 3, none⟩) (.inr hx0w) (.slice none 0 0))
    have h4s : Wr W4s B O4 g l4 d lo4 br4 := by rw [hW4s.out]; exact (wr_far (wr_far (wr_far h4 hno4.out 1 (.string ⟨#[]⟩)) hno4.out 2 (.slice none 0 0)) hno4.out 3 (.slice none 0 0))
    have C4s : Hid (Bk W4s x0 57 #[.int .i64 1, .string ⟨#[]⟩, .slice none 0 0, .slice none 0 0, .int .u8 c]) := by show Bk _ _ _ _; rw [hW4s.out]; simpa using (((C4.out.set 1 (.string ⟨#[]⟩)).set 2 (.slice none 0 0)).set 3 (.slice none 0 0))
    go_wp2_with fail
    rw [← hW4s.out]
    refine (noTk_any 1 ⟨#[]⟩ none none 0 0 0 0 c hc W4s B O4 g l4 d lo4 br4 h4s).mono ?_
    rintro e W5 ⟨rfl, O5, hb5, l5, lo5, br5, h5, hn5, hk5⟩
    have HB5 := Lib.hid (HHB4s.out.trans hb5)
    have C5 := Lib.hid (bk_fr C4s.out hb5 hno4.out)
    have hno5 : Hid (¬ O5 x0) := hb5.apart C4s.out.lt hno4.out
    obtain ⟨hN5, hK5⟩ := acc_next hN4 hK4 hn5 hk5
    clear hb5 hn5 hk5 hN4 hK4 
    go_wp2
    go_end0
    refine ⟨rfl, O5, HB5.out, l5, lo5, br5, h5, by unfold uTk; simp only; omega, fun x y => ?_⟩
    obtain ⟨x1, x2, ⟨⟨⟨⟨⟨_, _⟩, y1⟩, y2⟩, y3⟩, ⟨_, _, _, y4⟩⟩, x7⟩ := hK5.out x y
    exact ⟨x1, x2, .inl ⟨.inl rfl, y1, y2, y3, y4⟩, by rw [x7]; simp [eTk, eI]⟩
  by_cases k3 : k = 3
  · subst k3
    have hOB := fun k hk => (h.own k hk).2
    have hOl := fun k hk => (h.own k hk).1
    obtain ⟨x0, hx0⟩ : ∃ x0, Hid (x0 = w.heap.size) := ⟨_, Lib.hid rfl⟩
    obtain ⟨W0, hW0⟩ : ∃ W0, Hid (W0 = w.alloc (.cells #[.int .i64 3, .string tt, .slice Aa a.length ca, .slice Am m.length cm, .int .u8 c] 57)) := ⟨_, Lib.hid rfl⟩
    have HB0 : Hid (Fr O O w W0) := by show Fr _ _ _ _; rw [hW0.out]; exact (Fr.refl hOl).alloc _
    have h0 : Wr W0 B O g l d lo br := by rw [hW0.out]; exact h.alloc _
    have C0 : Hid (Bk W0 x0 57 #[.int .i64 3, .string tt, .slice Aa a.length ca, .slice Am m.length cm, .int .u8 c]) := by show Bk _ _ _ _; rw [hW0.out, hx0.out]; exact Bk.new _ _ _
    have hno0 : Hid (¬ O x0) := fun hh => by have := hOl _ hh; have := hx0.out; omega
    have hx0w : w.heap.size ≤ x0 := by rw [hx0.out]; exact Nat.le_refl _
    have hN0 : l.length ≤ l.length + 0 := by omega
    have hK0 := acc_0 l lo br
    have hu : ∀ s : ByteArray, 10 ≤ uS s := fun s => by unfold uS; omega
    clear h
    go_enter Tryz.func77, Tryz.ntmps77
    have q0_0 : W0.cell? ⟨x0, 0, none⟩ = some (.int .i64 3) := by have := C0.out.cell 0; simpa using this
    go_wp2_with fail
    rw [← hW0.out, ← hx0.out]
    refine (wnum_any 3 W0 B O g l d lo br h0 (by omega)).mono ?_
    rintro e W1 ⟨rfl, O1, hb1, l1, lo1, br1, h1, hn1, hk1⟩
    have HB1 := Lib.hid (HB0.out.trans hb1)
    have C1 := Lib.hid (bk_fr C0.out hb1 hno0.out)
    have hno1 : Hid (¬ O1 x0) := hb1.apart C0.out.lt hno0.out
    obtain ⟨hN1, hK1⟩ := acc_next hN0 hK0 hn1 hk1
    clear hb1 hn1 hk1 hN0 hK0 q0_0
    have q1_0 : W1.cell? ⟨x0, 0, none⟩ = some (.int .i64 3) := by have := C1.out.cell 0; simpa using this
    have q1_1 : W1.cell? ⟨x0, 1, none⟩ = some (.string tt) := by have := C1.out.cell 1; simpa using this
    go_wp2_with fail
    refine (wtext_any tt W1 B O1 g l1 d lo1 br1 h1 (by omega)).mono ?_
    rintro e W2 ⟨rfl, O2, hb2, l2, lo2, br2, h2, hn2, hk2⟩
    have HB2 := Lib.hid (HB1.out.trans hb2)
    have C2 := Lib.hid (bk_fr C1.out hb2 hno1.out)
    have hno2 : Hid (¬ O2 x0) := hb2.apart C1.out.lt hno1.out
    obtain ⟨hN2, hK2⟩ := acc_next hN1 hK1 hn2 hk2
    clear hb2 hn2 hk2 hN1 hK1 q1_0 q1_1
    have q2_2 : W2.cell? ⟨x0, 2, none⟩ = some (.slice Aa a.length ca) := by have := C2.out.cell 2; simpa using this
    go_wp2_with fail
    refine (pl_at a (.slice Aa a.length ca) W2 B O2 g l2 d lo2 br2 h2 (ls_fr hva HB2.out hOB) (by omega)).mono ?_
    rintro e W3 ⟨rfl, O3, hb3, l3, lo3, br3, h3, hn3, hk3⟩
    have HB3 := Lib.hid (HB2.out.trans hb3)
    have C3 := Lib.hid (bk_fr C2.out hb3 hno2.out)
    have hno3 : Hid (¬ O3 x0) := hb3.apart C2.out.lt hno2.out
    obtain ⟨hN3, hK3⟩ := acc_next hN2 hK2 hn3 hk3
    clear hb3 hn3 hk3 hN2 hK2 q2_2
    have q3_3 : W3.cell? ⟨x0, 3, none⟩ = some (.slice Am m.length cm) := by have := C3.out.cell 3; simpa using this
    go_wp2_with fail
    refine (pl_mk m (.slice Am m.length cm) W3 B O3 g l3 d lo3 br3 h3 (ls_fr hvm HB3.out hOB) (by omega)).mono ?_
    rintro e W4 ⟨rfl, O4, hb4, l4, lo4, br4, h4, hn4, hk4⟩
    have HB4 := Lib.hid (HB3.out.trans hb4)
    have C4 := Lib.hid (bk_fr C3.out hb4 hno3.out)
    have hno4 : Hid (¬ O4 x0) := hb4.apart C3.out.lt hno3.out
    obtain ⟨hN4, hK4⟩ := acc_next hN3 hK3 hn4 hk4
    clear hb4 hn4 hk4 hN3 hK3 q3_3
    have zf : ∀ k, W4.frozen? ⟨x0, k, none⟩ = false := fun k => C4.out.frozen k
    have z4_1 := zf 1
    have z4_2 := zf 2
    have z4_3 := zf 3
    have y4_1 : ∃ u, W4.cell? ⟨x0, 1, none⟩ = some u := ⟨_, by have := C4.out.cell 1; simpa using this⟩
    have y4_2 : ∃ u, W4.cell? ⟨x0, 2, none⟩ = some u := ⟨_, by have := C4.out.cell 2; simpa using this⟩
    have y4_3 : ∃ u, W4.cell? ⟨x0, 3, none⟩ = some u := ⟨_, by have := C4.out.cell 3; simpa using this⟩
    obtain ⟨_, y4_1⟩ := y4_1
    obtain ⟨_, y4_2⟩ := y4_2
    obtain ⟨_, y4_3⟩ := y4_3
    have v4_0 : W4.cell? ⟨x0, 0, none⟩ = some (.int .i64 3) := by have := C4.out.cell 0; simpa using this
    have v4_4 : W4.cell? ⟨x0, 4, none⟩ = some (.int .u8 c) := by have := C4.out.cell 4; simpa using this
    obtain ⟨W4s, hW4s⟩ : ∃ x, Hid (x = (((W4.setCell ⟨x0, 1, none⟩ (.string ⟨#[]⟩)).setCell ⟨x0, 2, none⟩ (.slice none 0 0)).setCell ⟨x0, 3, none⟩ (.slice none 0 0))) := ⟨_, Lib.hid rfl⟩
    have HHB4s : Hid (Fr O O4 w W4s) := by show Fr _ _ _ _; rw [hW4s.out]; exact (((HB4.out.set (p := ⟨x0, 1, none⟩) (.inr hx0w) (.string ⟨#[]⟩)).set (p := ⟨x0, 2, none⟩) (.inr hx0w) (.slice none 0 0)).set (p := ⟨x0, 3, none⟩) (.inr hx0w) (.slice none 0 0))
    have h4s : Wr W4s B O4 g l4 d lo4 br4 := by rw [hW4s.out]; exact (wr_far (wr_far (wr_far h4 hno4.out 1 (.string ⟨#[]⟩)) hno4.out 2 (.slice none 0 0)) hno4.out 3 (.slice none 0 0))
    have C4s : Hid (Bk W4s x0 57 #[.int .i64 3, .string ⟨#[]⟩, .slice none 0 0, .slice none 0 0, .int .u8 c]) := by show Bk _ _ _ _; rw [hW4s.out]; simpa using (((C4.out.set 1 (.string ⟨#[]⟩)).set 2 (.slice none 0 0)).set 3 (.slice none 0 0))
    go_wp2_with fail
    rw [← hW4s.out]
    refine (noTk_any 3 ⟨#[]⟩ none none 0 0 0 0 c hc W4s B O4 g l4 d lo4 br4 h4s).mono ?_
    rintro e W5 ⟨rfl, O5, hb5, l5, lo5, br5, h5, hn5, hk5⟩
    have HB5 := Lib.hid (HHB4s.out.trans hb5)
    have C5 := Lib.hid (bk_fr C4s.out hb5 hno4.out)
    have hno5 : Hid (¬ O5 x0) := hb5.apart C4s.out.lt hno4.out
    obtain ⟨hN5, hK5⟩ := acc_next hN4 hK4 hn5 hk5
    clear hb5 hn5 hk5 hN4 hK4 
    go_wp2
    go_end0
    refine ⟨rfl, O5, HB5.out, l5, lo5, br5, h5, by unfold uTk; simp only; omega, fun x y => ?_⟩
    obtain ⟨x1, x2, ⟨⟨⟨⟨⟨_, _⟩, y1⟩, y2⟩, y3⟩, ⟨_, _, _, y4⟩⟩, x7⟩ := hK5.out x y
    exact ⟨x1, x2, .inl ⟨.inr rfl, y1, y2, y3, y4⟩, by rw [x7]; simp [eTk, eI]⟩
  by_cases k2 : k = 2
  · subst k2
    have hOB := fun k hk => (h.own k hk).2
    have hOl := fun k hk => (h.own k hk).1
    obtain ⟨x0, hx0⟩ : ∃ x0, Hid (x0 = w.heap.size) := ⟨_, Lib.hid rfl⟩
    obtain ⟨W0, hW0⟩ : ∃ W0, Hid (W0 = w.alloc (.cells #[.int .i64 2, .string tt, .slice Aa a.length ca, .slice Am m.length cm, .int .u8 c] 57)) := ⟨_, Lib.hid rfl⟩
    have HB0 : Hid (Fr O O w W0) := by show Fr _ _ _ _; rw [hW0.out]; exact (Fr.refl hOl).alloc _
    have h0 : Wr W0 B O g l d lo br := by rw [hW0.out]; exact h.alloc _
    have C0 : Hid (Bk W0 x0 57 #[.int .i64 2, .string tt, .slice Aa a.length ca, .slice Am m.length cm, .int .u8 c]) := by show Bk _ _ _ _; rw [hW0.out, hx0.out]; exact Bk.new _ _ _
    have hno0 : Hid (¬ O x0) := fun hh => by have := hOl _ hh; have := hx0.out; omega
    have hx0w : w.heap.size ≤ x0 := by rw [hx0.out]; exact Nat.le_refl _
    have hN0 : l.length ≤ l.length + 0 := by omega
    have hK0 := acc_0 l lo br
    have hu : ∀ s : ByteArray, 10 ≤ uS s := fun s => by unfold uS; omega
    clear h
    go_enter Tryz.func77, Tryz.ntmps77
    have q0_0 : W0.cell? ⟨x0, 0, none⟩ = some (.int .i64 2) := by have := C0.out.cell 0; simpa using this
    go_wp2_with fail
    rw [← hW0.out, ← hx0.out]
    refine (wnum_any 2 W0 B O g l d lo br h0 (by omega)).mono ?_
    rintro e W1 ⟨rfl, O1, hb1, l1, lo1, br1, h1, hn1, hk1⟩
    have HB1 := Lib.hid (HB0.out.trans hb1)
    have C1 := Lib.hid (bk_fr C0.out hb1 hno0.out)
    have hno1 : Hid (¬ O1 x0) := hb1.apart C0.out.lt hno0.out
    obtain ⟨hN1, hK1⟩ := acc_next hN0 hK0 hn1 hk1
    clear hb1 hn1 hk1 hN0 hK0 q0_0
    have q1_0 : W1.cell? ⟨x0, 0, none⟩ = some (.int .i64 2) := by have := C1.out.cell 0; simpa using this
    have q1_1 : W1.cell? ⟨x0, 1, none⟩ = some (.string tt) := by have := C1.out.cell 1; simpa using this
    have q1_2 : W1.cell? ⟨x0, 2, none⟩ = some (.slice Aa a.length ca) := by have := C1.out.cell 2; simpa using this
    have q1_3 : W1.cell? ⟨x0, 3, none⟩ = some (.slice Am m.length cm) := by have := C1.out.cell 3; simpa using this
    have q1_4 : W1.cell? ⟨x0, 4, none⟩ = some (.int .u8 c) := by have := C1.out.cell 4; simpa using this
    go_wp2_with fail
    refine (noTk_any 2 tt Aa Am a.length ca m.length cm c hc W1 B O1 g l1 d lo1 br1 h1).mono ?_
    rintro e W2 ⟨rfl, O2, hb2, l2, lo2, br2, h2, hn2, hk2⟩
    have HB2 := Lib.hid (HB1.out.trans hb2)
    have C2 := Lib.hid (bk_fr C1.out hb2 hno1.out)
    have hno2 : Hid (¬ O2 x0) := hb2.apart C1.out.lt hno1.out
    obtain ⟨hN2, hK2⟩ := acc_next hN1 hK1 hn2 hk2
    clear hb2 hn2 hk2 hN1 hK1 q1_0 q1_1 q1_2 q1_3 q1_4
    go_wp2
    go_end0
    refine ⟨rfl, O2, HB2.out, l2, lo2, br2, h2, by unfold uTk; simp only; omega, fun x y => ?_⟩
    obtain ⟨x1, x2, ⟨⟨_, _⟩, ⟨y1, y2, y3, y4⟩⟩, x7⟩ := hK2.out x y
    exact ⟨x1, x2, .inr (.inl ⟨rfl, size0 y1, List.eq_nil_of_length_eq_zero y2, List.eq_nil_of_length_eq_zero y3, y4⟩), by rw [x7]; simp [eTk, eI]⟩
  by_cases k4 : k = 4
  · subst k4
    have hOB := fun k hk => (h.own k hk).2
    have hOl := fun k hk => (h.own k hk).1
    obtain ⟨x0, hx0⟩ : ∃ x0, Hid (x0 = w.heap.size) := ⟨_, Lib.hid rfl⟩
    obtain ⟨W0, hW0⟩ : ∃ W0, Hid (W0 = w.alloc (.cells #[.int .i64 4, .string tt, .slice Aa a.length ca, .slice Am m.length cm, .int .u8 c] 57)) := ⟨_, Lib.hid rfl⟩
    have HB0 : Hid (Fr O O w W0) := by show Fr _ _ _ _; rw [hW0.out]; exact (Fr.refl hOl).alloc _
    have h0 : Wr W0 B O g l d lo br := by rw [hW0.out]; exact h.alloc _
    have C0 : Hid (Bk W0 x0 57 #[.int .i64 4, .string tt, .slice Aa a.length ca, .slice Am m.length cm, .int .u8 c]) := by show Bk _ _ _ _; rw [hW0.out, hx0.out]; exact Bk.new _ _ _
    have hno0 : Hid (¬ O x0) := fun hh => by have := hOl _ hh; have := hx0.out; omega
    have hx0w : w.heap.size ≤ x0 := by rw [hx0.out]; exact Nat.le_refl _
    have hN0 : l.length ≤ l.length + 0 := by omega
    have hK0 := acc_0 l lo br
    have hu : ∀ s : ByteArray, 10 ≤ uS s := fun s => by unfold uS; omega
    clear h
    go_enter Tryz.func77, Tryz.ntmps77
    have q0_0 : W0.cell? ⟨x0, 0, none⟩ = some (.int .i64 4) := by have := C0.out.cell 0; simpa using this
    go_wp2_with fail
    rw [← hW0.out, ← hx0.out]
    refine (wnum_any 4 W0 B O g l d lo br h0 (by omega)).mono ?_
    rintro e W1 ⟨rfl, O1, hb1, l1, lo1, br1, h1, hn1, hk1⟩
    have HB1 := Lib.hid (HB0.out.trans hb1)
    have C1 := Lib.hid (bk_fr C0.out hb1 hno0.out)
    have hno1 : Hid (¬ O1 x0) := hb1.apart C0.out.lt hno0.out
    obtain ⟨hN1, hK1⟩ := acc_next hN0 hK0 hn1 hk1
    clear hb1 hn1 hk1 hN0 hK0 q0_0
    have q1_0 : W1.cell? ⟨x0, 0, none⟩ = some (.int .i64 4) := by have := C1.out.cell 0; simpa using this
    have q1_4 : W1.cell? ⟨x0, 4, none⟩ = some (.int .u8 c) := by have := C1.out.cell 4; simpa using this
    go_wp2_with fail
    refine (wnum_any c W1 B O1 g l1 d lo1 br1 h1 (by omega)).mono ?_
    rintro e W2 ⟨rfl, O2, hb2, l2, lo2, br2, h2, hn2, hk2⟩
    have HB2 := Lib.hid (HB1.out.trans hb2)
    have C2 := Lib.hid (bk_fr C1.out hb2 hno1.out)
    have hno2 : Hid (¬ O2 x0) := hb2.apart C1.out.lt hno1.out
    obtain ⟨hN2, hK2⟩ := acc_next hN1 hK1 hn2 hk2
    clear hb2 hn2 hk2 hN1 hK1 q1_0 q1_4
    have q2_3 : W2.cell? ⟨x0, 3, none⟩ = some (.slice Am m.length cm) := by have := C2.out.cell 3; simpa using this
    go_wp2_with fail
    refine (pl_mk m (.slice Am m.length cm) W2 B O2 g l2 d lo2 br2 h2 (ls_fr hvm HB2.out hOB) (by omega)).mono ?_
    rintro e W3 ⟨rfl, O3, hb3, l3, lo3, br3, h3, hn3, hk3⟩
    have HB3 := Lib.hid (HB2.out.trans hb3)
    have C3 := Lib.hid (bk_fr C2.out hb3 hno2.out)
    have hno3 : Hid (¬ O3 x0) := hb3.apart C2.out.lt hno2.out
    obtain ⟨hN3, hK3⟩ := acc_next hN2 hK2 hn3 hk3
    clear hb3 hn3 hk3 hN2 hK2 q2_3
    have zf : ∀ k, W3.frozen? ⟨x0, k, none⟩ = false := fun k => C3.out.frozen k
    have z3_4 := zf 4
    have z3_3 := zf 3
    have y3_4 : ∃ u, W3.cell? ⟨x0, 4, none⟩ = some u := ⟨_, by have := C3.out.cell 4; simpa using this⟩
    have y3_3 : ∃ u, W3.cell? ⟨x0, 3, none⟩ = some u := ⟨_, by have := C3.out.cell 3; simpa using this⟩
    obtain ⟨_, y3_4⟩ := y3_4
    obtain ⟨_, y3_3⟩ := y3_3
    have v3_0 : W3.cell? ⟨x0, 0, none⟩ = some (.int .i64 4) := by have := C3.out.cell 0; simpa using this
    have v3_1 : W3.cell? ⟨x0, 1, none⟩ = some (.string tt) := by have := C3.out.cell 1; simpa using this
    have v3_2 : W3.cell? ⟨x0, 2, none⟩ = some (.slice Aa a.length ca) := by have := C3.out.cell 2; simpa using this
    obtain ⟨W3s, hW3s⟩ : ∃ x, Hid (x = ((W3.setCell ⟨x0, 4, none⟩ (.int .u8 0)).setCell ⟨x0, 3, none⟩ (.slice none 0 0))) := ⟨_, Lib.hid rfl⟩
    have HHB3s : Hid (Fr O O3 w W3s) := by show Fr _ _ _ _; rw [hW3s.out]; exact ((HB3.out.set (p := ⟨x0, 4, none⟩) (.inr hx0w) (.int .u8 0)).set (p := ⟨x0, 3, none⟩) (.inr hx0w) (.slice none 0 0))
    have h3s : Wr W3s B O3 g l3 d lo3 br3 := by rw [hW3s.out]; exact (wr_far (wr_far h3 hno3.out 4 (.int .u8 0)) hno3.out 3 (.slice none 0 0))
    have C3s : Hid (Bk W3s x0 57 #[.int .i64 4, .string tt, .slice Aa a.length ca, .slice none 0 0, .int .u8 0]) := by show Bk _ _ _ _; rw [hW3s.out]; simpa using ((C3.out.set 4 (.int .u8 0)).set 3 (.slice none 0 0))
    go_wp2_with fail
    rw [← hW3s.out]
    refine (noTk_any 4 tt Aa none a.length ca 0 0 0 (by decide) W3s B O3 g l3 d lo3 br3 h3s).mono ?_
    rintro e W4 ⟨rfl, O4, hb4, l4, lo4, br4, h4, hn4, hk4⟩
    have HB4 := Lib.hid (HHB3s.out.trans hb4)
    have C4 := Lib.hid (bk_fr C3s.out hb4 hno3.out)
    have hno4 : Hid (¬ O4 x0) := hb4.apart C3s.out.lt hno3.out
    obtain ⟨hN4, hK4⟩ := acc_next hN3 hK3 hn4 hk4
    clear hb4 hn4 hk4 hN3 hK3 
    go_wp2
    go_end0
    refine ⟨rfl, O4, HB4.out, l4, lo4, br4, h4, by unfold uTk; simp only; omega, fun x y => ?_⟩
    obtain ⟨x1, x2, ⟨⟨⟨⟨_, _⟩, y1⟩, y2⟩, ⟨y3, y4, _, _⟩⟩, x7⟩ := hK4.out x y
    exact ⟨x1, x2, .inr (.inr ⟨rfl, size0 y3, List.eq_nil_of_length_eq_zero y4, y2, hc.1, hc.2⟩), by rw [x7]; simp [eTk, eI]⟩
  have e1 : (k == 1) = false := by simpa using k1
  have e2 : (k == 2) = false := by simpa using k2
  have e3 : (k == 3) = false := by simpa using k3
  have e4 : (k == 4) = false := by simpa using k4
  have hOB := fun k hk => (h.own k hk).2
  have hOl := fun k hk => (h.own k hk).1
  obtain ⟨x0, hx0⟩ : ∃ x0, Hid (x0 = w.heap.size) := ⟨_, Lib.hid rfl⟩
  obtain ⟨W0, hW0⟩ : ∃ W0, Hid (W0 = w.alloc (.cells #[.int .i64 k, .string tt, .slice Aa a.length ca, .slice Am m.length cm, .int .u8 c] 57)) := ⟨_, Lib.hid rfl⟩
  have HB0 : Hid (Fr O O w W0) := by show Fr _ _ _ _; rw [hW0.out]; exact (Fr.refl hOl).alloc _
  have h0 : Wr W0 B O g l d lo br := by rw [hW0.out]; exact h.alloc _
  have C0 : Hid (Bk W0 x0 57 #[.int .i64 k, .string tt, .slice Aa a.length ca, .slice Am m.length cm, .int .u8 c]) := by show Bk _ _ _ _; rw [hW0.out, hx0.out]; exact Bk.new _ _ _
  have hno0 : Hid (¬ O x0) := fun hh => by have := hOl _ hh; have := hx0.out; omega
  have hx0w : w.heap.size ≤ x0 := by rw [hx0.out]; exact Nat.le_refl _
  have hN0 : l.length ≤ l.length + 0 := by omega
  have hK0 := acc_0 l lo br
  have hu : ∀ s : ByteArray, 10 ≤ uS s := fun s => by unfold uS; omega
  clear h
  clear k1 k2 k3 k4
  go_enter Tryz.func77, Tryz.ntmps77
  have q0_0 : W0.cell? ⟨x0, 0, none⟩ = some (.int .i64 k) := by have := C0.out.cell 0; simpa using this
  go_wp2_with fail
  rw [← hW0.out, ← hx0.out]
  refine (wnum_any k W0 B O g l d lo br h0 (by omega)).mono ?_
  rintro e W1 ⟨rfl, O1, hb1, l1, lo1, br1, h1, hn1, hk1⟩
  have HB1 := Lib.hid (HB0.out.trans hb1)
  have C1 := Lib.hid (bk_fr C0.out hb1 hno0.out)
  have hno1 : Hid (¬ O1 x0) := hb1.apart C0.out.lt hno0.out
  obtain ⟨hN1, hK1⟩ := acc_next hN0 hK0 hn1 hk1
  clear hb1 hn1 hk1 hN0 hK0 q0_0
  obtain ⟨W2, hW2⟩ : ∃ x, Hid (x = W1.setCell ⟨g, 3, none⟩ (.bool true)) := ⟨_, Lib.hid rfl⟩
  obtain ⟨f2, h2⟩ := wr_wrong HB1.out h1
  rw [← hW2.out] at f2 h2
  have z3 : W1.frozen? ⟨g, 3, none⟩ = false ∧ ∃ u, W1.cell? ⟨g, 3, none⟩ = some u := wr_cell3 h1
  obtain ⟨z3, u3, y3⟩ := z3
  have hxg : g ≠ x0 := fun e => hno1.out (e ▸ wr_g h1)
  have C2 : Hid (Bk W2 x0 57 #[.int .i64 k, .string tt, .slice Aa a.length ca, .slice Am m.length cm, .int .u8 c]) := by show Bk _ _ _ _; rw [hW2.out]; exact C1.out.far (p := ⟨g, 3, none⟩) (fun e => hxg e.symm) _
  have q1_0 : W1.cell? ⟨x0, 0, none⟩ = some (.int .i64 k) := by have := C1.out.cell 0; simpa using this
  have q2_0 : W2.cell? ⟨x0, 0, none⟩ = some (.int .i64 k) := by have := C2.out.cell 0; simpa using this
  have q2_1 : W2.cell? ⟨x0, 1, none⟩ = some (.string tt) := by have := C2.out.cell 1; simpa using this
  have q2_2 : W2.cell? ⟨x0, 2, none⟩ = some (.slice Aa a.length ca) := by have := C2.out.cell 2; simpa using this
  have q2_3 : W2.cell? ⟨x0, 3, none⟩ = some (.slice Am m.length cm) := by have := C2.out.cell 3; simpa using this
  have q2_4 : W2.cell? ⟨x0, 4, none⟩ = some (.int .u8 c) := by have := C2.out.cell 4; simpa using this
  have q1_1 : W1.cell? ⟨x0, 1, none⟩ = some (.string tt) := by have := C1.out.cell 1; simpa using this
  have q1_2 : W1.cell? ⟨x0, 2, none⟩ = some (.slice Aa a.length ca) := by have := C1.out.cell 2; simpa using this
  have q1_3 : W1.cell? ⟨x0, 3, none⟩ = some (.slice Am m.length cm) := by have := C1.out.cell 3; simpa using this
  have q1_4 : W1.cell? ⟨x0, 4, none⟩ = some (.int .u8 c) := by have := C1.out.cell 4; simpa using this
  have HB2 := Lib.hid f2
  go_wp2_with fail
  rw [← hW2.out]
  refine (noTk_any k tt Aa Am a.length ca m.length cm c hc W2 B O1 g l1 d lo1 true h2).mono ?_
  rintro e W3 ⟨rfl, O3, hb3, l3, lo3, br3, h3, hn3, hk3⟩
  go_wp2
  go_end0
  refine ⟨rfl, O3, HB2.out.trans hb3, l3, lo3, br3, h3, by unfold uTk; simp only; omega, fun x y => ?_⟩
  obtain ⟨_, x2, _⟩ := hk3.out x y
  cases x2
end Go.Proofs.YtjajcecenflejaaGreat
