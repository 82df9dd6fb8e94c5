/- YtjajcecenflejaaGreatCz07 -/
import Derived.Test.YtjajcecenflejaaGreatCz06
import Derived.Deep.LoopGhost
namespace Go.Proofs.YtjajcecenflejaaGreat
open Go.RowKit
def sm {T : Type} (f : T → Nat) (L : List T) (k : Nat) : Nat := ((L.take k).map f).sum
theorem sm_succ {T : Type} (f : T → Nat) (L : List T) (k : Nat) (h : k < L.length) : sm f L (k + 1) = sm f L k + f L[k] := by
  unfold sm; rw [List.take_add_one, List.getElem?_eq_getElem h, List.map_append, List.sum_append]; simp
theorem sm_le {T : Type} (f : T → Nat) (L : List T) (k : Nat) : sm f L k ≤ (L.map f).sum := by
  unfold sm
  conv => rhs; rw [← List.take_append_drop k L]
  rw [List.map_append, List.sum_append]; omega
theorem ls_fr {T : Type} [Cl T] {w w' : World} {B : Nat} {O O' : Nat → Prop} {v : Value} {l : List T} (h : Ls w (fun b => b < B) v l) (hb : Fr O O' w w') (hO : ∀ k, O k → B ≤ k) : Ls w' (fun b => b < B) v l := h.keep (hb.kept fun b h1 h2 => by have := hO b h2; omega)
theorem bk_fr {w w' : World} {O O' : Nat → Prop} {x : Nat} {t : TypeId} {cs : Array Value} (h : Bk w x t cs) (hb : Fr O O' w w') (hn : ¬ O x) : Bk w' x t cs := (hb.block x h.lt hn).trans h
theorem box1 (w : World) (o : Obj) : Below w.heap.size w (w.alloc o) := (Below.refl _ _).alloc (Nat.le_refl _) _
set_option maxRecDepth 100000 in
set_option maxHeartbeats 1000000 in
theorem wattr_any (a : At) (w : World) (B : Nat) (O : Nat → Prop) (g : Nat) (l : List UInt8) (d : Int) (lo br : Bool) (h : Wr w B O g l d lo br) (hl : l.length + uAt a ≤ limW) :
    Calls Tryz.prog 54 #[.pointer (some ⟨g, 0, none⟩), .agg #[.string a.n, .string a.v]] w (WrT B O g w l d lo br (okAt a) (eAt a) (uAt a)) := by
  have hOB := fun k hk => (h.own k hk).2
  have hOl := fun k hk => (h.own k hk).1
  have hl' := hl
  unfold uAt at hl'
  obtain ⟨x0, hx0⟩ : ∃ x0, Hid (x0 = w.heap.size) := ⟨_, Lib.hid rfl⟩
  obtain ⟨W0, hW0⟩ : ∃ W0, Hid (W0 = w.alloc (.cells #[.string a.n, .string a.v] 118)) := ⟨_, Lib.hid rfl⟩
  have HB0 : Hid (Fr O O w W0) := by show Fr _ _ _ _; rw [hW0.out]; exact (Fr.refl hOl).alloc _
  have h0 : Wr W0 B O g l d lo br := by rw [hW0.out]; exact h.alloc _
  have C0 : Hid (Bk W0 x0 118 #[.string a.n, .string a.v]) := by show Bk _ _ _ _; rw [hW0.out, hx0.out]; exact Bk.new _ _ _
  have hn0 : Hid (¬ O x0) := fun hh => by have := hOl _ hh; have := hx0.out; omega
  have hu : ∀ s : ByteArray, 10 ≤ uS s := fun s => by unfold uS; omega
  clear h
  go_enter Tryz.func54, Tryz.ntmps54
  have q0 : W0.cell? ⟨x0, 0, none⟩ = some (.string a.n) := by have := C0.out.cell 0; simpa using this
  go_wp2_with fail
  rw [← hW0.out, ← hx0.out]
  refine (wtext_any a.n W0 B O g l d lo br h0 (by omega)).mono ?_
  rintro e W1 ⟨rfl, O1, hb1, l1, lo1, br1, h1, hn1, hk1⟩
  have HB1 := Lib.hid (HB0.out.trans hb1)
  have C1 := Lib.hid (bk_fr C0.out hb1 hn0.out)
  have hno1 : Hid (¬ O1 x0) := hb1.apart C0.out.lt hn0.out
  have hd1 := Lib.hid hb1
  clear hb1 q0
  have q1 : W1.cell? ⟨x0, 1, none⟩ = some (.string a.v) := by have := C1.out.cell 1; simpa using this
  go_wp2_with fail
  refine (wtext_any a.v W1 B O1 g l1 d lo1 br1 h1 (by omega)).mono ?_
  intro e Wn hr
  obtain ⟨rfl, hr2⟩ := hr
  have hr := Lib.hid (show WrT _ _ _ _ _ _ _ _ _ _ _ (.returned (.tuple #[])) Wn from ⟨rfl, hr2⟩)
  clear hr2
  go_wp2
  go_end0
  have r1 := hr.out
  have r0 := WrT.seq hd1.out hn1 hk1 r1
  exact WrT.mono (WrT.from HB0.out r0) (fun hh => hh) (fun _ => rfl) (by unfold uAt; omega)
set_option maxRecDepth 100000 in
set_option maxHeartbeats 1000000 in
theorem pl_at (L : List At) (v : Value) (w : World) (B : Nat) (O : Nat → Prop) (g : Nat) (l : List UInt8) (d : Int) (lo br : Bool) (h : Wr w B O g l d lo br) (hv : Ls w (fun b => b < B) v L) (hl : l.length + uL uAt L ≤ limW) :
    Calls Tryz.prog 53 #[.pointer (some ⟨g, 0, none⟩), v, .func (.func 54) #[] #[]] w (WrT B O g w l d lo br (okL okAt L) (eL eAt L) (uL uAt L)) := by
  obtain ⟨A, cap, rfl⟩ := hv.form
  have hmax := hv.max
  unfold maxLen at hmax
  unfold uL at hl
  have hOB := fun k hk => (h.own k hk).2
  go_enter Tryz.func53, Tryz.ntmps53
  go_wp2_with fail
  refine (within_any (L.length : Int) 65536 w B O g l d lo br h).mono ?_
  rintro e w1 ⟨rfl, hb1, l1, r1, h1, hl1, hr1⟩
  go_wp2_with fail
  refine (wnum_any (L.length : Int) w1 B O g l d l1 r1 h1 (by omega)).mono ?_
  rintro e w2 ⟨rfl, O2, hb2, k2, l2, r2, h2, hlen2, hk2⟩
  have HB := Lib.hid (hb1.trans hb2)
  have HK : Hid (l2 = false → r2 = false → lo = false ∧ br = false ∧ L.length ≤ 65536 ∧ k2 = l ++ uv L.length) := fun a b => by
    obtain ⟨x1, x2, x3, x4⟩ := hk2.out a b
    obtain ⟨y1, y2⟩ := hl1.out x1
    exact ⟨y1, (hr1.out x2).1, by omega, by rw [x4]; rfl⟩
  clear hk2 hl1 hr1 h1 h hb1 hb2
  go_wp2
  go_loopg [18] L.length (fun n s wk => ∃ (k : Nat) (Ok : Nat → Prop) (lk : List UInt8) (lok rk : Bool), k ≤ L.length ∧ n = L.length - k ∧ s = .int .i64 k ∧ Wr wk B Ok g lk d lok rk ∧ Fr O Ok w wk ∧ Hid (lk.length ≤ l.length + 10 + sm uAt L k) ∧
    Hid (lok = false → rk = false → lo = false ∧ br = false ∧ L.length ≤ 65536 ∧ (∀ x ∈ L.take k, okAt x) ∧ lk = l ++ (uv L.length ++ (L.take k).flatMap eAt)))
  case atStart => exact ⟨0, O2, k2, l2, r2, Nat.zero_le _, by omega, rfl, h2, HB.out, by show _ ≤ _; omega, fun a b => by obtain ⟨x1, x2, x3, x4⟩ := HK.out a b; exact ⟨x1, x2, x3, by simp, by rw [x4]; simp⟩⟩
  case round =>
    obtain ⟨k, Ok, lk, lok, rk, hk, hn, rfl, hW, hb, hlk, hok⟩ := hrel
    have HN := Lib.hid hn
    clear hn HB HK h2 hlen2
    by_cases hlt : k < L.length
    · have hvk := ls_fr hv hb hOB
      have hsm := Lib.hid (sm_succ uAt L k hlt)
      have hsl := Lib.hid (sm_le uAt L (k + 1))
      have htk : Hid (L.take (k + 1) = L.take k ++ [L[k]]) := by show _ = _; rw [List.take_add_one, List.getElem?_eq_getElem hlt]; rfl
      have hmem : L[k] ∈ L := List.getElem_mem hlt
      obtain ⟨b, off, rfl, hbb, hcap, a0, a1⟩ := at_at hvk hlt
      obtain ⟨y, hy⟩ : ∃ y, Hid (y = L[k]) := ⟨_, Lib.hid rfl⟩
      rw [← hy.out] at a0 a1
      have hW' := hW
      have hBs := hW.base
      obtain ⟨vw, hbk, how, hBg, hne⟩ := hW
      have c2 := hbk.cell 2
      simp at c2
      have hgl := hbk.lt
      have hyu : Hid (lk.length + uAt y ≤ limW) := by show _ ≤ _; have := hlk.out; have := hsm.out; have := hsl.out; rw [hy.out]; omega
      have hi0 : (0 : Int) ≤ (k : Int) := by omega
      have hi1 : (k : Int) < (L.length : Int) := by omega
      clear hbk how hv
      cases lok
      · go_wp2_with fail
        refine (wattr_any y _ B Ok g lk d false rk (hW'.alloc _) hyu.out).mono ?_
        rintro e w4 ⟨rfl, O4, hb4, l4, lo4, r4, h4, hlen4, hk4⟩
        have hbb4 := Lib.hid ((hb.alloc _).trans hb4)
        have HL4 : Hid (l4.length ≤ l.length + 10 + sm uAt L (k + 1)) := by show _ ≤ _; have := hlk.out; have := hsm.out; rw [← hy.out] at this; omega
        have HK4 : Hid (lo4 = false → r4 = false → lo = false ∧ br = false ∧ L.length ≤ 65536 ∧ (∀ x ∈ L.take (k + 1), okAt x) ∧ l4 = l ++ (uv L.length ++ (L.take (k + 1)).flatMap eAt)) := fun a b => by
          obtain ⟨x1, x2, x3, x4⟩ := hk4.out a b
          obtain ⟨y1, y2, y3, y4, y5⟩ := hok.out (by first | rfl | trivial) x2
          refine ⟨y1, y2, y3, ?_, ?_⟩
          · rw [htk.out]
            intro x hx
            rcases List.mem_append.1 hx with hx | hx
            · exact y4 x hx
            · rw [List.mem_singleton.1 hx, ← hy.out]; exact x3
          · rw [htk.out, x4, y5, List.flatMap_append, ← hy.out]
            simp [List.append_assoc]
        clear hk4 hlen4 hb4 hb hok hlk hW'
        go_wp2
        go_roundg (L.length - (k + 1))
        case measure => have := HN.out; omega
        case rel => exact ⟨k + 1, O4, l4, lo4, r4, by omega, rfl, by go_num, h4, hbb4.out, HL4, HK4⟩
      · go_wp2
        go_end0
        exact ⟨rfl, Ok, hb.alloc _, lk, true, rk, hW'.alloc _, by have := hlk.out; have := sm_le uAt L k; unfold uL; omega, fun a => by cases a⟩
    · have hkl : k = L.length := by omega
      have hi1 : ¬ (k : Int) < (L.length : Int) := by omega
      have HKL := Lib.hid hkl
      clear hkl
      go_wp2
      go_end0
      refine ⟨rfl, Ok, hb, lk, lok, rk, hW, by have := hlk.out; have := sm_le uAt L k; unfold uL; omega, fun a b => ?_⟩
      obtain ⟨x1, x2, x3, x4, x5⟩ := hok.out a b
      rw [HKL.out, List.take_length] at x4 x5
      exact ⟨x1, x2, ⟨x3, x4⟩, x5⟩
set_option maxRecDepth 100000 in
set_option maxHeartbeats 1000000 in
theorem wmark_any (a : Mk) (va : Value) (w : World) (B : Nat) (O : Nat → Prop) (g : Nat) (l : List UInt8) (d : Int) (lo br : Bool) (h : Wr w B O g l d lo br) (hva : Ls w (fun b => b < B) va a.a) (hl : l.length + uMk a ≤ limW) :
    Calls Tryz.prog 56 #[.pointer (some ⟨g, 0, none⟩), .agg #[.string a.t, va]] w (WrT B O g w l d lo br (okMk a) (eMk a) (uMk a)) := by
  have hOB := fun k hk => (h.own k hk).2
  have hOl := fun k hk => (h.own k hk).1
  have hl' := hl
  unfold uMk at hl'
  obtain ⟨x0, hx0⟩ : ∃ x0, Hid (x0 = w.heap.size) := ⟨_, Lib.hid rfl⟩
  obtain ⟨W0, hW0⟩ : ∃ W0, Hid (W0 = w.alloc (.cells #[.string a.t, va] 60)) := ⟨_, Lib.hid rfl⟩
  have HB0 : Hid (Fr O O w W0) := by show Fr _ _ _ _; rw [hW0.out]; exact (Fr.refl hOl).alloc _
  have h0 : Wr W0 B O g l d lo br := by rw [hW0.out]; exact h.alloc _
  have C0 : Hid (Bk W0 x0 60 #[.string a.t, va]) := by show Bk _ _ _ _; rw [hW0.out, hx0.out]; exact Bk.new _ _ _
  have hn0 : Hid (¬ O x0) := fun hh => by have := hOl _ hh; have := hx0.out; omega
  have hu : ∀ s : ByteArray, 10 ≤ uS s := fun s => by unfold uS; omega
  clear h
  go_enter Tryz.func56, Tryz.ntmps56
  have q0 : W0.cell? ⟨x0, 0, none⟩ = some (.string a.t) := by have := C0.out.cell 0; simpa using this
  go_wp2_with fail
  rw [← hW0.out, ← hx0.out]
  refine (wtext_any a.t W0 B O g l d lo br h0 (by omega)).mono ?_
  rintro e W1 ⟨rfl, O1, hb1, l1, lo1, br1, h1, hn1, hk1⟩
  have HB1 := Lib.hid (HB0.out.trans hb1)
  have C1 := Lib.hid (bk_fr C0.out hb1 hn0.out)
  have hno1 : Hid (¬ O1 x0) := hb1.apart C0.out.lt hn0.out
  have hd1 := Lib.hid hb1
  clear hb1 q0
  have q1 : W1.cell? ⟨x0, 1, none⟩ = some (va) := by have := C1.out.cell 1; simpa using this
  go_wp2_with fail
  refine (pl_at a.a va W1 B O1 g l1 d lo1 br1 h1 (ls_fr hva HB1.out hOB) (by omega)).mono ?_
  intro e Wn hr
  obtain ⟨rfl, hr2⟩ := hr
  have hr := Lib.hid (show WrT _ _ _ _ _ _ _ _ _ _ _ (.returned (.tuple #[])) Wn from ⟨rfl, hr2⟩)
  clear hr2
  go_wp2
  go_end0
  have r1 := hr.out
  have r0 := WrT.seq hd1.out hn1 hk1 r1
  exact WrT.mono (WrT.from HB0.out r0) (fun hh => hh) (fun _ => rfl) (by unfold uMk; omega)
set_option maxRecDepth 100000 in
set_option maxHeartbeats 1000000 in
theorem pl_mk (L : List Mk) (v : Value) (w : World) (B : Nat) (O : Nat → Prop) (g : Nat) (l : List UInt8) (d : Int) (lo br : Bool) (h : Wr w B O g l d lo br) (hv : Ls w (fun b => b < B) v L) (hl : l.length + uL uMk L ≤ limW) :
    Calls Tryz.prog 55 #[.pointer (some ⟨g, 0, none⟩), v, .func (.func 56) #[] #[]] w (WrT B O g w l d lo br (okL okMk L) (eL eMk L) (uL uMk L)) := by
  obtain ⟨A, cap, rfl⟩ := hv.form
  have hmax := hv.max
  unfold maxLen at hmax
  unfold uL at hl
  have hOB := fun k hk => (h.own k hk).2
  go_enter Tryz.func55, Tryz.ntmps55
  go_wp2_with fail
  refine (within_any (L.length : Int) 65536 w B O g l d lo br h).mono ?_
  rintro e w1 ⟨rfl, hb1, l1, r1, h1, hl1, hr1⟩
  go_wp2_with fail
  refine (wnum_any (L.length : Int) w1 B O g l d l1 r1 h1 (by omega)).mono ?_
  rintro e w2 ⟨rfl, O2, hb2, k2, l2, r2, h2, hlen2, hk2⟩
  have HB := Lib.hid (hb1.trans hb2)
  have HK : Hid (l2 = false → r2 = false → lo = false ∧ br = false ∧ L.length ≤ 65536 ∧ k2 = l ++ uv L.length) := fun a b => by
    obtain ⟨x1, x2, x3, x4⟩ := hk2.out a b
    obtain ⟨y1, y2⟩ := hl1.out x1
    exact ⟨y1, (hr1.out x2).1, by omega, by rw [x4]; rfl⟩
  clear hk2 hl1 hr1 h1 h hb1 hb2
  go_wp2
  go_loopg [18] L.length (fun n s wk => ∃ (k : Nat) (Ok : Nat → Prop) (lk : List UInt8) (lok rk : Bool), k ≤ L.length ∧ n = L.length - k ∧ s = .int .i64 k ∧ Wr wk B Ok g lk d lok rk ∧ Fr O Ok w wk ∧ Hid (lk.length ≤ l.length + 10 + sm uMk L k) ∧
    Hid (lok = false → rk = false → lo = false ∧ br = false ∧ L.length ≤ 65536 ∧ (∀ x ∈ L.take k, okMk x) ∧ lk = l ++ (uv L.length ++ (L.take k).flatMap eMk)))
  case atStart => exact ⟨0, O2, k2, l2, r2, Nat.zero_le _, by omega, rfl, h2, HB.out, by show _ ≤ _; omega, fun a b => by obtain ⟨x1, x2, x3, x4⟩ := HK.out a b; exact ⟨x1, x2, x3, by simp, by rw [x4]; simp⟩⟩
  case round =>
    obtain ⟨k, Ok, lk, lok, rk, hk, hn, rfl, hW, hb, hlk, hok⟩ := hrel
    have HN := Lib.hid hn
    clear hn HB HK h2 hlen2
    by_cases hlt : k < L.length
    · have hvk := ls_fr hv hb hOB
      have hsm := Lib.hid (sm_succ uMk L k hlt)
      have hsl := Lib.hid (sm_le uMk L (k + 1))
      have htk : Hid (L.take (k + 1) = L.take k ++ [L[k]]) := by show _ = _; rw [List.take_add_one, List.getElem?_eq_getElem hlt]; rfl
      have hmem : L[k] ∈ L := List.getElem_mem hlt
      obtain ⟨b, off, va, rfl, hbb, hcap, a0, a1, ra⟩ := at_mk hvk hlt
      obtain ⟨y, hy⟩ : ∃ y, Hid (y = L[k]) := ⟨_, Lib.hid rfl⟩
      rw [← hy.out] at a0 ra
      obtain ⟨Ara, cra, rfl⟩ := ra.form
      have hW' := hW
      have hBs := hW.base
      obtain ⟨vw, hbk, how, hBg, hne⟩ := hW
      have c2 := hbk.cell 2
      simp at c2
      have hgl := hbk.lt
      have hyu : Hid (lk.length + uMk y ≤ limW) := by show _ ≤ _; have := hlk.out; have := hsm.out; have := hsl.out; rw [hy.out]; omega
      have hi0 : (0 : Int) ≤ (k : Int) := by omega
      have hi1 : (k : Int) < (L.length : Int) := by omega
      clear hbk how hv
      cases lok
      · go_wp2_with fail
        refine (wmark_any y _ _ B Ok g lk d false rk (hW'.alloc _) (ra.under (box1 _ _)) hyu.out).mono ?_
        rintro e w4 ⟨rfl, O4, hb4, l4, lo4, r4, h4, hlen4, hk4⟩
        have hbb4 := Lib.hid ((hb.alloc _).trans hb4)
        have HL4 : Hid (l4.length ≤ l.length + 10 + sm uMk L (k + 1)) := by show _ ≤ _; have := hlk.out; have := hsm.out; rw [← hy.out] at this; omega
        have HK4 : Hid (lo4 = false → r4 = false → lo = false ∧ br = false ∧ L.length ≤ 65536 ∧ (∀ x ∈ L.take (k + 1), okMk x) ∧ l4 = l ++ (uv L.length ++ (L.take (k + 1)).flatMap eMk)) := fun a b => by
          obtain ⟨x1, x2, x3, x4⟩ := hk4.out a b
          obtain ⟨y1, y2, y3, y4, y5⟩ := hok.out (by first | rfl | trivial) x2
          refine ⟨y1, y2, y3, ?_, ?_⟩
          · rw [htk.out]
            intro x hx
            rcases List.mem_append.1 hx with hx | hx
            · exact y4 x hx
            · rw [List.mem_singleton.1 hx, ← hy.out]; exact x3
          · rw [htk.out, x4, y5, List.flatMap_append, ← hy.out]
            simp [List.append_assoc]
        clear hk4 hlen4 hb4 hb hok hlk hW'
        go_wp2
        go_roundg (L.length - (k + 1))
        case measure => have := HN.out; omega
        case rel => exact ⟨k + 1, O4, l4, lo4, r4, by omega, rfl, by go_num, h4, hbb4.out, HL4, HK4⟩
      · go_wp2
        go_end0
        exact ⟨rfl, Ok, hb.alloc _, lk, true, rk, hW'.alloc _, by have := hlk.out; have := sm_le uMk L k; unfold uL; omega, fun a => by cases a⟩
    · have hkl : k = L.length := by omega
      have hi1 : ¬ (k : Int) < (L.length : Int) := by omega
      have HKL := Lib.hid hkl
      clear hkl
      go_wp2
      go_end0
      refine ⟨rfl, Ok, hb, lk, lok, rk, hW, by have := hlk.out; have := sm_le uMk L k; unfold uL; omega, fun a b => ?_⟩
      obtain ⟨x1, x2, x3, x4, x5⟩ := hok.out a b
      rw [HKL.out, List.take_length] at x4 x5
      exact ⟨x1, x2, ⟨x3, x4⟩, x5⟩
set_option maxRecDepth 100000 in
set_option maxHeartbeats 1000000 in
theorem wspec_any (a : Sp) (w : World) (B : Nat) (O : Nat → Prop) (g : Nat) (l : List UInt8) (d : Int) (lo br : Bool) (h : Wr w B O g l d lo br) (hl : l.length + uSp a ≤ limW) :
    Calls Tryz.prog 92 #[.pointer (some ⟨g, 0, none⟩), .agg #[.string a.n, .string a.d, .bool a.m]] w (WrT B O g w l d lo br (okSp a) (eSp a) (uSp a)) := by
  have hOB := fun k hk => (h.own k hk).2
  have hOl := fun k hk => (h.own k hk).1
  have hl' := hl
  unfold uSp at hl'
  obtain ⟨x0, hx0⟩ : ∃ x0, Hid (x0 = w.heap.size) := ⟨_, Lib.hid rfl⟩
  obtain ⟨W0, hW0⟩ : ∃ W0, Hid (W0 = w.alloc (.cells #[.string a.n, .string a.d, .bool a.m] 169)) := ⟨_, Lib.hid rfl⟩
  have HB0 : Hid (Fr O O w W0) := by show Fr _ _ _ _; rw [hW0.out]; exact (Fr.refl hOl).alloc _
  have h0 : Wr W0 B O g l d lo br := by rw [hW0.out]; exact h.alloc _
  have C0 : Hid (Bk W0 x0 169 #[.string a.n, .string a.d, .bool a.m]) := by show Bk _ _ _ _; rw [hW0.out, hx0.out]; exact Bk.new _ _ _
  have hn0 : Hid (¬ O x0) := fun hh => by have := hOl _ hh; have := hx0.out; omega
  have hu : ∀ s : ByteArray, 10 ≤ uS s := fun s => by unfold uS; omega
  clear h
  go_enter Tryz.func92, Tryz.ntmps92
  have q0 : W0.cell? ⟨x0, 0, none⟩ = some (.string a.n) := by have := C0.out.cell 0; simpa using this
  go_wp2_with fail
  rw [← hW0.out, ← hx0.out]
  refine (wtext_any a.n W0 B O g l d lo br h0 (by omega)).mono ?_
  rintro e W1 ⟨rfl, O1, hb1, l1, lo1, br1, h1, hn1, hk1⟩
  have HB1 := Lib.hid (HB0.out.trans hb1)
  have C1 := Lib.hid (bk_fr C0.out hb1 hn0.out)
  have hno1 : Hid (¬ O1 x0) := hb1.apart C0.out.lt hn0.out
  have hd1 := Lib.hid hb1
  clear hb1 q0
  have q1 : W1.cell? ⟨x0, 1, none⟩ = some (.string a.d) := by have := C1.out.cell 1; simpa using this
  go_wp2_with fail
  refine (wtext_any a.d W1 B O1 g l1 d lo1 br1 h1 (by omega)).mono ?_
  rintro e W2 ⟨rfl, O2, hb2, l2, lo2, br2, h2, hn2, hk2⟩
  have HB2 := Lib.hid (HB1.out.trans hb2)
  have C2 := Lib.hid (bk_fr C1.out hb2 hno1.out)
  have hno2 : Hid (¬ O2 x0) := hb2.apart C1.out.lt hno1.out
  have hd2 := Lib.hid hb2
  clear hb2 q1
  have q2 : W2.cell? ⟨x0, 2, none⟩ = some (.bool a.m) := by have := C2.out.cell 2; simpa using this
  go_wp2_with fail
  refine (wtruth_any a.m W2 B O2 g l2 d lo2 br2 h2 (by omega)).mono ?_
  intro e Wn hr
  obtain ⟨rfl, hr2⟩ := hr
  have hr := Lib.hid (show WrT _ _ _ _ _ _ _ _ _ _ _ (.returned (.tuple #[])) Wn from ⟨rfl, hr2⟩)
  clear hr2
  go_wp2
  go_end0
  have r2 := hr.out
  have r1 := WrT.seq hd2.out hn2 hk2 r2
  have r0 := WrT.seq hd1.out hn1 hk1 r1
  exact WrT.mono (WrT.from HB0.out r0) (fun hh => ⟨hh.1, hh.2.1⟩) (fun _ => rfl) (by unfold uSp; omega)
set_option maxRecDepth 100000 in
set_option maxHeartbeats 1000000 in
theorem pl_sp (L : List Sp) (v : Value) (w : World) (B : Nat) (O : Nat → Prop) (g : Nat) (l : List UInt8) (d : Int) (lo br : Bool) (h : Wr w B O g l d lo br) (hv : Ls w (fun b => b < B) v L) (hl : l.length + uL uSp L ≤ limW) :
    Calls Tryz.prog 91 #[.pointer (some ⟨g, 0, none⟩), v, .func (.func 92) #[] #[]] w (WrT B O g w l d lo br (okL okSp L) (eL eSp L) (uL uSp L)) := by
  obtain ⟨A, cap, rfl⟩ := hv.form
  have hmax := hv.max
  unfold maxLen at hmax
  unfold uL at hl
  have hOB := fun k hk => (h.own k hk).2
  go_enter Tryz.func91, Tryz.ntmps91
  go_wp2_with fail
  refine (within_any (L.length : Int) 65536 w B O g l d lo br h).mono ?_
  rintro e w1 ⟨rfl, hb1, l1, r1, h1, hl1, hr1⟩
  go_wp2_with fail
  refine (wnum_any (L.length : Int) w1 B O g l d l1 r1 h1 (by omega)).mono ?_
  rintro e w2 ⟨rfl, O2, hb2, k2, l2, r2, h2, hlen2, hk2⟩
  have HB := Lib.hid (hb1.trans hb2)
  have HK : Hid (l2 = false → r2 = false → lo = false ∧ br = false ∧ L.length ≤ 65536 ∧ k2 = l ++ uv L.length) := fun a b => by
    obtain ⟨x1, x2, x3, x4⟩ := hk2.out a b
    obtain ⟨y1, y2⟩ := hl1.out x1
    exact ⟨y1, (hr1.out x2).1, by omega, by rw [x4]; rfl⟩
  clear hk2 hl1 hr1 h1 h hb1 hb2
  go_wp2
  go_loopg [18] L.length (fun n s wk => ∃ (k : Nat) (Ok : Nat → Prop) (lk : List UInt8) (lok rk : Bool), k ≤ L.length ∧ n = L.length - k ∧ s = .int .i64 k ∧ Wr wk B Ok g lk d lok rk ∧ Fr O Ok w wk ∧ Hid (lk.length ≤ l.length + 10 + sm uSp L k) ∧
    Hid (lok = false → rk = false → lo = false ∧ br = false ∧ L.length ≤ 65536 ∧ (∀ x ∈ L.take k, okSp x) ∧ lk = l ++ (uv L.length ++ (L.take k).flatMap eSp)))
  case atStart => exact ⟨0, O2, k2, l2, r2, Nat.zero_le _, by omega, rfl, h2, HB.out, by show _ ≤ _; omega, fun a b => by obtain ⟨x1, x2, x3, x4⟩ := HK.out a b; exact ⟨x1, x2, x3, by simp, by rw [x4]; simp⟩⟩
  case round =>
    obtain ⟨k, Ok, lk, lok, rk, hk, hn, rfl, hW, hb, hlk, hok⟩ := hrel
    have HN := Lib.hid hn
    clear hn HB HK h2 hlen2
    by_cases hlt : k < L.length
    · have hvk := ls_fr hv hb hOB
      have hsm := Lib.hid (sm_succ uSp L k hlt)
      have hsl := Lib.hid (sm_le uSp L (k + 1))
      have htk : Hid (L.take (k + 1) = L.take k ++ [L[k]]) := by show _ = _; rw [List.take_add_one, List.getElem?_eq_getElem hlt]; rfl
      have hmem : L[k] ∈ L := List.getElem_mem hlt
      obtain ⟨b, off, rfl, hbb, hcap, a0, a1, a2⟩ := at_sp hvk hlt
      obtain ⟨y, hy⟩ : ∃ y, Hid (y = L[k]) := ⟨_, Lib.hid rfl⟩
      rw [← hy.out] at a0 a1 a2
      have hW' := hW
      have hBs := hW.base
      obtain ⟨vw, hbk, how, hBg, hne⟩ := hW
      have c2 := hbk.cell 2
      simp at c2
      have hgl := hbk.lt
      have hyu : Hid (lk.length + uSp y ≤ limW) := by show _ ≤ _; have := hlk.out; have := hsm.out; have := hsl.out; rw [hy.out]; omega
      have hi0 : (0 : Int) ≤ (k : Int) := by omega
      have hi1 : (k : Int) < (L.length : Int) := by omega
      clear hbk how hv
      cases lok
      · go_wp2_with fail
        refine (wspec_any y _ B Ok g lk d false rk (hW'.alloc _) hyu.out).mono ?_
        rintro e w4 ⟨rfl, O4, hb4, l4, lo4, r4, h4, hlen4, hk4⟩
        have hbb4 := Lib.hid ((hb.alloc _).trans hb4)
        have HL4 : Hid (l4.length ≤ l.length + 10 + sm uSp L (k + 1)) := by show _ ≤ _; have := hlk.out; have := hsm.out; rw [← hy.out] at this; omega
        have HK4 : Hid (lo4 = false → r4 = false → lo = false ∧ br = false ∧ L.length ≤ 65536 ∧ (∀ x ∈ L.take (k + 1), okSp x) ∧ l4 = l ++ (uv L.length ++ (L.take (k + 1)).flatMap eSp)) := fun a b => by
          obtain ⟨x1, x2, x3, x4⟩ := hk4.out a b
          obtain ⟨y1, y2, y3, y4, y5⟩ := hok.out (by first | rfl | trivial) x2
          refine ⟨y1, y2, y3, ?_, ?_⟩
          · rw [htk.out]
            intro x hx
            rcases List.mem_append.1 hx with hx | hx
            · exact y4 x hx
            · rw [List.mem_singleton.1 hx, ← hy.out]; exact x3
          · rw [htk.out, x4, y5, List.flatMap_append, ← hy.out]
            simp [List.append_assoc]
        clear hk4 hlen4 hb4 hb hok hlk hW'
        go_wp2
        go_roundg (L.length - (k + 1))
        case measure => have := HN.out; omega
        case rel => exact ⟨k + 1, O4, l4, lo4, r4, by omega, rfl, by go_num, h4, hbb4.out, HL4, HK4⟩
      · go_wp2
        go_end0
        exact ⟨rfl, Ok, hb.alloc _, lk, true, rk, hW'.alloc _, by have := hlk.out; have := sm_le uSp L k; unfold uL; omega, fun a => by cases a⟩
    · have hkl : k = L.length := by omega
      have hi1 : ¬ (k : Int) < (L.length : Int) := by omega
      have HKL := Lib.hid hkl
      clear hkl
      go_wp2
      go_end0
      refine ⟨rfl, Ok, hb, lk, lok, rk, hW, by have := hlk.out; have := sm_le uSp L k; unfold uL; omega, fun a b => ?_⟩
      obtain ⟨x1, x2, x3, x4, x5⟩ := hok.out a b
      rw [HKL.out, List.take_length] at x4 x5
      exact ⟨x1, x2, ⟨x3, x4⟩, x5⟩
set_option maxRecDepth 100000 in
set_option maxHeartbeats 1000000 in
theorem pl_s (L : List ByteArray) (v : Value) (w : World) (B : Nat) (O : Nat → Prop) (g : Nat) (l : List UInt8) (d : Int) (lo br : Bool) (h : Wr w B O g l d lo br) (hv : Ls w (fun b => b < B) v L) (hl : l.length + uL uS L ≤ limW) :
    Calls Tryz.prog 89 #[.pointer (some ⟨g, 0, none⟩), v, .func (.func 52) #[] #[]] w (WrT B O g w l d lo br (okL okS L) (eL eS L) (uL uS L)) := by
  obtain ⟨A, cap, rfl⟩ := hv.form
  have hmax := hv.max
  unfold maxLen at hmax
  unfold uL at hl
  have hOB := fun k hk => (h.own k hk).2
  go_enter Tryz.func89, Tryz.ntmps89
  go_wp2_with fail
  refine (within_any (L.length : Int) 65536 w B O g l d lo br h).mono ?_
  rintro e w1 ⟨rfl, hb1, l1, r1, h1, hl1, hr1⟩
  go_wp2_with fail
  refine (wnum_any (L.length : Int) w1 B O g l d l1 r1 h1 (by omega)).mono ?_
  rintro e w2 ⟨rfl, O2, hb2, k2, l2, r2, h2, hlen2, hk2⟩
  have HB := Lib.hid (hb1.trans hb2)
  have HK : Hid (l2 = false → r2 = false → lo = false ∧ br = false ∧ L.length ≤ 65536 ∧ k2 = l ++ uv L.length) := fun a b => by
    obtain ⟨x1, x2, x3, x4⟩ := hk2.out a b
    obtain ⟨y1, y2⟩ := hl1.out x1
    exact ⟨y1, (hr1.out x2).1, by omega, by rw [x4]; rfl⟩
  clear hk2 hl1 hr1 h1 h hb1 hb2
  go_wp2
  go_loopg [18] L.length (fun n s wk => ∃ (k : Nat) (Ok : Nat → Prop) (lk : List UInt8) (lok rk : Bool), k ≤ L.length ∧ n = L.length - k ∧ s = .int .i64 k ∧ Wr wk B Ok g lk d lok rk ∧ Fr O Ok w wk ∧ Hid (lk.length ≤ l.length + 10 + sm uS L k) ∧
    Hid (lok = false → rk = false → lo = false ∧ br = false ∧ L.length ≤ 65536 ∧ (∀ x ∈ L.take k, okS x) ∧ lk = l ++ (uv L.length ++ (L.take k).flatMap eS)))
  case atStart => exact ⟨0, O2, k2, l2, r2, Nat.zero_le _, by omega, rfl, h2, HB.out, by show _ ≤ _; omega, fun a b => by obtain ⟨x1, x2, x3, x4⟩ := HK.out a b; exact ⟨x1, x2, x3, by simp, by rw [x4]; simp⟩⟩
  case round =>
    obtain ⟨k, Ok, lk, lok, rk, hk, hn, rfl, hW, hb, hlk, hok⟩ := hrel
    have HN := Lib.hid hn
    clear hn HB HK h2 hlen2
    by_cases hlt : k < L.length
    · have hvk := ls_fr hv hb hOB
      have hsm := Lib.hid (sm_succ uS L k hlt)
      have hsl := Lib.hid (sm_le uS L (k + 1))
      have htk : Hid (L.take (k + 1) = L.take k ++ [L[k]]) := by show _ = _; rw [List.take_add_one, List.getElem?_eq_getElem hlt]; rfl
      have hmem : L[k] ∈ L := List.getElem_mem hlt
      obtain ⟨b, off, rfl, hbb, hcap, a0⟩ := at_s hvk hlt
      obtain ⟨y, hy⟩ : ∃ y, Hid (y = L[k]) := ⟨_, Lib.hid rfl⟩
      rw [← hy.out] at a0
      have hW' := hW
      have hBs := hW.base
      obtain ⟨vw, hbk, how, hBg, hne⟩ := hW
      have c2 := hbk.cell 2
      simp at c2
      have hgl := hbk.lt
      have hyu : Hid (lk.length + uS y ≤ limW) := by show _ ≤ _; have := hlk.out; have := hsm.out; have := hsl.out; rw [hy.out]; omega
      have hi0 : (0 : Int) ≤ (k : Int) := by omega
      have hi1 : (k : Int) < (L.length : Int) := by omega
      clear hbk how hv
      cases lok
      · go_wp2_with fail
        refine (wtext_any y _ B Ok g lk d false rk hW' hyu.out).mono ?_
        rintro e w4 ⟨rfl, O4, hb4, l4, lo4, r4, h4, hlen4, hk4⟩
        have hbb4 := Lib.hid ((hb).trans hb4)
        have HL4 : Hid (l4.length ≤ l.length + 10 + sm uS L (k + 1)) := by show _ ≤ _; have := hlk.out; have := hsm.out; rw [← hy.out] at this; omega
        have HK4 : Hid (lo4 = false → r4 = false → lo = false ∧ br = false ∧ L.length ≤ 65536 ∧ (∀ x ∈ L.take (k + 1), okS x) ∧ l4 = l ++ (uv L.length ++ (L.take (k + 1)).flatMap eS)) := fun a b => by
          obtain ⟨x1, x2, x3, x4⟩ := hk4.out a b
          obtain ⟨y1, y2, y3, y4, y5⟩ := hok.out (by first | rfl | trivial) x2
          refine ⟨y1, y2, y3, ?_, ?_⟩
          · rw [htk.out]
            intro x hx
            rcases List.mem_append.1 hx with hx | hx
            · exact y4 x hx
            · rw [List.mem_singleton.1 hx, ← hy.out]; exact x3
          · rw [htk.out, x4, y5, List.flatMap_append, ← hy.out]
            simp [List.append_assoc]
        clear hk4 hlen4 hb4 hb hok hlk hW'
        go_wp2
        go_roundg (L.length - (k + 1))
        case measure => have := HN.out; omega
        case rel => exact ⟨k + 1, O4, l4, lo4, r4, by omega, rfl, by go_num, h4, hbb4.out, HL4, HK4⟩
      · go_wp2
        go_end0
        exact ⟨rfl, Ok, hb, lk, true, rk, hW', by have := hlk.out; have := sm_le uS L k; unfold uL; omega, fun a => by cases a⟩
    · have hkl : k = L.length := by omega
      have hi1 : ¬ (k : Int) < (L.length : Int) := by omega
      have HKL := Lib.hid hkl
      clear hkl
      go_wp2
      go_end0
      refine ⟨rfl, Ok, hb, lk, lok, rk, hW, by have := hlk.out; have := sm_le uS L k; unfold uL; omega, fun a b => ?_⟩
      obtain ⟨x1, x2, x3, x4, x5⟩ := hok.out a b
      rw [HKL.out, List.take_length] at x4 x5
      exact ⟨x1, x2, ⟨x3, x4⟩, x5⟩
set_option maxRecDepth 100000 in
set_option maxHeartbeats 1000000 in
theorem wnodeType_any (a : Ty) (vg : Value) (va : Value) (vm : Value) (w : World) (B : Nat) (O : Nat → Prop) (g : Nat) (l : List UInt8) (d : Int) (lo br : Bool) (h : Wr w B O g l d lo br) (hvg : Ls w (fun b => b < B) vg a.g) (hva : Ls w (fun b => b < B) va a.a) (hvm : Ls w (fun b => b < B) vm a.m) (hl : l.length + uTy a ≤ limW) :
    Calls Tryz.prog 66 #[.pointer (some ⟨g, 0, none⟩), .agg #[.string a.n, .string a.c, vg, .bool a.i, va, vm]] w (WrT B O g w l d lo br (okTy a) (eTy a) (uTy a)) := by
  have hOB := fun k hk => (h.own k hk).2
  have hOl := fun k hk => (h.own k hk).1
  have hl' := hl
  unfold uTy at hl'
  obtain ⟨x0, hx0⟩ : ∃ x0, Hid (x0 = w.heap.size) := ⟨_, Lib.hid rfl⟩
  obtain ⟨W0, hW0⟩ : ∃ W0, Hid (W0 = w.alloc (.cells #[.string a.n, .string a.c, vg, .bool a.i, va, vm] 69)) := ⟨_, Lib.hid rfl⟩
  have HB0 : Hid (Fr O O w W0) := by show Fr _ _ _ _; rw [hW0.out]; exact (Fr.refl hOl).alloc _
  have h0 : Wr W0 B O g l d lo br := by rw [hW0.out]; exact h.alloc _
  have C0 : Hid (Bk W0 x0 69 #[.string a.n, .string a.c, vg, .bool a.i, va, vm]) := by show Bk _ _ _ _; rw [hW0.out, hx0.out]; exact Bk.new _ _ _
  have hn0 : Hid (¬ O x0) := fun hh => by have := hOl _ hh; have := hx0.out; omega
  have hu : ∀ s : ByteArray, 10 ≤ uS s := fun s => by unfold uS; omega
  clear h
  go_enter Tryz.func66, Tryz.ntmps66
  have q0 : W0.cell? ⟨x0, 0, none⟩ = some (.string a.n) := by have := C0.out.cell 0; simpa using this
  go_wp2_with fail
  rw [← hW0.out, ← hx0.out]
  refine (wtext_any a.n W0 B O g l d lo br h0 (by omega)).mono ?_
  rintro e W1 ⟨rfl, O1, hb1, l1, lo1, br1, h1, hn1, hk1⟩
  have HB1 := Lib.hid (HB0.out.trans hb1)
  have C1 := Lib.hid (bk_fr C0.out hb1 hn0.out)
  have hno1 : Hid (¬ O1 x0) := hb1.apart C0.out.lt hn0.out
  have hd1 := Lib.hid hb1
  clear hb1 q0
  have q1 : W1.cell? ⟨x0, 1, none⟩ = some (.string a.c) := by have := C1.out.cell 1; simpa using this
  go_wp2_with fail
  refine (wtext_any a.c W1 B O1 g l1 d lo1 br1 h1 (by omega)).mono ?_
  rintro e W2 ⟨rfl, O2, hb2, l2, lo2, br2, h2, hn2, hk2⟩
  have HB2 := Lib.hid (HB1.out.trans hb2)
  have C2 := Lib.hid (bk_fr C1.out hb2 hno1.out)
  have hno2 : Hid (¬ O2 x0) := hb2.apart C1.out.lt hno1.out
  have hd2 := Lib.hid hb2
  clear hb2 q1
  have q2 : W2.cell? ⟨x0, 2, none⟩ = some (vg) := by have := C2.out.cell 2; simpa using this
  go_wp2_with fail
  refine (pl_s a.g vg W2 B O2 g l2 d lo2 br2 h2 (ls_fr hvg HB2.out hOB) (by omega)).mono ?_
  rintro e W3 ⟨rfl, O3, hb3, l3, lo3, br3, h3, hn3, hk3⟩
  have HB3 := Lib.hid (HB2.out.trans hb3)
  have C3 := Lib.hid (bk_fr C2.out hb3 hno2.out)
  have hno3 : Hid (¬ O3 x0) := hb3.apart C2.out.lt hno2.out
  have hd3 := Lib.hid hb3
  clear hb3 q2
  have q3 : W3.cell? ⟨x0, 3, none⟩ = some (.bool a.i) := by have := C3.out.cell 3; simpa using this
  go_wp2_with fail
  refine (wtruth_any a.i W3 B O3 g l3 d lo3 br3 h3 (by omega)).mono ?_
  rintro e W4 ⟨rfl, O4, hb4, l4, lo4, br4, h4, hn4, hk4⟩
  have HB4 := Lib.hid (HB3.out.trans hb4)
  have C4 := Lib.hid (bk_fr C3.out hb4 hno3.out)
  have hno4 : Hid (¬ O4 x0) := hb4.apart C3.out.lt hno3.out
  have hd4 := Lib.hid hb4
  clear hb4 q3
  have q4 : W4.cell? ⟨x0, 4, none⟩ = some (va) := by have := C4.out.cell 4; simpa using this
  go_wp2_with fail
  refine (pl_sp a.a va W4 B O4 g l4 d lo4 br4 h4 (ls_fr hva HB4.out hOB) (by omega)).mono ?_
  rintro e W5 ⟨rfl, O5, hb5, l5, lo5, br5, h5, hn5, hk5⟩
  have HB5 := Lib.hid (HB4.out.trans hb5)
  have C5 := Lib.hid (bk_fr C4.out hb5 hno4.out)
  have hno5 : Hid (¬ O5 x0) := hb5.apart C4.out.lt hno4.out
  have hd5 := Lib.hid hb5
  clear hb5 q4
  have q5 : W5.cell? ⟨x0, 5, none⟩ = some (vm) := by have := C5.out.cell 5; simpa using this
  go_wp2_with fail
  refine (pl_s a.m vm W5 B O5 g l5 d lo5 br5 h5 (ls_fr hvm HB5.out hOB) (by omega)).mono ?_
  intro e Wn hr
  obtain ⟨rfl, hr2⟩ := hr
  have hr := Lib.hid (show WrT _ _ _ _ _ _ _ _ _ _ _ (.returned (.tuple #[])) Wn from ⟨rfl, hr2⟩)
  clear hr2
  go_wp2
  go_end0
  have r5 := hr.out
  have r4 := WrT.seq hd5.out hn5 hk5 r5
  have r3 := WrT.seq hd4.out hn4 hk4 r4
  have r2 := WrT.seq hd3.out hn3 hk3 r3
  have r1 := WrT.seq hd2.out hn2 hk2 r2
  have r0 := WrT.seq hd1.out hn1 hk1 r1
  exact WrT.mono (WrT.from HB0.out r0) (fun hh => ⟨hh.1, hh.2.1, hh.2.2.1, hh.2.2.2.2.1, hh.2.2.2.2.2⟩) (fun _ => rfl) (by unfold uTy; omega)
set_option maxRecDepth 100000 in
set_option maxHeartbeats 1000000 in
theorem pl_ty (L : List Ty) (v : Value) (w : World) (B : Nat) (O : Nat → Prop) (g : Nat) (l : List UInt8) (d : Int) (lo br : Bool) (h : Wr w B O g l d lo br) (hv : Ls w (fun b => b < B) v L) (hl : l.length + uL uTy L ≤ limW) :
    Calls Tryz.prog 65 #[.pointer (some ⟨g, 0, none⟩), v, .func (.func 66) #[] #[]] w (WrT B O g w l d lo br (okL okTy L) (eL eTy L) (uL uTy L)) := by
  obtain ⟨A, cap, rfl⟩ := hv.form
  have hmax := hv.max
  unfold maxLen at hmax
  unfold uL at hl
  have hOB := fun k hk => (h.own k hk).2
  go_enter Tryz.func65, Tryz.ntmps65
  go_wp2_with fail
  refine (within_any (L.length : Int) 65536 w B O g l d lo br h).mono ?_
  rintro e w1 ⟨rfl, hb1, l1, r1, h1, hl1, hr1⟩
  go_wp2_with fail
  refine (wnum_any (L.length : Int) w1 B O g l d l1 r1 h1 (by omega)).mono ?_
  rintro e w2 ⟨rfl, O2, hb2, k2, l2, r2, h2, hlen2, hk2⟩
  have HB := Lib.hid (hb1.trans hb2)
  have HK : Hid (l2 = false → r2 = false → lo = false ∧ br = false ∧ L.length ≤ 65536 ∧ k2 = l ++ uv L.length) := fun a b => by
    obtain ⟨x1, x2, x3, x4⟩ := hk2.out a b
    obtain ⟨y1, y2⟩ := hl1.out x1
    exact ⟨y1, (hr1.out x2).1, by omega, by rw [x4]; rfl⟩
  clear hk2 hl1 hr1 h1 h hb1 hb2
  go_wp2
  go_loopg [18] L.length (fun n s wk => ∃ (k : Nat) (Ok : Nat → Prop) (lk : List UInt8) (lok rk : Bool), k ≤ L.length ∧ n = L.length - k ∧ s = .int .i64 k ∧ Wr wk B Ok g lk d lok rk ∧ Fr O Ok w wk ∧ Hid (lk.length ≤ l.length + 10 + sm uTy L k) ∧
    Hid (lok = false → rk = false → lo = false ∧ br = false ∧ L.length ≤ 65536 ∧ (∀ x ∈ L.take k, okTy x) ∧ lk = l ++ (uv L.length ++ (L.take k).flatMap eTy)))
  case atStart => exact ⟨0, O2, k2, l2, r2, Nat.zero_le _, by omega, rfl, h2, HB.out, by show _ ≤ _; omega, fun a b => by obtain ⟨x1, x2, x3, x4⟩ := HK.out a b; exact ⟨x1, x2, x3, by simp, by rw [x4]; simp⟩⟩
  case round =>
    obtain ⟨k, Ok, lk, lok, rk, hk, hn, rfl, hW, hb, hlk, hok⟩ := hrel
    have HN := Lib.hid hn
    clear hn HB HK h2 hlen2
    by_cases hlt : k < L.length
    · have hvk := ls_fr hv hb hOB
      have hsm := Lib.hid (sm_succ uTy L k hlt)
      have hsl := Lib.hid (sm_le uTy L (k + 1))
      have htk : Hid (L.take (k + 1) = L.take k ++ [L[k]]) := by show _ = _; rw [List.take_add_one, List.getElem?_eq_getElem hlt]; rfl
      have hmem : L[k] ∈ L := List.getElem_mem hlt
      obtain ⟨b, off, vg, va, vm, rfl, hbb, hcap, a0, a1, a2, a3, a4, a5, rg, ra, rm⟩ := at_ty hvk hlt
      obtain ⟨y, hy⟩ : ∃ y, Hid (y = L[k]) := ⟨_, Lib.hid rfl⟩
      rw [← hy.out] at a0 a1 a3 rg ra rm
      obtain ⟨Arg, crg, rfl⟩ := rg.form
      obtain ⟨Ara, cra, rfl⟩ := ra.form
      obtain ⟨Arm, crm, rfl⟩ := rm.form
      have hW' := hW
      have hBs := hW.base
      obtain ⟨vw, hbk, how, hBg, hne⟩ := hW
      have c2 := hbk.cell 2
      simp at c2
      have hgl := hbk.lt
      have hyu : Hid (lk.length + uTy y ≤ limW) := by show _ ≤ _; have := hlk.out; have := hsm.out; have := hsl.out; rw [hy.out]; omega
      have hi0 : (0 : Int) ≤ (k : Int) := by omega
      have hi1 : (k : Int) < (L.length : Int) := by omega
      clear hbk how hv
      cases lok
      · go_wp2_with fail
        refine (wnodeType_any y _ _ _ _ B Ok g lk d false rk (hW'.alloc _) (rg.under (box1 _ _)) (ra.under (box1 _ _)) (rm.under (box1 _ _)) hyu.out).mono ?_
        rintro e w4 ⟨rfl, O4, hb4, l4, lo4, r4, h4, hlen4, hk4⟩
        have hbb4 := Lib.hid ((hb.alloc _).trans hb4)
        have HL4 : Hid (l4.length ≤ l.length + 10 + sm uTy L (k + 1)) := by show _ ≤ _; have := hlk.out; have := hsm.out; rw [← hy.out] at this; omega
        have HK4 : Hid (lo4 = false → r4 = false → lo = false ∧ br = false ∧ L.length ≤ 65536 ∧ (∀ x ∈ L.take (k + 1), okTy x) ∧ l4 = l ++ (uv L.length ++ (L.take (k + 1)).flatMap eTy)) := fun a b => by
          obtain ⟨x1, x2, x3, x4⟩ := hk4.out a b
          obtain ⟨y1, y2, y3, y4, y5⟩ := hok.out (by first | rfl | trivial) x2
          refine ⟨y1, y2, y3, ?_, ?_⟩
          · rw [htk.out]
            intro x hx
            rcases List.mem_append.1 hx with hx | hx
            · exact y4 x hx
            · rw [List.mem_singleton.1 hx, ← hy.out]; exact x3
          · rw [htk.out, x4, y5, List.flatMap_append, ← hy.out]
            simp [List.append_assoc]
        clear hk4 hlen4 hb4 hb hok hlk hW'
        go_wp2
        go_roundg (L.length - (k + 1))
        case measure => have := HN.out; omega
        case rel => exact ⟨k + 1, O4, l4, lo4, r4, by omega, rfl, by go_num, h4, hbb4.out, HL4, HK4⟩
      · go_wp2
        go_end0
        exact ⟨rfl, Ok, hb.alloc _, lk, true, rk, hW'.alloc _, by have := hlk.out; have := sm_le uTy L k; unfold uL; omega, fun a => by cases a⟩
    · have hkl : k = L.length := by omega
      have hi1 : ¬ (k : Int) < (L.length : Int) := by omega
      have HKL := Lib.hid hkl
      clear hkl
      go_wp2
      go_end0
      refine ⟨rfl, Ok, hb, lk, lok, rk, hW, by have := hlk.out; have := sm_le uTy L k; unfold uL; omega, fun a b => ?_⟩
      obtain ⟨x1, x2, x3, x4, x5⟩ := hok.out a b
      rw [HKL.out, List.take_length] at x4 x5
      exact ⟨x1, x2, ⟨x3, x4⟩, x5⟩
set_option maxRecDepth 100000 in
set_option maxHeartbeats 1000000 in
theorem wmarkType_any (a : Mt) (ve : Value) (va : Value) (w : World) (B : Nat) (O : Nat → Prop) (g : Nat) (l : List UInt8) (d : Int) (lo br : Bool) (h : Wr w B O g l d lo br) (hve : Ls w (fun b => b < B) ve a.e) (hva : Ls w (fun b => b < B) va a.a) (hl : l.length + uMt a ≤ limW) :
    Calls Tryz.prog 68 #[.pointer (some ⟨g, 0, none⟩), .agg #[.string a.n, ve, va]] w (WrT B O g w l d lo br (okMt a) (eMt a) (uMt a)) := by
  have hOB := fun k hk => (h.own k hk).2
  have hOl := fun k hk => (h.own k hk).1
  have hl' := hl
  unfold uMt at hl'
  obtain ⟨x0, hx0⟩ : ∃ x0, Hid (x0 = w.heap.size) := ⟨_, Lib.hid rfl⟩
  obtain ⟨W0, hW0⟩ : ∃ W0, Hid (W0 = w.alloc (.cells #[.string a.n, ve, va] 71)) := ⟨_, Lib.hid rfl⟩
  have HB0 : Hid (Fr O O w W0) := by show Fr _ _ _ _; rw [hW0.out]; exact (Fr.refl hOl).alloc _
  have h0 : Wr W0 B O g l d lo br := by rw [hW0.out]; exact h.alloc _
  have C0 : Hid (Bk W0 x0 71 #[.string a.n, ve, va]) := by show Bk _ _ _ _; rw [hW0.out, hx0.out]; exact Bk.new _ _ _
  have hn0 : Hid (¬ O x0) := fun hh => by have := hOl _ hh; have := hx0.out; omega
  have hu : ∀ s : ByteArray, 10 ≤ uS s := fun s => by unfold uS; omega
  clear h
  go_enter Tryz.func68, Tryz.ntmps68
  have q0 : W0.cell? ⟨x0, 0, none⟩ = some (.string a.n) := by have := C0.out.cell 0; simpa using this
  go_wp2_with fail
  rw [← hW0.out, ← hx0.out]
  refine (wtext_any a.n W0 B O g l d lo br h0 (by omega)).mono ?_
  rintro e W1 ⟨rfl, O1, hb1, l1, lo1, br1, h1, hn1, hk1⟩
  have HB1 := Lib.hid (HB0.out.trans hb1)
  have C1 := Lib.hid (bk_fr C0.out hb1 hn0.out)
  have hno1 : Hid (¬ O1 x0) := hb1.apart C0.out.lt hn0.out
  have hd1 := Lib.hid hb1
  clear hb1 q0
  have q1 : W1.cell? ⟨x0, 1, none⟩ = some (ve) := by have := C1.out.cell 1; simpa using this
  go_wp2_with fail
  refine (pl_s a.e ve W1 B O1 g l1 d lo1 br1 h1 (ls_fr hve HB1.out hOB) (by omega)).mono ?_
  rintro e W2 ⟨rfl, O2, hb2, l2, lo2, br2, h2, hn2, hk2⟩
  have HB2 := Lib.hid (HB1.out.trans hb2)
  have C2 := Lib.hid (bk_fr C1.out hb2 hno1.out)
  have hno2 : Hid (¬ O2 x0) := hb2.apart C1.out.lt hno1.out
  have hd2 := Lib.hid hb2
  clear hb2 q1
  have q2 : W2.cell? ⟨x0, 2, none⟩ = some (va) := by have := C2.out.cell 2; simpa using this
  go_wp2_with fail
  refine (pl_sp a.a va W2 B O2 g l2 d lo2 br2 h2 (ls_fr hva HB2.out hOB) (by omega)).mono ?_
  intro e Wn hr
  obtain ⟨rfl, hr2⟩ := hr
  have hr := Lib.hid (show WrT _ _ _ _ _ _ _ _ _ _ _ (.returned (.tuple #[])) Wn from ⟨rfl, hr2⟩)
  clear hr2
  go_wp2
  go_end0
  have r2 := hr.out
  have r1 := WrT.seq hd2.out hn2 hk2 r2
  have r0 := WrT.seq hd1.out hn1 hk1 r1
  exact WrT.mono (WrT.from HB0.out r0) (fun hh => hh) (fun _ => rfl) (by unfold uMt; omega)
set_option maxRecDepth 100000 in
set_option maxHeartbeats 1000000 in
theorem pl_mt (L : List Mt) (v : Value) (w : World) (B : Nat) (O : Nat → Prop) (g : Nat) (l : List UInt8) (d : Int) (lo br : Bool) (h : Wr w B O g l d lo br) (hv : Ls w (fun b => b < B) v L) (hl : l.length + uL uMt L ≤ limW) :
    Calls Tryz.prog 67 #[.pointer (some ⟨g, 0, none⟩), v, .func (.func 68) #[] #[]] w (WrT B O g w l d lo br (okL okMt L) (eL eMt L) (uL uMt L)) := by
  obtain ⟨A, cap, rfl⟩ := hv.form
  have hmax := hv.max
  unfold maxLen at hmax
  unfold uL at hl
  have hOB := fun k hk => (h.own k hk).2
  go_enter Tryz.func67, Tryz.ntmps67
  go_wp2_with fail
  refine (within_any (L.length : Int) 65536 w B O g l d lo br h).mono ?_
  rintro e w1 ⟨rfl, hb1, l1, r1, h1, hl1, hr1⟩
  go_wp2_with fail
  refine (wnum_any (L.length : Int) w1 B O g l d l1 r1 h1 (by omega)).mono ?_
  rintro e w2 ⟨rfl, O2, hb2, k2, l2, r2, h2, hlen2, hk2⟩
  have HB := Lib.hid (hb1.trans hb2)
  have HK : Hid (l2 = false → r2 = false → lo = false ∧ br = false ∧ L.length ≤ 65536 ∧ k2 = l ++ uv L.length) := fun a b => by
    obtain ⟨x1, x2, x3, x4⟩ := hk2.out a b
    obtain ⟨y1, y2⟩ := hl1.out x1
    exact ⟨y1, (hr1.out x2).1, by omega, by rw [x4]; rfl⟩
  clear hk2 hl1 hr1 h1 h hb1 hb2
  go_wp2
  go_loopg [18] L.length (fun n s wk => ∃ (k : Nat) (Ok : Nat → Prop) (lk : List UInt8) (lok rk : Bool), k ≤ L.length ∧ n = L.length - k ∧ s = .int .i64 k ∧ Wr wk B Ok g lk d lok rk ∧ Fr O Ok w wk ∧ Hid (lk.length ≤ l.length + 10 + sm uMt L k) ∧
    Hid (lok = false → rk = false → lo = false ∧ br = false ∧ L.length ≤ 65536 ∧ (∀ x ∈ L.take k, okMt x) ∧ lk = l ++ (uv L.length ++ (L.take k).flatMap eMt)))
  case atStart => exact ⟨0, O2, k2, l2, r2, Nat.zero_le _, by omega, rfl, h2, HB.out, by show _ ≤ _; omega, fun a b => by obtain ⟨x1, x2, x3, x4⟩ := HK.out a b; exact ⟨x1, x2, x3, by simp, by rw [x4]; simp⟩⟩
  case round =>
    obtain ⟨k, Ok, lk, lok, rk, hk, hn, rfl, hW, hb, hlk, hok⟩ := hrel
    have HN := Lib.hid hn
    clear hn HB HK h2 hlen2
    by_cases hlt : k < L.length
    · have hvk := ls_fr hv hb hOB
      have hsm := Lib.hid (sm_succ uMt L k hlt)
      have hsl := Lib.hid (sm_le uMt L (k + 1))
      have htk : Hid (L.take (k + 1) = L.take k ++ [L[k]]) := by show _ = _; rw [List.take_add_one, List.getElem?_eq_getElem hlt]; rfl
      have hmem : L[k] ∈ L := List.getElem_mem hlt
      obtain ⟨b, off, ve, va, rfl, hbb, hcap, a0, a1, a2, re, ra⟩ := at_mt hvk hlt
      obtain ⟨y, hy⟩ : ∃ y, Hid (y = L[k]) := ⟨_, Lib.hid rfl⟩
      rw [← hy.out] at a0 re ra
      obtain ⟨Are, cre, rfl⟩ := re.form
      obtain ⟨Ara, cra, rfl⟩ := ra.form
      have hW' := hW
      have hBs := hW.base
      obtain ⟨vw, hbk, how, hBg, hne⟩ := hW
      have c2 := hbk.cell 2
      simp at c2
      have hgl := hbk.lt
      have hyu : Hid (lk.length + uMt y ≤ limW) := by show _ ≤ _; have := hlk.out; have := hsm.out; have := hsl.out; rw [hy.out]; omega
      have hi0 : (0 : Int) ≤ (k : Int) := by omega
      have hi1 : (k : Int) < (L.length : Int) := by omega
      clear hbk how hv
      cases lok
      · go_wp2_with fail
        refine (wmarkType_any y _ _ _ B Ok g lk d false rk (hW'.alloc _) (re.under (box1 _ _)) (ra.under (box1 _ _)) hyu.out).mono ?_
        rintro e w4 ⟨rfl, O4, hb4, l4, lo4, r4, h4, hlen4, hk4⟩
        have hbb4 := Lib.hid ((hb.alloc _).trans hb4)
        have HL4 : Hid (l4.length ≤ l.length + 10 + sm uMt L (k + 1)) := by show _ ≤ _; have := hlk.out; have := hsm.out; rw [← hy.out] at this; omega
        have HK4 : Hid (lo4 = false → r4 = false → lo = false ∧ br = false ∧ L.length ≤ 65536 ∧ (∀ x ∈ L.take (k + 1), okMt x) ∧ l4 = l ++ (uv L.length ++ (L.take (k + 1)).flatMap eMt)) := fun a b => by
          obtain ⟨x1, x2, x3, x4⟩ := hk4.out a b
          obtain ⟨y1, y2, y3, y4, y5⟩ := hok.out (by first | rfl | trivial) x2
          refine ⟨y1, y2, y3, ?_, ?_⟩
          · rw [htk.out]
            intro x hx
            rcases List.mem_append.1 hx with hx | hx
            · exact y4 x hx
            · rw [List.mem_singleton.1 hx, ← hy.out]; exact x3
          · rw [htk.out, x4, y5, List.flatMap_append, ← hy.out]
            simp [List.append_assoc]
        clear hk4 hlen4 hb4 hb hok hlk hW'
        go_wp2
        go_roundg (L.length - (k + 1))
        case measure => have := HN.out; omega
        case rel => exact ⟨k + 1, O4, l4, lo4, r4, by omega, rfl, by go_num, h4, hbb4.out, HL4, HK4⟩
      · go_wp2
        go_end0
        exact ⟨rfl, Ok, hb.alloc _, lk, true, rk, hW'.alloc _, by have := hlk.out; have := sm_le uMt L k; unfold uL; omega, fun a => by cases a⟩
    · have hkl : k = L.length := by omega
      have hi1 : ¬ (k : Int) < (L.length : Int) := by omega
      have HKL := Lib.hid hkl
      clear hkl
      go_wp2
      go_end0
      refine ⟨rfl, Ok, hb, lk, lok, rk, hW, by have := hlk.out; have := sm_le uMt L k; unfold uL; omega, fun a b => ?_⟩
      obtain ⟨x1, x2, x3, x4, x5⟩ := hok.out a b
      rw [HKL.out, List.take_length] at x4 x5
      exact ⟨x1, x2, ⟨x3, x4⟩, x5⟩
end Go.Proofs.YtjajcecenflejaaGreat
