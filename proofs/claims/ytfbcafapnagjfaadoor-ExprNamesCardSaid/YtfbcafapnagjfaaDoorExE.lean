/- expr: slices.EqualFunc over expressions, at any function; Same. -/
import Derived.Test.YtfbcafapnagjfaaDoorExC
namespace Go.Proofs.YtfbcafapnagjfaaDoor
open Go.RowKit

/-- at each two expressions of l and m, and any later world, function value K at caps answers p -/
def Asks2 (P : Program) (p : Ex → Ex → Bool) (K : Nat) (caps : Array Value) (B : Nat) (w : World) (l m : List Ex) : Prop :=
  Enters P K ∧ ∀ x, x ∈ l → ∀ y, y ∈ m → ∀ s t w', Below w.heap.size w w' → Kb w' B s x.l → Kb w' B t y.l → Calls P K (#[exV x s, exV y t] ++ caps) w' (RetB (p x y) w')
/-- so many expressions, one by one p -/
def allP (p : Ex → Ex → Bool) (l m : List Ex) : Bool := decide (l.length = m.length) && (l.zip m).all fun q => p q.1 q.2
theorem allP_len {p : Ex → Ex → Bool} {l m : List Ex} (h : ¬ l.length = m.length) : allP p l m = false := by simp [allP, h]
theorem allP_no {p : Ex → Ex → Bool} {l m : List Ex} (k : Nat) (h1 : k < l.length) (h2 : k < m.length) (h : p l[k] m[k] = false) : allP p l m = false := by
  unfold allP
  rw [Bool.and_eq_false_iff]
  right
  rw [← Bool.not_eq_true, List.all_eq_true]
  intro hh
  have hz : k < (l.zip m).length := by simp; omega
  have := hh _ (List.getElem_mem hz)
  rw [List.getElem_zip] at this
  rw [h] at this; cases this
theorem allP_yes {p : Ex → Ex → Bool} {l m : List Ex} (hl : l.length = m.length) (h : ∀ k (h1 : k < l.length) (h2 : k < m.length), p l[k] m[k] = true) : allP p l m = true := by
  unfold allP
  rw [Bool.and_eq_true]
  refine ⟨by simp [hl], ?_⟩
  rw [List.all_eq_true]
  intro x hx
  obtain ⟨k, hk, rfl⟩ := List.mem_iff_getElem.1 hx
  rw [List.getElem_zip]
  simp at hk
  exact h k (by omega) (by omega)

set_option maxRecDepth 100000 in
theorem eqF_no (p : Ex → Ex → Bool) (K : Nat) (caps : Array Value) (A A2 : Option Addr) (l m : List Ex) (cap cap2 : Nat) (w : World) (hl : ¬ l.length = m.length) :
    Calls Tryd.prog 22 #[.slice A l.length cap, .slice A2 m.length cap2, .func (.func K) #[] caps] w (RetB (allP p l m) w) := by
  rw [allP_len hl]
  have h1 : (((l.length : Nat) : Int) != ((m.length : Nat) : Int)) = true := by simp; omega
  clear hl
  go_enter Tryd.func22, Tryd.ntmps22
  go_wp2_with fail
  go_ret
  exact retB rfl (Below.refl _ _)

set_option maxRecDepth 100000 in
set_option maxHeartbeats 800000 in
theorem eqF_any (p : Ex → Ex → Bool) (K : Nat) (caps : Array Value) (v v2 : Value) (l m : List Ex) (B : Nat) (w : World) (hv : Kb w B v l) (hv2 : Kb w B v2 m) (hB : B ≤ w.heap.size) (hf : Asks2 Tryd.prog p K caps B w l m) :
    Calls Tryd.prog 22 #[v, v2, .func (.func K) #[] caps] w (RetB (allP p l m) w) := by
  obtain ⟨A, cap, rfl⟩ := hv.form
  obtain ⟨A2, cap2, rfl⟩ := hv2.form
  by_cases hl : l.length = m.length
  case neg => exact eqF_no p K caps A A2 l m cap cap2 w hl
  have hm := hv.max
  unfold maxLen at hm
  obtain ⟨c, HC⟩ : ∃ c, Hid (c = allP p l m) := ⟨_, rfl⟩
  rw [← HC.out]
  rw [← hl]
  rw [← hl] at hv2
  have HL := Lib.hid hl
  clear hl
  go_enter Tryd.func22, Tryd.ntmps22
  go_wp2_with fail
  go_loopw [7, 8, 9, 17] (fun _ _ _ i wr => ∃ k : Nat, k ≤ l.length ∧ i = .int .i64 k ∧ Hid (Below w.heap.size w wr) ∧ Hid (∀ j (h1 : j < l.length) (h2 : j < m.length), j < k → p l[j] m[j] = true)) (fun _ _ _ i _ => l.length - (intOf i).toNat)
  case atStart => exact ⟨0, Nat.zero_le _, rfl, Below.refl _ _, fun j _ _ hj => by omega⟩
  case round =>
    obtain ⟨k, hk, rfl, hb, hall⟩ := hrel
    by_cases hlt : k < l.length
    · have hlt2 : k < m.length := by have := HL.out; omega
      have hsz := hb.out.size
      obtain ⟨b, off, s, rfl, hbB, hcap, hks, hc0, hc1, hc2, hc3, hc4⟩ := Kd.at (hv.below (hb.out.mono hB)) hlt
      have hv2' : Kb wr B (.slice A2 m.length cap2) m := by have := hv2.below (hb.out.mono hB); rw [HL.out] at this; exact this
      obtain ⟨b2, off2, s2, rfl, hbB2, hcap2, hks2, hd0, hd1, hd2, hd3, hd4⟩ := Kd.at hv2' hlt2
      have hcapl : l.length ≤ cap2 := by have := HL.out; omega
      have hbw : b < wr.heap.size := by omega
      have hbw2 : b2 < wr.heap.size := by omega
      obtain ⟨x, HX⟩ : ∃ x, Hid (x = l[k]) := ⟨l[k], Lib.hid rfl⟩
      obtain ⟨y, HY⟩ : ∃ y, Hid (y = m[k]) := ⟨m[k], Lib.hid rfl⟩
      rw [← HX.out] at hks hc0 hc1 hc2 hc3
      rw [← HY.out] at hks2 hd0 hd1 hd2 hd3
      obtain ⟨A3, cap3, rfl⟩ := hks.form
      obtain ⟨A4, cap4, rfl⟩ := hks2.form
      have BB : Below wr.heap.size wr ((wr.alloc (.cells #[.int .i64 x.k, .string x.n, .int .i64 x.a, .int .i64 x.b, .slice A3 x.l.length cap3] 24)).alloc (.cells #[.int .i64 y.k, .string y.n, .int .i64 y.a, .int .i64 y.b, .slice A4 y.l.length cap4] 24)) :=
        ((Below.refl _ _).alloc (Nat.le_refl _) _).alloc (by simp) _
      have hcall := Lib.hid (hf.2 x (by rw [HX.out]; exact List.getElem_mem hlt) y (by rw [HY.out]; exact List.getElem_mem hlt2) _ _ _ (hb.out.trans (BB.mono hsz)) (Kb.below hks (BB.mono (by omega))) (Kb.below hks2 (BB.mono (by omega))))
      have hent : ∀ (args : Array Value) (w : World), (callFunc K args).run Tryd.prog w = .ok (.enter K args) w := hf.1
      obtain ⟨d, HD⟩ : ∃ d, Hid (d = p x y) := ⟨_, rfl⟩
      rw [← HD.out] at hcall
      have HB2 := Lib.hid (hb.out.trans (BB.mono hsz))
      have hz2 : wr.heap.size + 2 ≤ ((wr.alloc (.cells #[.int .i64 x.k, .string x.n, .int .i64 x.a, .int .i64 x.b, .slice A3 x.l.length cap3] 24)).alloc (.cells #[.int .i64 y.k, .string y.n, .int .i64 y.a, .int .i64 y.b, .slice A4 y.l.length cap4] 24)).heap.size := by simp
      have hHf := Lib.hid hf
      clear hf BB hks hks2 hv2'
      go_wp2_with fail
      refine (hcall.out).mono ?_
      rintro e w1 ⟨rfl, hb1⟩
      clear hcall hent
      have HB3 := Lib.hid (HB2.out.trans (hb1.mono HB2.out.size))
      clear hb1 HB2 hb
      cases d
      · have hfin : Hid (c = false) := by show _ = _; rw [HC.out]; exact allP_no k hlt hlt2 (by rw [← HX.out, ← HY.out]; exact HD.out.symm)
        go_wp2_with fail
        go_ret
        exact retB hfin.out.symm HB3.out
      · have hall' : Hid (∀ j (h1 : j < l.length) (h2 : j < m.length), j < k + 1 → p l[j] m[j] = true) := by
          intro j h1 h2 hj
          by_cases e : j = k
          · subst e; rw [← HX.out, ← HY.out]; exact HD.out.symm
          · exact hall.out j h1 h2 (by omega)
        clear hall
        go_wp2_with fail
        go_roundw
        case rel => exact ⟨k + 1, by omega, by go_num, HB3, hall'⟩
        case measure => simp [intOf]; omega
    · have hfin : Hid (c = true) := by show _ = _; rw [HC.out]; exact allP_yes HL.out fun j h1 h2 => hall.out j h1 h2 (by omega)
      go_wp2_with fail
      go_ret
      exact retB hfin.out.symm hb.out

/-! ## same -/
def sameM (n : Nat) (x y : Ex) : Bool := match n with
  | 0 => false
  | n + 1 => decide (x.k = y.k) && decide (x.n = y.n) && decide (x.a = y.a) && decide (x.b = y.b) && allP (sameM n) x.l y.l

set_option maxRecDepth 100000 in
theorem same1_any (d : Bool) (n : Nat) (k : Int) (nm : ByteArray) (a b : Int) (s : Value) (k2 : Int) (nm2 : ByteArray) (a2 b2 : Int) (s2 : Value) (p : Addr) (w : World) (hp : w.cell? p = some (.int .i64 ((n : Int) + 1))) (hpb : p.block < w.heap.size) (hn : n ≤ 1000000)
    (hq : ∀ w', Below w.heap.size w w' → Calls Tryd.prog 13 #[.agg #[.int .i64 k, .string nm, .int .i64 a, .int .i64 b, s], .agg #[.int .i64 k2, .string nm2, .int .i64 a2, .int .i64 b2, s2], .int .i64 n] w' (RetB d w')) :
    Calls Tryd.prog 23 #[.agg #[.int .i64 k, .string nm, .int .i64 a, .int .i64 b, s], .agg #[.int .i64 k2, .string nm2, .int .i64 a2, .int .i64 b2, s2], .pointer (some p)] w (RetB d w) := by
  have B2 : Below w.heap.size w ((w.alloc (.cells #[.int .i64 k, .string nm, .int .i64 a, .int .i64 b, s] 24)).alloc (.cells #[.int .i64 k2, .string nm2, .int .i64 a2, .int .i64 b2, s2] 24)) := ((Below.refl _ _).alloc (Nat.le_refl _) _).alloc (by simp) _
  have HQ := Lib.hid (hq _ B2)
  clear hq
  have hi : (n : Int) + 1 - 1 = n := by omega
  go_enter Tryd.func23, Tryd.ntmps23
  go_wp2_with fail
  refine (HQ.out).mono ?_
  clear HQ
  rintro e w1 ⟨rfl, hb1⟩
  have B3 := B2.trans (hb1.mono B2.size)
  clear hb1 B2
  go_wp2
  go_ret
  exact retB rfl B3

theorem entS1 : Enters Tryd.prog 23 := enters Tryd.func23 (by kernel_rfl) (by kernel_rfl)

section
variable (k k2 : Int) (nm nm2 : ByteArray) (a b a2 b2 : Int) (s s2 : Value) (w : World)
theorem two_boxes (o o2 : Obj) : Below w.heap.size w ((w.alloc o).alloc o2) := ((Below.refl _ _).alloc (Nat.le_refl _) _).alloc (by simp) _
theorem three_boxes (o o2 o3 : Obj) : Below w.heap.size w (((w.alloc o).alloc o2).alloc o3) := (((Below.refl _ _).alloc (Nat.le_refl _) _).alloc (by simp) _).alloc (by simp; omega) _
set_option maxRecDepth 100000 in
theorem same0 : Calls Tryd.prog 13 #[.agg #[.int .i64 k, .string nm, .int .i64 a, .int .i64 b, s], .agg #[.int .i64 k2, .string nm2, .int .i64 a2, .int .i64 b2, s2], .int .i64 0] w (RetB false w) := by
  go_enter Tryd.func13, Tryd.ntmps13
  go_wp2_with fail
  go_ret
  exact retB rfl (three_boxes _ _ _ _)
set_option maxRecDepth 100000 in
theorem sameK (m : Int) (hm : (m == 0) = false) (h : (k != k2) = true) : Calls Tryd.prog 13 #[.agg #[.int .i64 k, .string nm, .int .i64 a, .int .i64 b, s], .agg #[.int .i64 k2, .string nm2, .int .i64 a2, .int .i64 b2, s2], .int .i64 m] w (RetB false w) := by
  go_enter Tryd.func13, Tryd.ntmps13
  go_wp2_with fail
  go_ret
  exact retB rfl (three_boxes _ _ _ _)
set_option maxRecDepth 100000 in
theorem sameN1 (m : Int) (hm : (m == 0) = false) (h : ¬ nm.toList = nm2.toList) : Calls Tryd.prog 13 #[.agg #[.int .i64 k, .string nm, .int .i64 a, .int .i64 b, s], .agg #[.int .i64 k, .string nm2, .int .i64 a2, .int .i64 b2, s2], .int .i64 m] w (RetB false w) := by
  go_enter Tryd.func13, Tryd.ntmps13
  go_wp2_with fail
  go_ret
  exact retB rfl (three_boxes _ _ _ _)
set_option maxRecDepth 100000 in
theorem sameA (m : Int) (hm : (m == 0) = false) (h : (a != a2) = true) : Calls Tryd.prog 13 #[.agg #[.int .i64 k, .string nm, .int .i64 a, .int .i64 b, s], .agg #[.int .i64 k, .string nm, .int .i64 a2, .int .i64 b2, s2], .int .i64 m] w (RetB false w) := by
  go_enter Tryd.func13, Tryd.ntmps13
  go_wp2_with fail
  go_ret
  exact retB rfl (three_boxes _ _ _ _)
set_option maxRecDepth 100000 in
theorem sameB (m : Int) (hm : (m == 0) = false) (h : (b != b2) = true) : Calls Tryd.prog 13 #[.agg #[.int .i64 k, .string nm, .int .i64 a, .int .i64 b, s], .agg #[.int .i64 k, .string nm, .int .i64 a, .int .i64 b2, s2], .int .i64 m] w (RetB false w) := by
  go_enter Tryd.func13, Tryd.ntmps13
  go_wp2_with fail
  go_ret
  exact retB rfl (three_boxes _ _ _ _)
set_option maxRecDepth 100000 in
theorem sameL (c : Bool) (m : Int) (hm : (m == 0) = false)
    (hc : ∀ w1, Below w.heap.size w w1 → w1.cell? ⟨w.heap.size + 1 + 1, 0, none⟩ = some (.int .i64 m) → w.heap.size + 3 ≤ w1.heap.size →
      Calls Tryd.prog 22 #[s, s2, .func (.func 23) #[] #[.pointer (some ⟨w.heap.size + 1 + 1, 0, none⟩)]] w1 (RetB c w1)) :
    Calls Tryd.prog 13 #[.agg #[.int .i64 k, .string nm, .int .i64 a, .int .i64 b, s], .agg #[.int .i64 k, .string nm, .int .i64 a, .int .i64 b, s2], .int .i64 m] w (RetB c w) := by
  have B1 := three_boxes w (.cells #[.int .i64 k, .string nm, .int .i64 a, .int .i64 b, s] 24) (.cells #[.int .i64 k, .string nm, .int .i64 a, .int .i64 b, s2] 24) (.cells #[.int .i64 m] 3)
  have hcont := Lib.hid (hc _ B1 (by go_simp) (by simp))
  clear hc
  go_enter Tryd.func13, Tryd.ntmps13
  go_wp2_with fail
  refine (hcont.out).mono ?_
  clear hcont
  rintro e w1 ⟨rfl, hb1⟩
  have B3 := B1.trans (hb1.mono B1.size)
  clear hb1 B1
  go_wp2
  go_ret
  exact retB rfl B3
end

theorem same_any (n : Nat) : ∀ (x y : Ex) (s t : Value) (B : Nat) (w : World), Kb w B s x.l → Kb w B t y.l → B ≤ w.heap.size → n ≤ 1000 →
    Calls Tryd.prog 13 #[exV x s, exV y t, .int .i64 n] w (RetB (sameM n x y) w) := by
  induction n with
  | zero => intro x y s t B w _ _ _ _; exact same0 _ _ _ _ _ _ _ _ _ _ _
  | succ n ih =>
    intro x y s t B w hs ht hB hn
    obtain ⟨k, nm, a, b, l⟩ := x
    obtain ⟨k2, nm2, a2, b2, l2⟩ := y
    have hm : (((n : Int) + 1) == 0) = false := by simp; omega
    have hcast : (((n + 1 : Nat)) : Int) = (n : Int) + 1 := by omega
    have hsm : sameM (n + 1) (.mk k nm a b l) (.mk k2 nm2 a2 b2 l2) = (decide (k = k2) && decide (nm = nm2) && decide (a = a2) && decide (b = b2) && allP (sameM n) l l2) := by rw [sameM]; rfl
    rw [hcast, hsm]
    have e1 : exV (.mk k nm a b l) s = .agg #[.int .i64 k, .string nm, .int .i64 a, .int .i64 b, s] := rfl
    have e2 : exV (.mk k2 nm2 a2 b2 l2) t = .agg #[.int .i64 k2, .string nm2, .int .i64 a2, .int .i64 b2, t] := rfl
    rw [e1, e2]
    clear hcast hsm e1 e2
    by_cases h1 : k = k2
    case neg => have := sameK k k2 nm nm2 a b a2 b2 s t w _ hm (by simpa using h1); simpa [h1] using this
    subst h1
    by_cases h2 : nm = nm2
    case neg => have := sameN1 k nm nm2 a b a2 b2 s t w _ hm (fun h => h2 (toList_inj h)); simpa [h2] using this
    subst h2
    by_cases h3 : a = a2
    case neg => have := sameA k nm a b a2 b2 s t w _ hm (by simpa using h3); simpa [h3] using this
    subst h3
    by_cases h4 : b = b2
    case neg => have := sameB k nm a b b2 s t w _ hm (by simpa using h4); simpa [h4] using this
    subst h4
    have hgoal : Calls Tryd.prog 13 #[.agg #[.int .i64 k, .string nm, .int .i64 a, .int .i64 b, s], .agg #[.int .i64 k, .string nm, .int .i64 a, .int .i64 b, t], .int .i64 ((n : Int) + 1)] w (RetB (allP (sameM n) l l2) w) := by
      refine sameL k nm a b s t w (allP (sameM n) l l2) _ hm fun w1 hb1 hp hz => ?_
      refine eqF_any (sameM n) _ _ s t l l2 B w1 (hs.below (hb1.mono hB)) (ht.below (hb1.mono hB)) (by omega) ⟨entS1, fun x _ y _ s' t' w' hb hk hk2 => ?_⟩
      have hargs : (#[exV x s', exV y t'] ++ #[Value.pointer (some ⟨w.heap.size + 1 + 1, 0, none⟩)] : Array Value) = #[exV x s', exV y t', .pointer (some ⟨w.heap.size + 1 + 1, 0, none⟩)] := by simp
      rw [hargs]
      have hp1 : w'.cell? ⟨w.heap.size + 1 + 1, 0, none⟩ = some (.int .i64 ((n : Int) + 1)) := (hb.cell (p := ⟨w.heap.size + 1 + 1, 0, none⟩) (by show w.heap.size + 1 + 1 < _; omega)).trans hp
      have hsz := hb.size
      exact same1_any _ n _ _ _ _ s' _ _ _ _ t' _ w' hp1 (by show w.heap.size + 1 + 1 < _; omega) (by omega) fun w2 hb2 => ih x y s' t' B w2 (hk.below (hb2.mono (by omega))) (hk2.below (hb2.mono (by omega))) (by have := hb2.size; omega) (by omega)
    simpa using hgoal

set_option maxRecDepth 100000 in
/-- Same -/
theorem Same_any (x y : Ex) (s t : Value) (B : Nat) (w : World) (hs : Kb w B s x.l) (ht : Kb w B t y.l) (hB : B ≤ w.heap.size) :
    Calls Tryd.prog 6 #[exV x s, exV y t] w (RetB (sameM 64 x y) w) := by
  obtain ⟨c, HC⟩ : ∃ c, Hid (c = sameM 64 x y) := ⟨_, rfl⟩
  obtain ⟨A1, c1, rfl⟩ := hs.form
  obtain ⟨A2, c2, rfl⟩ := ht.form
  have B1 := two_boxes w (.cells #[.int .i64 x.k, .string x.n, .int .i64 x.a, .int .i64 x.b, .slice A1 x.l.length c1] 24) (.cells #[.int .i64 y.k, .string y.n, .int .i64 y.a, .int .i64 y.b, .slice A2 y.l.length c2] 24)
  have hq := Lib.hid (same_any 64 x y _ _ B _ (hs.below (B1.mono hB)) (ht.below (B1.mono hB)) (Nat.le_trans hB B1.size) (by omega))
  rw [← HC.out] at hq ⊢
  clear hs ht
  revert hq
  unfold exV
  intro hq
  go_enter Tryd.func6, Tryd.ntmps6
  go_wp2_with fail
  refine (hq.out).mono ?_
  clear hq
  rintro e w1 ⟨rfl, hb1⟩
  have B3 := B1.trans (hb1.mono B1.size)
  clear hb1 B1
  go_wp2
  go_ret
  exact retB rfl B3
end Go.Proofs.YtfbcafapnagjfaaDoor
