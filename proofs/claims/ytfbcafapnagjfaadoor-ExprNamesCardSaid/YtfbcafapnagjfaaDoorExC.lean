/- expr: Size, Check. -/
import Derived.Test.YtfbcafapnagjfaaDoorExB
namespace Go.Proofs.YtfbcafapnagjfaaDoor
open Go.RowKit

theorem ret_i {a b : Int} {w w' : World} (h : a = b) (hb : Below w.heap.size w w') : Ending.returned (.int .i64 a) = .returned (.int .i64 b) ∧ Below w.heap.size w w' := ⟨by rw [h], hb⟩

/-! ## the size -/
/-- what can be reckoned with: no number of it is wild -/
def tameE (e : Ex) : Prop := e.anyE wildB = false
theorem tame_kid {e : Ex} (h : tameE e) : ∀ x ∈ e.l, tameE x := by
  unfold tameE at h
  rw [anyE_eq, Bool.or_eq_false_iff, List.any_eq_false] at h
  intro x hx
  simpa [tameE] using h.2 x hx
theorem tame_self {k : Int} {nm : ByteArray} {a b : Int} {l : List Ex} (h : tameE (.mk k nm a b l)) : -1 ≤ a ∧ -1 ≤ b ∧ a ≤ 1048576 ∧ b ≤ 1048576 := by
  unfold tameE at h
  rw [anyE_eq, Bool.or_eq_false_iff] at h
  have h1 : (decide (min a b < -1) || decide (1048576 < max a b)) = false := h.1
  simp at h1
  omega
theorem sizeL_bd (l : List Ex) (h : ∀ e ∈ l, 0 ≤ e.sizeE) : ∀ s : Int, 0 ≤ s → s ≤ exMost → 0 ≤ Ex.sizeL s l ∧ Ex.sizeL s l ≤ exMost := by
  induction l with
  | nil => intro s h0 h1; exact ⟨by rw [Ex.sizeL]; exact h0, by rw [Ex.sizeL]; exact h1⟩
  | cons e l ih =>
    intro s h0 h1
    rw [Ex.sizeL]
    have := h e (by simp)
    unfold exMost at *
    exact ih (fun x hx => h x (by simp [hx])) _ (by omega) (by omega)
theorem mul_bd {x y : Int} (h0 : 0 ≤ x) (h1 : x ≤ 1073741824) (h2 : 0 ≤ y) (h3 : y ≤ 1048577) : 0 ≤ x * y ∧ x * y ≤ 1125900980584448 := by
  constructor
  · exact Int.mul_nonneg h0 h2
  · calc x * y ≤ 1073741824 * y := Int.mul_le_mul_of_nonneg_right h1 h2
      _ ≤ 1073741824 * 1048577 := Int.mul_le_mul_of_nonneg_left h3 (by omega)
      _ = 1125900980584448 := by decide
theorem size_bd (e : Ex) : tameE e → 0 ≤ e.sizeE ∧ e.sizeE ≤ exMost := by
  induction e using Ex.ind with
  | h k nm a b l ih =>
    intro ht
    obtain ⟨ha, hb, ha2, hb2⟩ := tame_self ht
    have hL := sizeL_bd l (fun e he => (ih e he (tame_kid ht e he)).1) 0 (by omega) (by unfold exMost; omega)
    rw [Ex.sizeE]
    unfold exMost at *
    split
    · omega
    · split
      · exact hL
      · split
        · have := mul_bd hL.1 hL.2 (show 0 ≤ a + 1 by omega) (by omega)
          omega
        · have := mul_bd hL.1 hL.2 (show 0 ≤ b by omega) (by omega)
          omega
theorem sizeL_app : ∀ (l m : List Ex) (s : Int), Ex.sizeL s (l ++ m) = Ex.sizeL (Ex.sizeL s l) m
  | [], m, s => by rw [List.nil_append, Ex.sizeL]
  | e :: l, m, s => by rw [List.cons_append, Ex.sizeL, Ex.sizeL, sizeL_app l m]
theorem sizeL_take (l : List Ex) (k : Nat) (hk : k < l.length) : Ex.sizeL 0 (l.take (k + 1)) = min (Ex.sizeL 0 (l.take k) + l[k].sizeE) exMost := by
  rw [List.take_succ_eq_append_getElem hk, sizeL_app]
  rw [Ex.sizeL, Ex.sizeL]

set_option maxRecDepth 100000 in
set_option maxHeartbeats 800000 in
theorem sizeS_any (k : Int) (nm : ByteArray) (a b : Int) (l : List Ex) (s : Value) (B : Nat) (w : World) (hs : Kb w B s l) (hB : B ≤ w.heap.size) (ht : tameE (.mk k nm a b l))
    (ih : ∀ e ∈ l, ∀ (s : Value) (w : World), Kb w B s e.l → B ≤ w.heap.size → Calls Tryd.prog 28 #[exV e s] w fun x w' => x = .returned (.int .i64 e.sizeE) ∧ Below w.heap.size w w') :
    Calls Tryd.prog 28 #[.agg #[.int .i64 k, .string nm, .int .i64 a, .int .i64 b, s]] w fun x w' => x = .returned (.int .i64 (Ex.mk k nm a b l).sizeE) ∧ Below w.heap.size w w' := by
  obtain ⟨c, HC⟩ : ∃ c, Hid (c = (Ex.mk k nm a b l).sizeE) := ⟨_, rfl⟩
  rw [← HC.out]
  have B1 : Below w.heap.size w (w.alloc (.cells #[.int .i64 k, .string nm, .int .i64 a, .int .i64 b, s] 24)) := (Below.refl _ _).alloc (Nat.le_refl _) _
  by_cases h1 : k = 1
  · subst h1
    clear ih
    have hk1 : ((1 : Int) == 1) = true := rfl
    go_enter Tryd.func28, Tryd.ntmps28
    go_wp2_with fail
    go_ret
    exact ret_i (by rw [HC.out, Ex.sizeE, if_pos rfl]) B1
  have hk1 : (k == 1) = false := by simpa using h1
  obtain ⟨A, cap, rfl⟩ := hs.form
  have hm := hs.max
  unfold maxLen at hm
  have hkid := fun e he => size_bd e (tame_kid ht e he)
  have hs1 := hs.below (B1.mono hB)
  obtain ⟨ha, hb, ha2, hb2⟩ := tame_self ht
  have hLL := sizeL_bd l (fun e he => (hkid e he).1) 0 (by omega) (by unfold exMost; omega)
  have HL := Lib.hid hLL
  have HK := Lib.hid hkid
  have HI := Lib.hid ih
  clear ih hkid hLL hs h1
  have hW : Hid ((w.alloc (.cells #[.int .i64 k, .string nm, .int .i64 a, .int .i64 b, .slice A l.length cap] 24)).heap.size = w.heap.size + 1) := by show _ = _; simp
  obtain ⟨W0, hW0⟩ : ∃ W0 : World, Hid (W0 = w.alloc (.cells #[.int .i64 k, .string nm, .int .i64 a, .int .i64 b, .slice A l.length cap] 24)) := ⟨_, rfl⟩
  go_enter Tryd.func28, Tryd.ntmps28
  go_wp2_with fail
  rw [← hW0.out] at hs1 B1 hW ⊢
  have hself : ∀ j u, (#[Value.int .i64 k, .string nm, .int .i64 a, .int .i64 b, .slice A l.length cap] : Array Value)[j]? = some u → W0.cell? ⟨w.heap.size, j, none⟩ = some u := by
    intro j u hu; rw [hW0.out, cell_of_row _ w.heap.size j _ _ _ (heap_alloc_new w _)]; exact hu
  have HS := Lib.hid hself
  clear hself
  go_loopw [3, 12] (fun t i wr => ∃ n : Nat, n ≤ l.length ∧ i = .int .i64 n ∧ t = .int .i64 (Ex.sizeL 0 (l.take n)) ∧ Hid (Below W0.heap.size W0 wr)) (fun _ i _ => l.length - (intOf i).toNat)
  case atStart => exact ⟨0, Nat.zero_le _, rfl, by rw [List.take_zero, Ex.sizeL], Below.refl _ _⟩
  case round =>
    obtain ⟨n, hn, rfl, rfl, hbw⟩ := hrel
    by_cases hlt : n < l.length
    · obtain ⟨bb, off, s', rfl, hbB, hcap, hks, hc0, hc1, hc2, hc3, hc4⟩ := Kd.at (hs1.below (hbw.out.mono (by have := B1.size; omega))) hlt
      have hsz := hbw.out.size
      have hszW := hW.out
      have hsum := sizeL_bd (l.take n) (fun e he => (HK.out e (List.mem_of_mem_take he)).1) 0 (by omega) (by unfold exMost; omega)
      have hone := HK.out l[n] (List.getElem_mem hlt)
      unfold exMost at hsum hone
      have hadd : Hid (Ex.sizeL 0 (l.take (n + 1)) = min (Ex.sizeL 0 (l.take n) + l[n].sizeE) 1073741824) := sizeL_take l n hlt
      obtain ⟨A2, cap2, rfl⟩ := hks.form
      have hcall := Lib.hid (HI.out l[n] (List.getElem_mem hlt) _ (wr.alloc (.cells #[.int .i64 l[n].k, .string l[n].n, .int .i64 l[n].a, .int .i64 l[n].b, .slice A2 l[n].l.length cap2] 24)) (Kb.below hks ((Below.refl _ _).alloc (by omega) _)) (by simp; omega))
      generalize Ex.sizeL 0 (List.take n l) = sn at *
      generalize Ex.sizeE l[n] = en at *
      obtain ⟨hsum1, hsum2⟩ := hsum
      obtain ⟨hone1, hone2⟩ := hone
      go_wp2_with fail
      refine (hcall.out).mono ?_
      rintro e w1 ⟨rfl, hb1⟩
      have hbf : Hid (Below W0.heap.size W0 w1) := (hbw.out.alloc (by omega) _).trans (hb1.mono (by simp; omega))
      clear hcall hb1 hbw
      go_wp2_with fail
      all_goals
        go_roundw
        case rel => exact ⟨n + 1, by omega, by go_num, by rw [hadd.out]; go_num, hbf⟩
        case measure => simp [intOf]; omega
    · obtain rfl : n = l.length := by omega
      have hszW := hW.out
      have hcw : ∀ j u, (#[Value.int .i64 k, .string nm, .int .i64 a, .int .i64 b, .slice A l.length cap] : Array Value)[j]? = some u → wr.cell? ⟨w.heap.size, j, none⟩ = some u := fun j u hu => (hbw.out.cell (p := ⟨w.heap.size, j, none⟩) (by show w.heap.size < _; omega)).trans (HS.out j u hu)
      have g0 := hcw 0 _ rfl
      have g2 := hcw 2 _ rfl
      have g3 := hcw 3 _ rfl
      have hfin : Hid (Ex.sizeL 0 (l.take l.length) = Ex.sizeL 0 l) := by show _ = _; rw [List.take_length]
      have B2 := B1.trans (hbw.out.mono B1.size)
      rw [hfin.out]
      clear hcw hbw HI HK hfin hlt hs1
      have hL := HL.out
      have hE : Hid (c = if k ≠ 4 then Ex.sizeL 0 l else if b = -1 then min (Ex.sizeL 0 l * (a + 1)) 1073741824 else min (Ex.sizeL 0 l * b) 1073741824) := by
        show _ = _; rw [HC.out, Ex.sizeE, if_neg (by simpa using hk1)]; rfl
      unfold exMost at hL
      generalize Ex.sizeL 0 l = sl at *
      obtain ⟨hL1, hL2⟩ := hL
      by_cases h4 : k = 4
      · have hk4 : (k != 4) = false := by simpa using h4
        have hE2 : Hid (c = if b = -1 then min (sl * (a + 1)) 1073741824 else min (sl * b) 1073741824) := by show _ = _; rw [hE.out, if_neg (by simpa using h4)]
        clear hE h4
        by_cases hb1 : b = -1
        · have hkb : (b == -1) = true := by simpa using hb1
          have hE3 : Hid (c = min (sl * (a + 1)) 1073741824) := by show _ = _; rw [hE2.out, if_pos hb1]
          obtain ⟨mb0, mb1⟩ := mul_bd hL1 hL2 (show 0 ≤ a + 1 by omega) (by omega)
          have hw1 : IntKind.i64.wrap (sl * (a + 1)) = sl * (a + 1) := IntWalk.i64_in _ (by omega)
          clear hE2 hb1
          go_wp2_with fail
          all_goals
            go_ret
            exact ret_i (by rw [hE3.out]; omega) B2
        · have hkb : (b == -1) = false := by simpa using hb1
          have hE3 : Hid (c = min (sl * b) 1073741824) := by show _ = _; rw [hE2.out, if_neg hb1]
          obtain ⟨mb0, mb1⟩ := mul_bd hL1 hL2 (show 0 ≤ b by omega) (by omega)
          have hw1 : IntKind.i64.wrap (sl * b) = sl * b := IntWalk.i64_in _ (by omega)
          clear hE2 hb1
          go_wp2_with fail
          all_goals
            go_ret
            exact ret_i (by rw [hE3.out]; omega) B2
      · have hk4 : (k != 4) = true := by simpa using h4
        have hE2 : Hid (c = sl) := by show _ = _; rw [hE.out, if_pos h4]
        clear hE h4
        go_wp2_with fail
        go_ret
        exact ret_i hE2.out.symm B2

/-- size -/
theorem size_any (e : Ex) : ∀ (s : Value) (B : Nat) (w : World), Kb w B s e.l → B ≤ w.heap.size → tameE e →
    Calls Tryd.prog 28 #[exV e s] w fun x w' => x = .returned (.int .i64 e.sizeE) ∧ Below w.heap.size w w' := by
  induction e using Ex.ind with
  | h k nm a b l ih =>
    intro s B w hs hB ht
    exact sizeS_any k nm a b l s B w hs hB ht fun e he s' w' hk hB' => ih e he s' B w' hk hB' (tame_kid ht e he)

theorem entWild : Enters Tryd.prog 27 := enters Tryd.func27 (by kernel_rfl) (by kernel_rfl)
theorem entLong : Enters Tryd.prog 16 := enters Tryd.func16 (by kernel_rfl) (by kernel_rfl)
theorem entWrong : Enters Tryd.prog 18 := enters Tryd.func18 (by kernel_rfl) (by kernel_rfl)
theorem entRow : Enters Tryd.prog 31 := enters Tryd.func31 (by kernel_rfl) (by kernel_rfl)
theorem entNoCh : Enters Tryd.prog 32 := enters Tryd.func32 (by kernel_rfl) (by kernel_rfl)
theorem wildH_any (e : Ex) (s : Value) (B : Nat) (w : World) (hs : Kb w B s e.l) (hB : B ≤ w.heap.size) : Calls Tryd.prog 15 #[exV e s, .func (.func 27) #[] #[]] w (RetB (e.anyE wildB) w) :=
  holds_any wildB _ entWild (fun e s B w _ _ => by cases e; exact wild_any _ _ _ _ _ _ _) e s B w hs hB
theorem longH_any (e : Ex) (s : Value) (B : Nat) (w : World) (hs : Kb w B s e.l) (hB : B ≤ w.heap.size) : Calls Tryd.prog 15 #[exV e s, .func (.func 16) #[] #[]] w (RetB (e.anyE longE) w) :=
  holds_any longE _ entLong (fun e s B w _ _ => by cases e; exact longE_any _ _ _ _ _ _ _) e s B w hs hB

/-- what boxes an expression: the world behind it -/
theorem box_below (w : World) (o : Obj) : Below w.heap.size w (w.alloc o) := (Below.refl _ _).alloc (Nat.le_refl _) _

set_option maxRecDepth 100000 in
/-- Size -/
theorem Size_any (e : Ex) (s : Value) (B : Nat) (w : World) (hs : Kb w B s e.l) (hB : B ≤ w.heap.size) :
    Calls Tryd.prog 17 #[exV e s] w fun x w' => x = .returned (.int .i64 (sizeN e)) ∧ Below w.heap.size w w' := by
  obtain ⟨c, HC⟩ : ∃ c, Hid (c = sizeN e) := ⟨_, rfl⟩
  rw [← HC.out]
  obtain ⟨A, cap, rfl⟩ := hs.form
  obtain ⟨w0, rfl⟩ : ∃ w0 : World, w0 = w := ⟨_, rfl⟩
  have B1 := box_below w0 (.cells #[.int .i64 e.k, .string e.n, .int .i64 e.a, .int .i64 e.b, .slice A e.l.length cap] 24)
  have hs1 := hs.below (B1.mono hB)
  have hd := Lib.hid (deeper_any 64 e _ B _ hs1 (Nat.le_trans hB B1.size) (by omega))
  have hw := fun w1 (hb : Below (w0.heap.size + 1) (w0.alloc (.cells #[.int .i64 e.k, .string e.n, .int .i64 e.a, .int .i64 e.b, .slice A e.l.length cap] 24)) w1) =>
    wildH_any e _ B w1 (hs1.below (hb.mono (by omega))) (by have := hb.size; simp at this; omega)
  have hz := fun w1 (hb : Below (w0.heap.size + 1) (w0.alloc (.cells #[.int .i64 e.k, .string e.n, .int .i64 e.a, .int .i64 e.b, .slice A e.l.length cap] 24)) w1) ht =>
    size_any e _ B w1 (hs1.below (hb.mono (by omega))) (by have := hb.size; simp at this; omega) ht
  have HW := Lib.hid hw
  have HZ := Lib.hid hz
  clear hw hz hs1 hs
  obtain ⟨d, HD⟩ : ∃ d, Hid (d = deepN 64 e) := ⟨_, rfl⟩
  rw [← HD.out] at hd
  revert hd
  unfold exV
  intro hd
  cases d
  · go_enter Tryd.func17, Tryd.ntmps17
    go_wp2_with fail
    refine (hd.out).mono ?_
    rintro x w1 ⟨rfl, hb1⟩
    clear hd
    have hb1' : Below (w0.heap.size + 1) (w0.alloc (.cells #[.int .i64 e.k, .string e.n, .int .i64 e.a, .int .i64 e.b, .slice A e.l.length cap] 24)) w1 := by simpa using hb1
    obtain ⟨hc, hf⟩ := bcell hb1
    have hq := Lib.hid (HW.out w1 hb1')
    unfold exV at hq
    obtain ⟨g, HG⟩ : ∃ g, Hid (g = e.anyE wildB) := ⟨_, rfl⟩
    rw [← HG.out] at hq
    have hz1 : w0.heap.size + 1 ≤ w1.heap.size := by have := hb1'.size; simpa using this
    have HB1 := Lib.hid hb1'
    clear hb1 hb1' HW
    go_wp2_with fail
    refine (hq.out).mono ?_
    rintro x w2 ⟨rfl, hb2⟩
    clear hq
    have HB2 := Lib.hid (HB1.out.trans (hb2.mono hz1))
    have hz2 := hb2.size
    clear hc hf hb2
    obtain ⟨hc, hf⟩ := bcell HB2.out
    cases g
    · have hq := Lib.hid (HZ.out w2 HB2.out HG.out.symm)
      unfold exV at hq
      have hlt : w0.heap.size < w0.heap.size + 1 := by omega
      go_wp2_with fail
      refine (hq.out).mono ?_
      rintro x w3 ⟨rfl, hb3⟩
      clear hq hc hf
      go_wp2_with fail
      go_ret
      exact ret_i (by rw [HC.out]; unfold sizeN; rw [← HD.out, ← HG.out]; rfl) (B1.trans ((HB2.out.mono (by omega)).trans (hb3.mono (by omega))))
    · go_wp2_with fail
      go_ret
      exact ret_i (by rw [HC.out]; unfold sizeN; rw [← HD.out, ← HG.out]; rfl) (B1.trans (HB2.out.mono (by omega)))
  · clear HW HZ
    go_enter Tryd.func17, Tryd.ntmps17
    go_wp2_with fail
    refine (hd.out).mono ?_
    rintro x w1 ⟨rfl, hb1⟩
    clear hd
    go_wp2_with fail
    go_ret
    exact ret_i (by rw [HC.out]; unfold sizeN; rw [← HD.out]; rfl) (B1.trans (hb1.mono (by simp)))
end Go.Proofs.YtfbcafapnagjfaaDoor
