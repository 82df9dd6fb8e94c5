/- MdA, MdB, MdC, MdD, MdE, MdF, MdG, MdH, MdI, merged. -/
import Derived.Test.YtiilbgejdpnfpaaMp1
/- Places through maps: the program's small functions. -/
namespace Go.Proofs.Ytiilbgejdpnfpaa
open Go.RowKit Go.Mps

/-- the value of a Range -/
def rgV (r : Rg) : Value := .agg #[.int .i64 r.a, .int .i64 r.o, .int .i64 r.n]

set_option maxRecDepth 100000 in
theorem mdEnd_any (r : Rg) (w : World) (ha : -1099511627776 ≤ r.a ∧ r.a ≤ 1099511627776) (ho : -1099511627776 ≤ r.o ∧ r.o ≤ 1099511627776) :
    Calls Try.prog 31 #[rgV r] w fun e w' => e = .returned (.int .i64 (r.a + r.o)) ∧ Below w.heap.size w w' := by
  obtain ⟨a, o, n⟩ := r
  dsimp only at ha ho
  unfold rgV
  dsimp only
  have hw : IntKind.i64.wrap (a + o) = a + o := IntWalk.i64_in _ (by omega)
  obtain ⟨e, he⟩ : ∃ e, Hid (e = a + o) := ⟨a + o, Lib.hid rfl⟩
  rw [← he.out] at hw ⊢
  have hw : IntKind.i64.wrap (a + o) = e := by rw [← he.out]; exact IntWalk.i64_in _ (by rw [he.out]; omega)
  clear he
  go_enter Try.func31, Try.ntmps31
  go_wp2
  go_ret
  exact ⟨rfl, (Below.refl _ _).alloc (Nat.le_refl _) _⟩

set_option maxRecDepth 100000 in
theorem mdIs_any (x : Int) (w : World) :
    Calls Try.prog 24 #[.int .i64 x] w fun e w' => e = .returned (.bool (decide (0 ≤ x ∧ x ≤ 1048576))) ∧ w' = w := by
  obtain ⟨z, hz⟩ : ∃ z, Hid (z = decide (0 ≤ x ∧ x ≤ 1048576)) := ⟨_, Lib.hid rfl⟩
  rw [← hz.out]
  by_cases h1 : 0 ≤ x
  · by_cases h2 : x ≤ 1048576
    · have hf : Hid (z = true) := by show _ = _; rw [hz.out]; simp [h1, h2]
      go_enter Try.func24, Try.ntmps24
      go_wp2
      go_ret
      exact ⟨by rw [hf.out]; rfl, rfl⟩
    · have hf : Hid (z = false) := by show _ = _; rw [hz.out]; simp [h2]
      have h2' : decide (x ≤ 1048576) = false := decide_eq_false h2
      clear h2
      go_enter Try.func24, Try.ntmps24
      go_wp2
      go_ret
      exact ⟨by rw [hf.out]; rfl, rfl⟩
  · have hf : Hid (z = false) := by show _ = _; rw [hz.out]; simp [h1]
    have h1' : decide (0 ≤ x) = false := decide_eq_false h1
    clear h1
    go_enter Try.func24, Try.ntmps24
    go_wp2
    go_ret
    exact ⟨by rw [hf.out]; rfl, rfl⟩
theorem isP_yes {x : Int} (h : 0 ≤ x ∧ x ≤ 1048576) : decide (0 ≤ x ∧ x ≤ 1048576) = true := decide_eq_true h
theorem isP_no {x : Int} (h : ¬ (0 ≤ x ∧ x ≤ 1048576)) : decide (0 ≤ x ∧ x ≤ 1048576) = false := decide_eq_false h

set_option maxRecDepth 100000 in
theorem mdMay_any (r : Rg) (w : World) :
    Calls Try.prog 30 #[rgV r] w fun e w' => e = .returned (.bool (okR r)) ∧ Below w.heap.size w w' := by
  obtain ⟨z, hz⟩ : ∃ z, Hid (z = okR r) := ⟨_, Lib.hid rfl⟩
  rw [← hz.out]
  obtain ⟨a, o, n⟩ := r
  have hyes : Hid ((0 ≤ a ∧ a ≤ 1048576) → (0 ≤ o ∧ o ≤ 1048576) → (0 ≤ n ∧ n ≤ 1048576) → o + n ≠ 0 → z = true) := fun h1 h2 h3 h4 => by
    rw [hz.out]; exact (okR_iff _).2 ⟨h1.1, h1.2, h2.1, h2.2, h3.1, h3.2, h4⟩
  have hno : Hid (¬ ((0 ≤ a ∧ a ≤ 1048576) ∧ (0 ≤ o ∧ o ≤ 1048576) ∧ (0 ≤ n ∧ n ≤ 1048576) ∧ o + n ≠ 0) → z = false) := fun h => by
    rw [hz.out, Bool.eq_false_iff]; intro e; have := (okR_iff _).1 e; dsimp only at this; exact h ⟨⟨this.1, this.2.1⟩, ⟨this.2.2.1, this.2.2.2.1⟩, ⟨this.2.2.2.2.1, this.2.2.2.2.2.1⟩, this.2.2.2.2.2.2⟩
  unfold rgV
  dsimp only
  have C1 := Lib.hid (fun w' => mdIs_any a w')
  have C2 := Lib.hid (fun w' => mdIs_any o w')
  have C3 := Lib.hid (fun w' => mdIs_any n w')
  have HB := Lib.hid ((Below.refl w.heap.size w).alloc (Nat.le_refl _) (.cells #[.int .i64 a, .int .i64 o, .int .i64 n] 23))
  clear hz
  by_cases h1 : 0 ≤ a ∧ a ≤ 1048576
  · rw [isP_yes h1] at C1
    by_cases h2 : 0 ≤ o ∧ o ≤ 1048576
    · rw [isP_yes h2] at C2
      by_cases h3 : 0 ≤ n ∧ n ≤ 1048576
      · rw [isP_yes h3] at C3
        by_cases h4 : 0 < o
        · have hf := Lib.hid (hyes.out h1 h2 h3 (by omega))
          clear hyes hno h1 h2 h3
          go_enter Try.func30, Try.ntmps30
          go_wp2_with fail
          refine (C1.out _).mono ?_
          rintro e w1 ⟨rfl, rfl⟩
          go_wp2_with fail
          refine (C2.out _).mono ?_
          rintro e w1 ⟨rfl, rfl⟩
          go_wp2_with fail
          refine (C3.out _).mono ?_
          rintro e w1 ⟨rfl, rfl⟩
          go_wp2
          go_ret
          exact ⟨by rw [hf.out]; rfl, HB.out⟩
        · have h4' : decide (0 < o) = false := decide_eq_false h4
          by_cases h5 : 0 < n
          · have hf := Lib.hid (hyes.out h1 h2 h3 (by omega))
            clear hyes hno h1 h2 h3 h4
            go_enter Try.func30, Try.ntmps30
            go_wp2_with fail
            refine (C1.out _).mono ?_
            rintro e w1 ⟨rfl, rfl⟩
            go_wp2_with fail
            refine (C2.out _).mono ?_
            rintro e w1 ⟨rfl, rfl⟩
            go_wp2_with fail
            refine (C3.out _).mono ?_
            rintro e w1 ⟨rfl, rfl⟩
            go_wp2
            go_ret
            exact ⟨by rw [hf.out]; rfl, HB.out⟩
          · have hf := Lib.hid (hno.out (by omega))
            have h5' : decide (0 < n) = false := decide_eq_false h5
            clear hyes hno h1 h2 h3 h4 h5
            go_enter Try.func30, Try.ntmps30
            go_wp2_with fail
            refine (C1.out _).mono ?_
            rintro e w1 ⟨rfl, rfl⟩
            go_wp2_with fail
            refine (C2.out _).mono ?_
            rintro e w1 ⟨rfl, rfl⟩
            go_wp2_with fail
            refine (C3.out _).mono ?_
            rintro e w1 ⟨rfl, rfl⟩
            go_wp2
            go_ret
            exact ⟨by rw [hf.out]; rfl, HB.out⟩
      · rw [isP_no h3] at C3
        have hf := Lib.hid (hno.out (fun h => h3 h.2.2.1))
        clear hyes hno h1 h2 h3
        go_enter Try.func30, Try.ntmps30
        go_wp2_with fail
        refine (C1.out _).mono ?_
        rintro e w1 ⟨rfl, rfl⟩
        go_wp2_with fail
        refine (C2.out _).mono ?_
        rintro e w1 ⟨rfl, rfl⟩
        go_wp2_with fail
        refine (C3.out _).mono ?_
        rintro e w1 ⟨rfl, rfl⟩
        go_wp2
        go_ret
        exact ⟨by rw [hf.out]; rfl, HB.out⟩
    · rw [isP_no h2] at C2
      have hf := Lib.hid (hno.out (fun h => h2 h.2.1))
      clear hyes hno h1 h2 C3
      go_enter Try.func30, Try.ntmps30
      go_wp2_with fail
      refine (C1.out _).mono ?_
      rintro e w1 ⟨rfl, rfl⟩
      go_wp2_with fail
      refine (C2.out _).mono ?_
      rintro e w1 ⟨rfl, rfl⟩
      go_wp2
      go_ret
      exact ⟨by rw [hf.out]; rfl, HB.out⟩
  · rw [isP_no h1] at C1
    have hf := Lib.hid (hno.out (fun h => h1 h.1))
    clear hyes hno h1 C2 C3
    go_enter Try.func30, Try.ntmps30
    go_wp2_with fail
    refine (C1.out _).mono ?_
    rintro e w1 ⟨rfl, rfl⟩
    go_wp2
    go_ret
    exact ⟨by rw [hf.out]; rfl, HB.out⟩
end Go.Proofs.Ytiilbgejdpnfpaa

/- Places through maps: how a row grows, where what came begins, what is around a place: the program's. -/
namespace Go.Proofs.Ytiilbgejdpnfpaa
open Go.RowKit Go.Mps

theorem Rgs.take {w : World} {B : Nat} {A : Option Addr} {cap : Nat} {l : List Rg} (h : Rgs w B (.slice A l.length cap) l) {i : Nat} (hi : i ≤ l.length) : Rgs w B (.slice A i cap) (l.take i) := by
  obtain ⟨A', cap', hv, h0, h1, h2, h3⟩ := h
  simp only [Value.slice.injEq, true_and] at hv
  obtain ⟨rfl, rfl⟩ := hv
  have hl : (l.take i).length = i := by rw [List.length_take]; omega
  refine ⟨A, cap, by rw [hl], rgC_len _, by rw [hl]; omega, h2, ?_⟩
  rcases h3 with h3 | ⟨b, off, hA, hb, hc⟩
  · left; rw [hl]; omega
  · refine .inr ⟨b, off, hA, hb, fun j u hu => hc j u ?_⟩
    have e : rgC l = rgC (l.take i) ++ rgC (l.drop i) := by rw [← rgC_app, List.take_append_drop]
    rw [e, List.getElem?_append_left (List.getElem?_eq_some_iff.1 hu).1]; exact hu

set_option maxRecDepth 100000 in
set_option maxHeartbeats 1000000 in
theorem mdGrowth_any (v : Value) (l : List Rg) (B : Nat) (w : World) (hv : Rgs w B v l) (hB : B ≤ w.heap.size) (hok : ∀ r ∈ l, okR r = true) (h64 : l.length ≤ 64) :
    Calls Try.prog 32 #[v] w fun e w' => e = .returned (.int .i64 (sumM l)) ∧ Below w.heap.size w w' := by
  obtain ⟨A, cap, rfl⟩ := hv.form
  obtain ⟨z, hz⟩ : ∃ z, Hid (z = sumM (l.take l.length)) := ⟨_, Lib.hid rfl⟩
  have hz0 : Hid (z = sumM l) := by show _ = _; rw [hz.out, List.take_length]
  rw [← hz0.out]
  have h1 : (l.length : Int) ≤ 64 := by omega
  have HV := Lib.hid (fun w' (h : Below w.heap.size w w') => hv.below (h.mono hB))
  have HR := Lib.hid hok
  clear hv hok hz0
  go_enter Try.func32, Try.ntmps32
  go_wp2
  go_loopw [3, 8] (fun s3 s8 wr => ∃ (k : Nat) (d : Int), k ≤ l.length ∧ s8 = .int .i64 k ∧ s3 = .int .i64 d ∧ Hid (d = sumM (l.take k)) ∧ -(1048576 * (k : Int)) ≤ d ∧ d ≤ 1048576 * (k : Int) ∧ Hid (Below w.heap.size w wr)) (fun _ x _ => l.length - (intOf x).toNat)
  case atStart => exact ⟨0, 0, Nat.zero_le _, rfl, rfl, rfl, by omega, by omega, Below.refl _ _⟩
  case round =>
    obtain ⟨k, d, hk, rfl, rfl, hd, hd1, hd2, HB⟩ := hrel
    by_cases hlt : k < l.length
    · have hkI : (k : Int) < (l.length : Int) := by omega
      have hk0 : (0 : Int) ≤ k := by omega
      obtain ⟨b, off, rfl, hbB, hcap, c0, c1, c2⟩ := (HV.out _ HB.out).at hlt
      have hbw : b < wr.heap.size := by have := HB.out.size; omega
      have hrr := (okR_iff l[k]).1 (HR.out _ (List.getElem_mem hlt))
      have hs2 := Lib.hid (sum_succ l hlt)
      rw [← hd.out] at hs2
      obtain ⟨r, hr⟩ : ∃ r, Hid (r = l[k]) := ⟨l[k], Lib.hid rfl⟩
      rw [← hr.out] at c0 c1 c2 hrr hs2
      clear hr
      obtain ⟨a, o, n⟩ := r
      dsimp only at c0 c1 c2 hrr hs2
      have hw1 : IntKind.i64.wrap (n - o) = n - o := IntWalk.i64_in _ (by omega)
      have hw2 : IntKind.i64.wrap (d + (n - o)) = d + n - o := by rw [IntWalk.i64_in _ (by omega)]; omega
      have hb1 : -(1048576 * ((k + 1 : Nat) : Int)) ≤ d + n - o := by omega
      have hb2 : d + n - o ≤ 1048576 * ((k + 1 : Nat) : Int) := by omega
      have hd' : Hid (d + n - o = sumM (l.take (k + 1))) := hs2.out.symm
      have HB2 := Lib.hid (HB.out.alloc HB.out.size (.cells #[.int .i64 a, .int .i64 o, .int .i64 n] 23))
      clear hrr hd hs2
      go_wp2
      go_roundw
      case rel => exact ⟨k + 1, d + n - o, by omega, by go_num, rfl, hd', hb1, hb2, HB2⟩
      case measure => simp [intOf]; omega
    · obtain rfl : k = l.length := by omega
      have hq : Hid (z = d) := by show _ = _; rw [hz.out, hd.out]
      go_wp2
      go_ret
      exact ⟨by rw [hq.out]; rfl, HB.out⟩

set_option maxRecDepth 100000 in
set_option maxHeartbeats 1000000 in
theorem mdBegins_any (v : Value) (l : List Rg) (B : Nat) (w : World) (hv : Rgs w B v l) (hB : B ≤ w.heap.size) (hok : okG (-1) l = true) (h64 : l.length ≤ 64) (i : Nat) (hi : i < l.length) :
    Calls Try.prog 29 #[v, .int .i64 i] w fun e w' => e = .returned (.int .i64 (cameM l i)) ∧ Below w.heap.size w w' := by
  obtain ⟨A, cap, rfl⟩ := hv.form
  obtain ⟨z, hz⟩ : ∃ z, Hid (z = cameM l i) := ⟨cameM l i, Lib.hid rfl⟩
  rw [← hz.out]
  have hc := Lib.hid (cameM_at l hi)
  rw [← hz.out] at hc
  have hR : ∀ r ∈ l, okR r = true := fun r hr => okR_of_mem hok r hr
  have hR2 : ∀ r ∈ l.take i, okR r = true := fun r hr => hR r (List.mem_of_mem_take hr)
  have hlt : (l.take i).length = i := by rw [List.length_take]; omega
  have hsb := sum_bound _ hR2
  rw [hlt] at hsb
  have hri := (okR_iff l[i]).1 (hR _ (List.getElem_mem hi))
  have HG := Lib.hid (fun w' (h : Below w.heap.size w w') => mdGrowth_any _ (l.take i) B w' ((hv.below (h.mono hB)).take (Nat.le_of_lt hi)) (Nat.le_trans hB h.size) hR2 (by omega))
  obtain ⟨b, off, rfl, hbB, hcap, c0, _, _⟩ := hv.at hi
  obtain ⟨a, ha⟩ : ∃ a, Hid (a = l[i].a) := ⟨l[i].a, Lib.hid rfl⟩
  obtain ⟨d, hd⟩ : ∃ d, Hid (d = sumM (l.take i)) := ⟨_, Lib.hid rfl⟩
  rw [← ha.out] at c0 hc hri
  rw [← hd.out] at hc HG hsb
  have hbw : b < w.heap.size := by omega
  have hiI : (i : Int) < (l.length : Int) := by omega
  have hi0 : (0 : Int) ≤ i := by omega
  have hic : (i : Int) ≤ (cap : Int) := by omega
  have hw : IntKind.i64.wrap (a + d) = z := by rw [hc.out]; exact IntWalk.i64_in _ (by omega)
  have c0' : w.drew.cell? ⟨b, off + i * 3, none⟩ = some (.int .i64 a) := c0
  clear hv hri hok hz ha hd hc hsb hR hR2 hlt
  go_enter Try.func29, Try.ntmps29
  go_wp2_with fail
  go_region_held3 (fun w' => w'.cell? ⟨b, off + i * 3, none⟩ = some (.int .i64 a))
    (first | exact c0' | exact (hb.cell (p := ⟨b, off + i * 3, none⟩) hbw).trans c0')
    ((go_at_call 32; refine (HG.out _ (Below.refl _ _).drew).mono ?_; rintro e w2 ⟨rfl, hb⟩))
  all_goals
    go_wp2
    go_ret
    exact ⟨rfl, (Below.refl _ _).drew.trans hb⟩
end Go.Proofs.Ytiilbgejdpnfpaa

/- Places through maps: what is around a place, and to which end it comes: the program's. -/
namespace Go.Mps
/-- how many ranges end ahead of a place -/
def arG (p : Int) : List Rg → Nat
  | [] => 0
  | r :: l => if r.a + r.o < p then arG p l + 1 else 0
/-- whether it stands in or at the next one -/
def arW (p : Int) (l : List Rg) : Bool := match l[arG p l]? with
  | some r => decide (r.a ≤ p)
  | none => false
theorem arG_le (p : Int) : ∀ l : List Rg, arG p l ≤ l.length
  | [] => Nat.le_refl _
  | r :: l => by unfold arG; have := arG_le p l; split <;> simp <;> omega
theorem arG_drop (p : Int) (l : List Rg) {k : Nat} (h : k < l.length) : arG p (l.drop k) = if l[k].a + l[k].o < p then arG p (l.drop (k + 1)) + 1 else 0 := by
  rw [List.drop_eq_getElem_cons h, arG]
theorem arW_lt {p : Int} {l : List Rg} (h : arW p l = true) : arG p l < l.length := by
  unfold arW at h
  cases e : l[arG p l]? with
  | none => rw [e] at h; cases h
  | some r => exact (List.getElem?_eq_some_iff.1 e).1
theorem arW_eq {p : Int} {l : List Rg} (h : arG p l < l.length) : arW p l = decide (l[arG p l].a ≤ p) := by
  unfold arW; rw [List.getElem?_eq_getElem h]
theorem arW_no {p : Int} {l : List Rg} (h : ¬ arG p l < l.length) : arW p l = false := by
  unfold arW; rw [List.getElem?_eq_none (by omega)]
/-- what is hit, by what is around -/
theorem hit_ar (lean p : Int) : ∀ (l : List Rg) (d : Int) (i : Nat), (∀ r ∈ l, 0 ≤ r.o) →
    (∀ h : arG p l < l.length, l[arG p l].a ≤ p → hitG lean p d i l = (at1 lean (d + sumM (l.take (arG p l))) p l[arG p l], some (i + arG p l)) ∧ p ≤ l[arG p l].a + l[arG p l].o) ∧
    (arW p l = false → hitG lean p d i l = (out (p + (d + sumM (l.take (arG p l)))), none))
  | [], d, i, _ => by
    refine ⟨fun h => by simp [arG] at h, fun _ => ?_⟩
    simp [arG, hitG, sumM]
  | r :: l, d, i, ho => by
    have ih := hit_ar lean p l (d + r.n - r.o) (i + 1) (fun x hx => ho x (List.mem_cons_of_mem _ hx))
    have h0 := ho r (List.mem_cons_self ..)
    by_cases hlt : r.a + r.o < p
    · have e : arG p (r :: l) = arG p l + 1 := by rw [arG, if_pos hlt]
      have eh : hitG lean p d i (r :: l) = hitG lean p (d + r.n - r.o) (i + 1) l := by rw [hitG, if_neg (by omega), if_pos hlt]
      have ew : arW p (r :: l) = arW p l := by unfold arW; rw [e]; rfl
      refine ⟨fun h ha => ?_, fun hw => ?_⟩
      · simp only [e, List.getElem_cons_succ] at ha ⊢
        obtain ⟨q1, q2⟩ := ih.1 (by rw [e] at h; simpa using h) ha
        refine ⟨?_, q2⟩
        have e1 : d + r.n - r.o + sumM (l.take (arG p l)) = d + (r.n - r.o + sumM (l.take (arG p l))) := by omega
        have e2 : i + 1 + arG p l = i + (arG p l + 1) := by omega
        rw [eh, q1, List.take_succ_cons, sumM, e1, e2]
      · rw [eh, ih.2 (by rw [← ew]; exact hw), e, List.take_succ_cons, sumM]
        congr 2; omega
    · have e : arG p (r :: l) = 0 := by rw [arG, if_neg hlt]
      refine ⟨fun h ha => ?_, fun hw => ?_⟩
      · simp only [e, List.getElem_cons_zero] at ha ⊢
        refine ⟨?_, by omega⟩
        rw [hitG, if_neg (by omega), if_neg hlt]
        simp [sumM]
      · unfold arW at hw
        simp only [e, List.getElem?_cons_zero, decide_eq_false_iff_not] at hw
        rw [hitG, if_pos (by omega), e]
        simp [sumM]
/-- does the place come to the end of what came -/
def toE (lean p : Int) (r : Rg) : Bool := decide ((0 < r.o ∧ p = r.a + r.o) ∨ ((¬ (0 < r.o ∧ p = r.a)) ∧ 0 ≤ lean))
end Go.Mps
namespace Go.Proofs.Ytiilbgejdpnfpaa
open Go.RowKit Go.Mps

set_option maxRecDepth 100000 in
set_option maxHeartbeats 1000000 in
theorem mdAround_any (v : Value) (l : List Rg) (B : Nat) (w : World) (hv : Rgs w B v l) (hB : B ≤ w.heap.size) (hok : ∀ r ∈ l, okR r = true) (h64 : l.length ≤ 64) (p : Int) :
    Calls Try.prog 27 #[v, .int .i64 p] w fun e w' => e = .returned (.tuple #[.int .i64 (arG p l), .bool (arW p l)]) ∧ Below w.heap.size w w' := by
  obtain ⟨A, cap, rfl⟩ := hv.form
  obtain ⟨z, hz⟩ : ∃ z, Hid (z = arG p (l.drop 0)) := ⟨_, Lib.hid rfl⟩
  obtain ⟨y, hy⟩ : ∃ y, Hid (y = arW p l) := ⟨_, Lib.hid rfl⟩
  have hz0 : Hid (z = arG p l) := by show _ = _; rw [hz.out, List.drop_zero]
  rw [← hz0.out, ← hy.out]
  have h1 : (l.length : Int) ≤ 64 := by omega
  have HV := Lib.hid (fun w' (h : Below w.heap.size w w') => hv.below (h.mono hB))
  have HR := Lib.hid hok
  have hy1 : Hid (∀ h : z < l.length, y = decide (l[z].a ≤ p)) := fun h => by
    have e := hz0.out
    subst e
    rw [hy.out]; exact arW_eq h
  have hy2 : Hid (¬ z < l.length → y = false) := fun h => by rw [hy.out]; exact arW_no (by rw [← hz0.out]; exact h)
  clear hv hok hz0 hy
  go_enter Try.func27, Try.ntmps27
  go_wp2
  go_loopw [6] (fun s6 wr => ∃ (k : Nat), k ≤ l.length ∧ s6 = .int .i64 k ∧ Hid (z = k + arG p (l.drop k)) ∧ Hid (Below w.heap.size w wr)) (fun x _ => l.length - (intOf x).toNat)
  case atStart => exact ⟨0, Nat.zero_le _, rfl, by show _ = _; rw [hz.out, Nat.zero_add], Below.refl _ _⟩
  case round =>
    obtain ⟨k, hk, rfl, hq, HB⟩ := hrel
    by_cases hlt : k < l.length
    · have hkI : (k : Int) < (l.length : Int) := by omega
      have hk0 : (0 : Int) ≤ k := by omega
      obtain ⟨b, off, rfl, hbB, hcap, c0, c1, c2⟩ := (HV.out _ HB.out).at hlt
      have hbw : b < wr.heap.size := by have := HB.out.size; omega
      have hrr := (okR_iff l[k]).1 (HR.out _ (List.getElem_mem hlt))
      have hs2 := Lib.hid (arG_drop p l hlt)
      have hy3 : Hid (z = k → y = decide (l[k].a ≤ p)) := fun h => by subst h; exact hy1.out hlt
      obtain ⟨r, hr⟩ : ∃ r, Hid (r = l[k]) := ⟨l[k], Lib.hid rfl⟩
      rw [← hr.out] at c0 c1 c2 hrr hs2 hy3
      clear hr
      have CE := Lib.hid (mdEnd_any r wr (by omega) (by omega))
      obtain ⟨a, o, n⟩ := r
      unfold rgV at CE
      dsimp only at c0 c1 c2 hrr hs2 hy3 CE
      obtain ⟨e, he⟩ : ∃ e, Hid (e = a + o) := ⟨a + o, Lib.hid rfl⟩
      rw [← he.out] at CE hs2
      clear hrr he
      by_cases x1 : e < p
      · have hr : Hid (z = (k + 1) + arG p (l.drop (k + 1))) := by show _ = _; rw [hq.out, hs2.out, if_pos x1]; omega
        clear hs2 hq hy3
        go_wp2_with fail
        refine CE.out.mono ?_
        rintro e1 w1 ⟨rfl, hb1⟩
        have HB2 := Lib.hid (HB.out.trans (hb1.mono HB.out.size))
        clear CE hb1
        go_wp2
        go_roundw
        case rel => exact ⟨k + 1, by omega, by go_num, hr, HB2⟩
        case measure => simp [intOf]; omega
      · have hr : Hid (z = k) := by show _ = _; rw [hq.out, hs2.out, if_neg x1]; rfl
        have x1' : decide (e < p) = false := decide_eq_false x1
        have hyy := Lib.hid (hy3.out hr.out)
        clear hs2 hq hy3 x1
        go_wp2_with fail
        refine CE.out.mono ?_
        rintro e1 w1 ⟨rfl, hb1⟩
        have c0b := (hb1.cell (p := ⟨b, off + k * 3, none⟩) hbw).trans c0
        have hbw1 : b < w1.heap.size := by have := hb1.size; omega
        have HB2 := Lib.hid (HB.out.trans (hb1.mono HB.out.size))
        clear CE hb1 c0 c1 c2
        go_wp2
        go_quiet (fail)
        go_wp2
        go_ret2
        exact ⟨by rw [hr.out, hyy.out]; rfl, blN HB2.out _⟩
    · obtain rfl : k = l.length := by omega
      have hr : Hid (z = l.length) := by show _ = _; rw [hq.out, List.drop_length]; rfl
      have hyy := Lib.hid (hy2.out (by rw [hr.out]; omega))
      clear hq
      go_wp2
      go_quiet (fail)
      go_wp2
      go_ret2
      exact ⟨by rw [hr.out, hyy.out]; rfl, blN HB.out _⟩

set_option maxRecDepth 100000 in
set_option maxHeartbeats 1000000 in
theorem mdToEnd_any (r : Rg) (p lean : Int) (w : World) (hr : okR r = true) :
    Calls Try.prog 39 #[rgV r, .int .i64 p, .int .i64 lean] w fun e w' => e = .returned (.bool (toE lean p r)) ∧ Below w.heap.size w w' := by
  obtain ⟨z, hz⟩ : ∃ z, Hid (z = toE lean p r) := ⟨_, Lib.hid rfl⟩
  rw [← hz.out]
  have hrr := (okR_iff r).1 hr
  have CE := Lib.hid (fun w' => mdEnd_any r w' (by omega) (by omega))
  obtain ⟨a, o, n⟩ := r
  unfold rgV at CE ⊢
  unfold toE at hz
  dsimp only at CE hrr hz ⊢
  have HB := Lib.hid ((Below.refl w.heap.size w).alloc (Nat.le_refl _) (.cells #[.int .i64 a, .int .i64 o, .int .i64 n] 23))
  by_cases h0 : o = 0
  · subst h0
    have hf : Hid (z = decide (0 ≤ lean)) := by show _ = _; rw [hz.out]; simp
    clear hz hrr hr CE
    go_enter Try.func39, Try.ntmps39
    go_wp2
    go_ret
    exact ⟨by rw [hf.out]; rfl, HB.out⟩
  · have h0' : (o == 0) = false := beq_eq_false_iff_ne.2 h0
    have ho : 0 < o := by omega
    by_cases h1 : p = a
    · have hf : Hid (z = false) := by show _ = _; rw [hz.out]; simp [ho, h1]; omega
      have h1' : (p == a) = true := beq_iff_eq.2 h1
      clear hz hrr hr CE h0 h1
      go_enter Try.func39, Try.ntmps39
      go_wp2
      go_ret
      exact ⟨by rw [hf.out]; rfl, HB.out⟩
    · have h1' : (p == a) = false := beq_eq_false_iff_ne.2 h1
      obtain ⟨e, he⟩ : ∃ e, Hid (e = a + o) := ⟨a + o, Lib.hid rfl⟩
      rw [← he.out] at CE hz
      by_cases h2 : p = e
      · have hf : Hid (z = true) := by show _ = _; rw [hz.out]; simp [ho, h2]
        have h2' : (p == e) = true := beq_iff_eq.2 h2
        clear hz hrr hr h0 h1 h2 he
        go_enter Try.func39, Try.ntmps39
        go_wp2_with fail
        refine (CE.out _).mono ?_
        rintro e1 w1 ⟨rfl, hb1⟩
        have HB2 := Lib.hid (HB.out.trans (hb1.mono HB.out.size))
        clear CE hb1
        go_wp2
        go_ret
        exact ⟨by rw [hf.out]; rfl, HB2.out⟩
      · have h2' : (p == e) = false := beq_eq_false_iff_ne.2 h2
        have hf : Hid (z = decide (0 ≤ lean)) := by show _ = _; rw [hz.out]; simp [ho, h1, h2]
        clear hz hrr hr h0 h1 h2 he
        go_enter Try.func39, Try.ntmps39
        go_wp2_with fail
        refine (CE.out _).mono ?_
        rintro e1 w1 ⟨rfl, hb1⟩
        have HB2 := Lib.hid (HB.out.trans (hb1.mono HB.out.size))
        clear CE hb1
        go_wp2
        go_ret
        exact ⟨by rw [hf.out]; rfl, HB2.out⟩
end Go.Proofs.Ytiilbgejdpnfpaa

/- Places through maps: how a place went, so far: meet, moved: the program's. -/
namespace Go.Mps
/-- how a place went so far -/
structure Wn where
  a : Bool
  b : Bool
  c : Bool
  d : Bool
deriving DecidableEq, Inhabited
def Wn.zero : Wn := ⟨false, false, false, false⟩
def Wn.join (w : Wn) (v : Mv) : Wn := ⟨w.a || v.ahead, w.b || v.behind, w.c || v.across, w.d || v.lost⟩
def meetW (w : Wn) (x y : Bool) (lean : Int) : Wn := ⟨w.a || x, w.b || y, w.c || (x && y), w.d || (if lean < 0 then x else y)⟩
def Wn.mv (w : Wn) (p : Int) : Mv := ⟨p, w.a, w.b, w.c, w.d⟩
theorem Wn.join_mv (w : Wn) (p : Int) (v : Mv) : joinM (w.mv p) v = (w.join v).mv v.p := rfl
theorem Wn.join_out (w : Wn) (p : Int) : w.join (out p) = w := by cases w; simp [Wn.join, out]
theorem Wn.join_at (w : Wn) (lean d p : Int) (r : Rg) : w.join (at1 lean d p r) = meetW w (decide (r.a < p)) (decide (p < r.a + r.o)) lean := by
  unfold Wn.join at1 meetW
  simp only [Wn.mk.injEq, true_and, Bool.decide_and]
  congr 1
  by_cases h : lean < 0
  · rw [if_pos h]; congr 1; simp [h]; omega
  · rw [if_neg h]; congr 1; simp [h]; omega
end Go.Mps
namespace Go.Proofs.Ytiilbgejdpnfpaa
open Go.RowKit Go.Mps
/-- below block B all is as it was, but for block g -/
structure Bg (B g : Nat) (w w' : World) : Prop where
  os : w'.os = w.os
  tape : w'.tape = w.tape
  output : w'.output = w.output
  size : w.heap.size ≤ w'.heap.size
  block : ∀ k, k < B → k ≠ g → w'.heap[k]? = w.heap[k]?
section
variable {B B' g : Nat} {a w w' : World}
theorem Bg.refl (B g : Nat) (w : World) : Bg B g w w := ⟨rfl, rfl, rfl, Nat.le_refl _, fun _ _ _ => rfl⟩
theorem Bg.trans (h : Bg B g a w) (k : Bg B g w w') : Bg B g a w' := ⟨k.os.trans h.os, k.tape.trans h.tape, k.output.trans h.output, Nat.le_trans h.size k.size, fun i hi hn => (k.block i hi hn).trans (h.block i hi hn)⟩
theorem Bg.mono (h : Bg B g w w') (hB : B' ≤ B) : Bg B' g w w' := ⟨h.os, h.tape, h.output, h.size, fun k hk => h.block k (by omega)⟩
theorem Bg.below (h : Bg B g a w) (k : Below B w w') : Bg B g a w' := ⟨k.os.trans h.os, k.tape.trans h.tape, k.output.trans h.output, Nat.le_trans h.size k.size, fun i hi hn => (k.block i hi).trans (h.block i hi hn)⟩
theorem Bg.drew (h : Bg B g a w) : Bg B g a w.drew := ⟨h.os, h.tape, h.output, h.size, h.block⟩
theorem Bg.drewN (h : Bg B g a w) (n : Nat) : Bg B g a (w.drewN n) := ⟨h.os, h.tape, h.output, h.size, h.block⟩
theorem Bg.alloc (h : Bg B g a w) (hB : B ≤ w.heap.size) (o : Obj) : Bg B g a (w.alloc o) := h.below ((Below.refl _ _).alloc hB _)
theorem Bg.set (h : Bg B g a w) (i : Nat) (u : Value) : Bg B g a (w.setCell ⟨g, i, none⟩ u) :=
  ⟨h.os, h.tape, h.output, by rw [World.size_setCell]; exact h.size, fun k hk hn => (Below.heap_setCell w _ u k hn).trans (h.block k hk hn)⟩
theorem Bg.cell (h : Bg B g w w') {p : Addr} (hp : p.block < B) (hn : p.block ≠ g) : w'.cell? p = w.cell? p := World.cell?_of_block (w := w) (h.block p.block hp hn)
theorem Bg.frozen (h : Bg B g w w') {p : Addr} (hp : p.block < B) (hn : p.block ≠ g) : w'.frozen? p = w.frozen? p := World.frozen?_of_block (w := w) (h.block p.block hp hn)
theorem Bg.of (h : Below B w w') (g : Nat) : Bg B g w w' := (Bg.refl _ _ _).below h
/-- below a block not above g all is as it was -/
theorem Bg.to (h : Bg B g w w') {n : Nat} (hB : n ≤ B) (hn : n ≤ g) : Below n w w' := ⟨h.os, h.tape, h.output, h.size, fun k hk => h.block k (by omega) (by omega)⟩
end
/-- block g holds how a place went -/
def Wp (w : World) (g : Nat) (x : Wn) : Prop := Bk w g 47 #[.bool x.a, .bool x.b, .bool x.c, .bool x.d]
theorem wpFacts {w : World} {g : Nat} {x : Wn} (h : Wp w g x) :
    w.cell? ⟨g, 0, none⟩ = some (.bool x.a) ∧ w.cell? ⟨g, 1, none⟩ = some (.bool x.b) ∧ w.cell? ⟨g, 1 + 1, none⟩ = some (.bool x.c) ∧ w.cell? ⟨g, 1 + 1 + 1, none⟩ = some (.bool x.d) ∧
    w.frozen? ⟨g, 0, none⟩ = false ∧ w.frozen? ⟨g, 1, none⟩ = false ∧ w.frozen? ⟨g, 1 + 1, none⟩ = false ∧ w.frozen? ⟨g, 1 + 1 + 1, none⟩ = false ∧ g < w.heap.size :=
  ⟨Bk.cell h 0, Bk.cell h 1, Bk.cell h 2, Bk.cell h 3, Bk.frozen h 0, Bk.frozen h 1, Bk.frozen h 2, Bk.frozen h 3, Bk.lt h⟩
theorem Wp.put {w : World} {g : Nat} {x : Wn} (h : Wp w g x) (a b c d : Bool) : Wp ((((w.setCell ⟨g, 0, none⟩ (.bool a)).setCell ⟨g, 1, none⟩ (.bool b)).setCell ⟨g, 2, none⟩ (.bool c)).setCell ⟨g, 3, none⟩ (.bool d)) g ⟨a, b, c, d⟩ := by
  have := (((Bk.set h 0 (.bool a)).set 1 (.bool b)).set 2 (.bool c)).set 3 (.bool d)
  simpa [Wp] using this

theorem mv_retS {w0 W : World} {g s : Nat} {fn : Func} {a : Act} {z m : Mv} (hf : fn.results = #[.cell s 27]) (h2 : a.tmps.getD s undef = .pointer (some ⟨g, 0, none⟩)) (hd : a.defers = [])
    (hz : Hid (z = m)) (hk : Bk W g 27 #[.int .i64 m.p, .bool m.ahead, .bool m.behind, .bool m.across, .bool m.lost]) (hb : Below w0.heap.size w0 W) :
    bodyPost Try.prog fn (fun e w' => e = .returned (mvV z) ∧ Below w0.heap.size w0 w') .ret a W := by
  obtain ⟨x0, x1, x2, x3, x4, -⟩ := mvFacts hk
  refine bodyPost_ret (v := mvV m) ?_ hd ⟨by rw [hz.out], hb⟩
  obtain ⟨tmps, defers⟩ := a
  have e2 : tmps[s]?.getD undef = .pointer (some ⟨g, 0, none⟩) := by simpa using h2
  simp [results, hf, e2, go_sem, x0, x1, x2, x3, x4, mvV]

set_option maxRecDepth 100000 in
set_option maxHeartbeats 1000000 in
theorem mdMoved_any (g : Nat) (q : Wn) (p : Int) (w : World) (h : Wp w g q) :
    Calls Try.prog 25 #[.pointer (some ⟨g, 0, none⟩), .int .i64 p] w fun e w' => e = .returned (mvV (q.mv p)) ∧ Below w.heap.size w w' := by
  obtain ⟨c0, c1, c2, c3, f0, f1, f2, f3, hl⟩ := wpFacts h
  obtain ⟨a, b, c, d⟩ := q
  dsimp only [Wn.mv] at c0 c1 c2 c3 ⊢
  have HBk := Lib.hid (Bk.new w 27 #[.int .i64 p, .bool a, .bool b, .bool c, .bool d])
  have HB0 := Lib.hid (((Below.refl w.heap.size w).alloc (Nat.le_refl _) (.cells #[.int .i64 p, .bool a, .bool b, .bool c, .bool d] 27)))
  clear h f0 f1 f2 f3
  have x0 : (w.alloc (.cells #[.int .i64 0, .bool false, .bool false, .bool false, .bool false] 27)).drew.cell? ⟨g, 0, none⟩ = some (.bool a) := by go_simp
  have x1 : (w.alloc (.cells #[.int .i64 0, .bool false, .bool false, .bool false, .bool false] 27)).drew.cell? ⟨g, 1, none⟩ = some (.bool b) := by go_simp
  have x2 : (w.alloc (.cells #[.int .i64 0, .bool false, .bool false, .bool false, .bool false] 27)).drew.cell? ⟨g, 1 + 1, none⟩ = some (.bool c) := by go_simp
  have x3 : (w.alloc (.cells #[.int .i64 0, .bool false, .bool false, .bool false, .bool false] 27)).drew.cell? ⟨g, 1 + 1 + 1, none⟩ = some (.bool d) := by go_simp
  have y0 : (w.alloc (.cells #[.int .i64 p, .bool a, .bool b, .bool c, .bool d] 27)).drew.cell? ⟨g, 0, none⟩ = some (.bool a) := by go_simp
  have y1 : (w.alloc (.cells #[.int .i64 p, .bool a, .bool b, .bool c, .bool d] 27)).drew.cell? ⟨g, 1, none⟩ = some (.bool b) := by go_simp
  have y2 : (w.alloc (.cells #[.int .i64 p, .bool a, .bool b, .bool c, .bool d] 27)).drew.cell? ⟨g, 1 + 1, none⟩ = some (.bool c) := by go_simp
  have y3 : (w.alloc (.cells #[.int .i64 p, .bool a, .bool b, .bool c, .bool d] 27)).drew.cell? ⟨g, 1 + 1 + 1, none⟩ = some (.bool d) := by go_simp
  go_enter Try.func25, Try.ntmps25
  go_wp2_with fail
  go_region_held3 (fun w' => w'.cell? ⟨g, 0, none⟩ = some (.bool a) ∧ w'.cell? ⟨g, 1, none⟩ = some (.bool b) ∧ w'.cell? ⟨g, 1 + 1, none⟩ = some (.bool c) ∧ w'.cell? ⟨g, 1 + 1 + 1, none⟩ = some (.bool d))
    (first | exact ⟨x0, x1, x2, x3⟩ | exact ⟨y0, y1, y2, y3⟩)
    (fail)
  all_goals
    go_wp2
    exact mv_retS (m := ⟨p, a, b, c, d⟩) rfl rfl rfl (Lib.hid rfl) HBk.out HB0.out.drew
end Go.Proofs.Ytiilbgejdpnfpaa

/- Places through maps: what one Range does to how a place went: the program's meet. -/
namespace Go.Proofs.Ytiilbgejdpnfpaa
open Go.RowKit Go.Mps
set_option maxRecDepth 100000 in
set_option maxHeartbeats 20000000 in
theorem mdMeet_any (g : Nat) (q : Wn) (x y : Bool) (lean : Int) (w : World) (h : Wp w g q) :
    Calls Try.prog 38 #[.pointer (some ⟨g, 0, none⟩), .bool x, .bool y, .int .i64 lean] w fun e w' => e = .returned (.tuple #[]) ∧ Wp w' g (meetW q x y lean) ∧ Bg w.heap.size g w w' := by
  obtain ⟨c0, c1, c2, c3, f0, f1, f2, f3, hl⟩ := wpFacts h
  obtain ⟨z, hz⟩ : ∃ z, Hid (z = meetW q x y lean) := ⟨_, Lib.hid rfl⟩
  rw [← hz.out]
  have H := Lib.hid h
  obtain ⟨a, b, c, d⟩ := q
  dsimp only at c0 c1 c2 c3
  unfold meetW at hz
  dsimp only at hz
  clear h
  by_cases hn : lean < 0
  · rw [if_pos hn] at hz
    cases c
    · cases x <;> cases a <;> cases b <;> cases d
      all_goals
        go_enter Try.func38, Try.ntmps38
        go_wp2
        go_end0
        refine ⟨rfl, by rw [hz.out]; simpa using H.out.put _ _ _ _, (((Bg.refl _ _ _).set _ _).set _ _).set _ _ |>.set _ _⟩
    · cases a <;> cases b <;> cases d
      all_goals
        go_enter Try.func38, Try.ntmps38
        go_wp2
        go_end0
        refine ⟨rfl, by rw [hz.out]; simpa using H.out.put _ _ _ _, (((Bg.refl _ _ _).set _ _).set _ _).set _ _ |>.set _ _⟩
  · rw [if_neg hn] at hz
    have hn' : decide (lean < 0) = false := decide_eq_false hn
    clear hn
    cases c
    · cases x <;> cases a <;> cases b <;> cases d
      all_goals
        go_enter Try.func38, Try.ntmps38
        go_wp2
        go_end0
        refine ⟨rfl, by rw [hz.out]; simpa using H.out.put _ _ _ _, (((Bg.refl _ _ _).set _ _).set _ _).set _ _ |>.set _ _⟩
    · cases a <;> cases b <;> cases d
      all_goals
        go_enter Try.func38, Try.ntmps38
        go_wp2
        go_end0
        refine ⟨rfl, by rw [hz.out]; simpa using H.out.put _ _ _ _, (((Bg.refl _ _ _).set _ _).set _ _).set _ _ |>.set _ _⟩

end Go.Proofs.Ytiilbgejdpnfpaa

/- Places through maps: a place through one map: the program's through. -/
namespace Go.Proofs.Ytiilbgejdpnfpaa
open Go.RowKit Go.Mps

set_option maxRecDepth 100000 in
set_option maxHeartbeats 2000000 in
theorem mdThrough_any (g : Nat) (q : Wn) (v : Value) (l : List Rg) (B : Nat) (w : World) (h : Wp w g q) (hv : Rgs w B v l) (hB : B ≤ w.heap.size) (hg : B ≤ g) (hok : okG (-1) l = true) (h64 : l.length ≤ 64) (p lean : Int) (hp : -1099511627776 ≤ p ∧ p ≤ 1099511627776) :
    Calls Try.prog 28 #[.pointer (some ⟨g, 0, none⟩), v, .int .i64 p, .int .i64 lean] w fun e w' => e = .returned (.int .i64 (hitM l p lean).1.p) ∧ Wp w' g (q.join (hitM l p lean).1) ∧ Bg w.heap.size g w w' := by
  obtain ⟨A, cap, rfl⟩ := hv.form
  have hR : ∀ r ∈ l, okR r = true := fun r hr => okR_of_mem hok r hr
  have hR0 : ∀ r ∈ l, 0 ≤ r.o := fun r hr => ((okR_iff r).1 (hR r hr)).2.2.1
  obtain ⟨hin, hout⟩ := hit_ar lean p l 0 0 hR0
  obtain ⟨z, hz⟩ : ∃ z, Hid (z = (hitM l p lean).1) := ⟨_, Lib.hid rfl⟩
  rw [← hz.out]
  have CA := Lib.hid (mdAround_any _ l B w hv hB hR h64 p)
  have HV := Lib.hid (fun w' (h : Below B w w') => hv.below h)
  have hle := arG_le p l
  have hlc : l.length ≤ cap := by obtain ⟨_, _, hv0, _, h3, _⟩ := hv; simp only [Value.slice.injEq] at hv0; omega
  cases hw : arW p l with
  | false =>
    have e1 : z = out (p + sumM (l.take (arG p l))) := by rw [hz.out]; unfold hitM; rw [hout hw, Int.zero_add]
    rw [hw] at CA
    obtain ⟨i, hi⟩ : ∃ i, Hid (i = arG p l) := ⟨_, Lib.hid rfl⟩
    rw [← hi.out] at CA e1 hle
    have hR2 : ∀ r ∈ l.take i, okR r = true := fun r hr => hR r (List.mem_of_mem_take hr)
    have hlt : (l.take i).length = i := by rw [List.length_take]; omega
    have hsb := sum_bound _ hR2
    rw [hlt] at hsb
    have CG := Lib.hid (fun w' (h : Below w.heap.size w w') => mdGrowth_any _ (l.take i) B w' ((HV.out w' (h.mono hB)).take hle) (Nat.le_trans hB h.size) hR2 (by omega))
    obtain ⟨d, hd⟩ : ∃ d, Hid (d = sumM (l.take i)) := ⟨_, Lib.hid rfl⟩
    rw [← hd.out] at CG e1 hsb
    have hf : Hid (z = out (p + d)) := Lib.hid e1
    have hic : (i : Int) ≤ (cap : Int) := by omega
    have hi0 : (0 : Int) ≤ i := by omega
    have hw1 : IntKind.i64.wrap (p + d) = p + d := IntWalk.i64_in _ (by omega)
    have H := Lib.hid h
    clear hz hin hout hw hv hR hR0 hR2 hlt hsb hd hi hok e1 h
    go_enter Try.func28, Try.ntmps28
    go_wp2_with fail
    refine CA.out.mono ?_
    rintro e w1 ⟨rfl, hb1⟩
    have CG1 := Lib.hid (CG.out w1 hb1)
    have HB1 := Lib.hid hb1
    clear CG CA hb1
    go_wp2_with fail
    refine CG1.out.mono ?_
    rintro e w2 ⟨rfl, hb2⟩
    have HB2 := Lib.hid (HB1.out.trans (hb2.mono HB1.out.size))
    clear CG1 hb2
    go_wp2
    go_ret
    refine ⟨by rw [hf.out]; rfl, ?_, Bg.of HB2.out g⟩
    rw [hf.out, Wn.join_out]
    exact Bk.over H.out HB2.out (Bk.lt H.out)
  | true =>
    have hi1 := arW_lt hw
    have hia : l[arG p l].a ≤ p := by have := arW_eq hi1 (p := p); rw [hw] at this; simpa using this.symm
    obtain ⟨e1, e2⟩ := hin hi1 hia
    have e1 : z = at1 lean (sumM (l.take (arG p l))) p l[arG p l] := by rw [hz.out]; unfold hitM; rw [e1, Int.zero_add]
    rw [hw] at CA
    have hcm := cameM_at l hi1
    obtain ⟨i, hi⟩ : ∃ i, Hid (i = arG p l) := ⟨_, Lib.hid rfl⟩
    simp only [← hi.out] at CA e1 hle hi1 hia e2 hcm
    have hrr := (okR_iff l[i]).1 (hR _ (List.getElem_mem hi1))
    have CB := Lib.hid (fun w' (h : Below B w w') (h2 : w.heap.size ≤ w'.heap.size) => mdBegins_any _ l B w' (HV.out w' h) (Nat.le_trans hB h2) hok h64 i hi1)
    have CE := Lib.hid (fun w' => mdEnd_any l[i] w' (by omega) (by omega))
    have CT := Lib.hid (fun w' => mdToEnd_any l[i] p lean w' (hR _ (List.getElem_mem hi1)))
    have hj := Wn.join_at q lean (sumM (l.take i)) p l[i]
    rw [← e1] at hj
    have CM := Lib.hid (fun w' (h : Wp w' g q) => mdMeet_any g q (decide (l[i].a < p)) (decide (p < l[i].a + l[i].o)) lean w' h)
    rw [← hj] at CM
    have hsb := sum_bound (l.take i) (fun r hr => hR r (List.mem_of_mem_take hr))
    rw [show (l.take i).length = i by rw [List.length_take]; omega] at hsb
    obtain ⟨b, off, rfl, hbB, hcap, c0, c1, c2⟩ := hv.at hi1
    obtain ⟨cm, hcmh⟩ : ∃ cm, Hid (cm = cameM l i) := ⟨_, Lib.hid rfl⟩
    rw [← hcmh.out] at CB hcm
    have hzp : Hid (z.p = cm + (if toE lean p l[i] then l[i].n else 0)) := by
      show _ = _
      rw [e1, hcm]; unfold at1 toE
      simp only [decide_eq_true_eq]
    obtain ⟨r, hr⟩ : ∃ r, Hid (r = l[i]) := ⟨l[i], Lib.hid rfl⟩
    simp only [← hr.out] at c0 c1 c2 hrr CE CT CM hzp hcm hia e2
    have hcb : -67108864 ≤ cm ∧ cm ≤ 68157440 := by omega
    have hiI : (i : Int) < (l.length : Int) := by omega
    have hi0 : (0 : Int) ≤ i := by omega
    have hbw : b < w.heap.size := by omega
    have hbg : b ≠ g := by omega
    obtain ⟨a, o, n⟩ := r
    unfold rgV at CE CT
    dsimp only at c0 c1 c2 hrr CE CT CM hzp hia e2
    obtain ⟨e, he⟩ : ∃ e, Hid (e = a + o) := ⟨a + o, Lib.hid rfl⟩
    rw [← he.out] at CE CM
    obtain ⟨t, ht⟩ : ∃ t, Hid (t = toE lean p ⟨a, o, n⟩) := ⟨_, Lib.hid rfl⟩
    rw [← ht.out] at CT hzp
    obtain ⟨zp, hzpp⟩ : ∃ x, Hid (x = z.p) := ⟨_, Lib.hid rfl⟩
    rw [← hzpp.out] at hzp ⊢
    have hw1 : IntKind.i64.wrap (cm + n) = cm + n := IntWalk.i64_in _ (by omega)
    have H := Lib.hid h
    clear hz hin hout hw hv hR hR0 hsb hi hok e1 h hcb hrr he ht hj hcm hcmh hr hia e2 hzpp
    go_enter Try.func28, Try.ntmps28
    go_wp2_with fail
    refine CA.out.mono ?_
    rintro e1 w1 ⟨rfl, hb1⟩
    have HB1 := Lib.hid hb1
    have H1 := Lib.hid (Bk.over H.out hb1 (Bk.lt H.out))
    have d0 := (hb1.cell (p := ⟨b, off + i * 3, none⟩) hbw).trans c0
    have d1 := (hb1.cell (p := ⟨b, off + i * 3 + 1, none⟩) hbw).trans c1
    have d2 := (hb1.cell (p := ⟨b, off + i * 3 + 1 + 1, none⟩) hbw).trans c2
    have hbw1 : b < w1.heap.size := by have := hb1.size; omega
    have d0' : w1.drew.cell? ⟨b, off + i * 3, none⟩ = some (.int .i64 a) := d0
    have d1' : w1.drew.cell? ⟨b, off + i * 3 + 1, none⟩ = some (.int .i64 o) := d1
    have d2' : w1.drew.cell? ⟨b, off + i * 3 + 1 + 1, none⟩ = some (.int .i64 n) := d2
    clear CA hb1 c0 c1 c2
    go_wp2_with fail
    go_region_held3 (fun w' => w'.cell? ⟨b, off + i * 3, none⟩ = some (.int .i64 a) ∧ w'.cell? ⟨b, off + i * 3 + 1, none⟩ = some (.int .i64 o) ∧ w'.cell? ⟨b, off + i * 3 + 1 + 1, none⟩ = some (.int .i64 n))
      (first | exact ⟨d0', d1', d2'⟩ | exact ⟨(hb2.cell (p := ⟨b, off + i * 3, none⟩) hbw1).trans d0', (hb2.cell (p := ⟨b, off + i * 3 + 1, none⟩) hbw1).trans d1', (hb2.cell (p := ⟨b, off + i * 3 + 1 + 1, none⟩) hbw1).trans d2'⟩ | exact ⟨(hb3.cell (p := ⟨b, off + i * 3, none⟩) hbw2 hbg).trans ((hb2.cell (p := ⟨b, off + i * 3, none⟩) hbw1).trans d0'), (hb3.cell (p := ⟨b, off + i * 3 + 1, none⟩) hbw2 hbg).trans ((hb2.cell (p := ⟨b, off + i * 3 + 1, none⟩) hbw1).trans d1'), (hb3.cell (p := ⟨b, off + i * 3 + 1 + 1, none⟩) hbw2 hbg).trans ((hb2.cell (p := ⟨b, off + i * 3 + 1 + 1, none⟩) hbw1).trans d2')⟩)
      (first
        | (go_at_call 31; refine (CE.out _).mono ?_; rintro e2 w2 ⟨rfl, hb2⟩; have hbw2 : b < w2.heap.size := Nat.lt_of_lt_of_le hbw1 hb2.size; have H2 := Lib.hid (Bk.over H1.out ((Below.refl _ _).drew.trans hb2) (Bk.lt H1.out)))
        | (go_at_call 38; refine (CM.out _ H2.out).mono ?_; rintro e3 w3 ⟨rfl, H3, hb3⟩))
    all_goals
      have g0 := (hb3.cell (p := ⟨b, off + i * 3, none⟩) hbw2 hbg).trans ((hb2.cell (p := ⟨b, off + i * 3, none⟩) hbw1).trans d0')
      have g1 := (hb3.cell (p := ⟨b, off + i * 3 + 1, none⟩) hbw2 hbg).trans ((hb2.cell (p := ⟨b, off + i * 3 + 1, none⟩) hbw1).trans d1')
      have g2 := (hb3.cell (p := ⟨b, off + i * 3 + 1 + 1, none⟩) hbw2 hbg).trans ((hb2.cell (p := ⟨b, off + i * 3 + 1 + 1, none⟩) hbw1).trans d2')
      have hsz3 : w.heap.size ≤ w3.heap.size := Nat.le_trans HB1.out.size (Nat.le_trans hb2.size hb3.size)
      have hbw3 : b < w3.heap.size := by omega
      have HB3 := Lib.hid ((Bg.of (HB1.out.drew.trans (hb2.mono HB1.out.size)) g).trans (hb3.mono (Nat.le_trans HB1.out.size hb2.size)))
      have H3 := Lib.hid H3
      clear d0 d1 d2 d0' d1' d2' hb3 hb2 H1 H2 H CE CM
      go_wp2_with fail
      refine (CT.out _).mono ?_
      rintro e4 w4 ⟨rfl, hb4⟩
      have k2 := (hb4.cell (p := ⟨b, off + i * 3 + 1 + 1, none⟩) hbw3).trans g2
      have k2' : w4.drew.cell? ⟨b, off + i * 3 + 1 + 1, none⟩ = some (.int .i64 n) := k2
      have hbw4 : b < w4.heap.size := Nat.lt_of_lt_of_le hbw3 hb4.size
      have H4 := Lib.hid (Bk.over H3.out hb4 (Bk.lt H3.out))
      have HB4 := Lib.hid (HB3.out.below (hb4.mono hsz3))
      clear CT hb4 g0 g1 g2 H3 HB3 hsz3
      cases t
      · have hf : Hid (zp = cm) := by show _ = _; rw [hzp.out]; simp
        have CB4 := Lib.hid (CB.out w4 (HB4.out.to hB hg) HB4.out.size)
        clear CB hzp k2 k2'
        go_wp2_with fail
        refine CB4.out.mono ?_
        rintro e5 w5 ⟨rfl, hb5⟩
        go_wp2
        go_ret
        exact ⟨by rw [hf.out]; rfl, Bk.over H4.out hb5 (Bk.lt H4.out), HB4.out.below (hb5.mono HB4.out.size)⟩
      · have hf : Hid (zp = cm + n) := by show _ = _; rw [hzp.out]; simp
        have CB4 := Lib.hid (CB.out w4.drew (HB4.out.drew.to hB hg) HB4.out.size)
        clear CB hzp
        go_wp2_with fail
        go_region_held3 (fun w' => w'.cell? ⟨b, off + i * 3 + 1 + 1, none⟩ = some (.int .i64 n))
          (first | exact k2' | exact (hb5.cell (p := ⟨b, off + i * 3 + 1 + 1, none⟩) hbw4).trans k2')
          ((go_at_call 29; refine CB4.out.mono ?_; rintro e5 w5 ⟨rfl, hb5⟩))
        all_goals
          go_wp2
          go_ret
          exact ⟨by rw [hf.out]; rfl, Bk.over H4.out ((Below.refl _ _).drew.trans hb5) (Bk.lt H4.out), HB4.out.below ((Below.refl _ _).drew.trans (hb5.mono HB4.out.size))⟩
end Go.Proofs.Ytiilbgejdpnfpaa

/- Places through maps: Check, Go, Turn, Delta, Touches: the program's. -/
namespace Go.Proofs.Ytiilbgejdpnfpaa
open Go.RowKit Go.Mps

set_option maxRecDepth 100000 in
set_option maxHeartbeats 40000000 in
theorem mdCheck_any (v : Value) (l : List Rg) (B : Nat) (w : World) (hv : Rgs w B v l) (hB : B ≤ w.heap.size) :
    Calls Try.prog 10 #[v] w fun e w' => e = .returned (.int .i64 (checkM l)) ∧ Below w.heap.size w w' := by
  obtain ⟨A, cap, rfl⟩ := hv.form
  have hm := hv.max
  unfold maxLen at hm
  obtain ⟨z, hz⟩ : ∃ z, Hid (z = checkM l) := ⟨_, rfl⟩
  rw [← hz.out]
  by_cases h64 : 64 < l.length
  · have hf : Hid (z = 3) := by show _ = _; rw [hz.out]; unfold checkM; rw [if_pos h64]
    have h1 : (64 : Int) < (l.length : Int) := by omega
    go_enter Try.func10, Try.ntmps10
    go_wp2
    go_ret
    exact ⟨by rw [hf.out]; rfl, Below.refl _ _⟩
  · have h1 : (l.length : Int) ≤ 64 := by omega
    have HV := Lib.hid (fun w' (h : Below w.heap.size w w') => hv.below (h.mono hB))
    have hbad : ∀ k : Nat, Hid (okG (-1) (l.take k) = false → z = 2) := fun k h => by rw [hz.out]; unfold checkM; rw [if_neg h64, if_neg (by rw [okG_no h]; simp)]
    have hgood : Hid (okG (-1) (l.take l.length) = true → z = 0) := fun h => by rw [List.take_length] at h; rw [hz.out]; unfold checkM; rw [if_neg h64, if_pos h]
    clear hv hz
    go_enter Try.func10, Try.ntmps10
    go_wp2
    go_loopw [10] (fun x wr => ∃ k : Nat, k ≤ l.length ∧ x = .int .i64 k ∧ Hid (okG (-1) (l.take k) = true) ∧ Hid (Below w.heap.size w wr)) (fun x _ => l.length - (intOf x).toNat)
    case atStart => exact ⟨0, Nat.zero_le _, rfl, rfl, Below.refl _ _⟩
    case round =>
      obtain ⟨k, hk, rfl, hok, HB⟩ := hrel
      by_cases hlt : k < l.length
      · have hkI : (k : Int) < (l.length : Int) := by omega
        have hk0 : (0 : Int) ≤ k := by omega
        obtain ⟨b, off, rfl, hbB, hcap, c0, c1, c2⟩ := (HV.out _ HB.out).at hlt
        have hsz := HB.out.size
        have hbw : b < wr.heap.size := by omega
        have hsucc := Lib.hid (okG_succ l hlt)
        obtain ⟨r, hr⟩ : ∃ r, Hid (r = l[k]) := ⟨l[k], Lib.hid rfl⟩
        rw [← hr.out] at c0 c1 c2 hsucc
        rw [hok.out, Bool.true_and] at hsucc
        have hno : Hid (okR r = false → z = 2) := fun h => (hbad (k + 1)).out (by rw [hsucc.out, h]; rfl)
        have hno2 : Hid (¬ lastE l k < r.a → z = 2) := fun h => (hbad (k + 1)).out (by rw [hsucc.out, decide_eq_false h]; simp)
        have hyes : Hid (okR r = true → lastE l k < r.a → okG (-1) (l.take (k + 1)) = true) := fun h h2 => by rw [hsucc.out, h, decide_eq_true h2]; rfl
        have CM := Lib.hid (fun w' => mdMay_any r w')
        clear hsucc hr
        obtain ⟨q, hq⟩ : ∃ q, Hid (q = okR r) := ⟨_, Lib.hid rfl⟩
        rw [← hq.out] at hno hyes CM
        have hqr := fun h : q = true => (okR_iff r).1 (by rw [← hq.out]; exact h)
        have CM : Hid (∀ w', Calls Try.prog 30 #[.agg #[.int .i64 r.a, .int .i64 r.o, .int .i64 r.n]] w' fun e w'_1 => e = .returned (.bool q) ∧ Below w'.heap.size w' w'_1) := CM
        obtain ⟨wa, hwa⟩ : ∃ wa, Hid (wa = (wr.alloc (.cells #[.int .i64 r.a, .int .i64 r.o, .int .i64 r.n] 23))) := ⟨_, Lib.hid rfl⟩
        have hwl : wr.heap.size < wa.heap.size := by rw [hwa.out]; simp
        have HBw : Hid (Below w.heap.size w wa) := by show Below _ _ _; rw [hwa.out]; exact (HB.out.alloc hsz _)
        have hbwa : b < wa.heap.size := by omega
        have t0 : wa.drew.cell? ⟨wr.heap.size, 0, none⟩ = some (.int .i64 r.a) := by rw [hwa.out]; go_simp
        have t1 : wa.drew.cell? ⟨wr.heap.size, 1, none⟩ = some (.int .i64 r.o) := by rw [hwa.out]; go_simp
        have t2 : wa.drew.cell? ⟨wr.heap.size, 1 + 1, none⟩ = some (.int .i64 r.n) := by rw [hwa.out]; go_simp
        have hkeep : ∀ i, wa.cell? ⟨b, i, none⟩ = wr.cell? ⟨b, i, none⟩ := fun i => by rw [hwa.out]; exact ((Below.refl wr.heap.size wr).alloc (Nat.le_refl _) _).cell (p := ⟨b, i, none⟩) hbw
        cases hqv : q with
        | false =>
          have hf := Lib.hid (hno.out hqv)
          subst hqv
          clear hno hno2 hyes hqr hq
          go_wp2_with fail
          rw [← hwa.out]
          refine wp_region_held_drew (S := (fun w' => w'.cell? ⟨wr.heap.size, 0, none⟩ = some (.int .i64 r.a) ∧ w'.cell? ⟨wr.heap.size, 1, none⟩ = some (.int .i64 r.o) ∧ w'.cell? ⟨wr.heap.size, 1 + 1, none⟩ = some (.int .i64 r.n))) (by kernel_rfl) ⟨t0, t1, t2⟩ (fun hHeld => ?_)
          refine wpAnyH_take (i := 0) (oi := ?o1) (v := ?v1) ?hi1 (by kernel_rfl) (by kernel_rfl) (by kernel_rfl) ?hq1 ?hy1 (by assumption) ?hr1
          case hi1 => (simp only [List.getElem?_toArray, List.getElem?_cons_zero]; exact rfl)
          case hq1 => exact fun _ _ _ h => h
          case hy1 => (refine Or.inl ⟨by rfl, ?_⟩; intro w hSw; (try dsimp only at hSw); go_simp; (try with_reducible rfl))
          try simp only [Act.put, List.setIfInBounds_toArray, List.set_cons_zero, List.set_cons_succ]
          refine wpAnyH_ready (rs := [1]) (by kernel_rfl) (by simp) ?_
          refine AllReadyH.cons (o := ?o2) ?hi2 (fun K hK => ?hk2) ?hr2
          case hi2 => (simp only [List.getElem?_toArray, List.getElem?_cons_succ, List.getElem?_cons_zero]; exact rfl)
          case hr2 => exact AllReadyH.nil
          go_simp
          (go_at_call 30; refine (CM.out _).mono ?_; rintro e w2 ⟨rfl, hb2⟩; refine hK.out _ _ ⟨(hb2.cell (p := ⟨wr.heap.size, 0, none⟩) hwl).trans t0, (hb2.cell (p := ⟨wr.heap.size, 1, none⟩) hwl).trans t1, (hb2.cell (p := ⟨wr.heap.size, 1 + 1, none⟩) hwl).trans t2⟩ (fun hHeld2 => ?_))
          clear hK K
          try simp only [Act.put, List.setIfInBounds_toArray, List.set_cons_zero, List.set_cons_succ]
          refine wpAnyH_take (i := 2) (oi := ?o3) (v := ?v3) ?hi3 (by kernel_rfl) (by kernel_rfl) (by kernel_rfl) ?hq3 ?hy3 (by assumption) ?hr3
          case hi3 => (simp only [List.getElem?_toArray, List.getElem?_cons_succ, List.getElem?_cons_zero]; exact rfl)
          case hq3 => exact fun _ _ _ h => h
          case hy3 => (refine Or.inl ⟨by rfl, ?_⟩; intro w hSw; (try dsimp only at hSw); go_simp; (try with_reducible rfl))
          try simp only [Act.put, List.setIfInBounds_toArray, List.set_cons_zero, List.set_cons_succ]
          refine wpAnyH_take (i := 3) (oi := ?o4) (v := ?v4) ?hi4 (by kernel_rfl) (by kernel_rfl) (by kernel_rfl) ?hq4 ?hy4 (by assumption) ?hr4
          case hi4 => (simp only [List.getElem?_toArray, List.getElem?_cons_succ, List.getElem?_cons_zero]; exact rfl)
          case hq4 => exact fun _ _ _ h => h
          case hy4 => (refine Or.inl ⟨by rfl, ?_⟩; intro w hSw; (try dsimp only at hSw); go_simp; (try with_reducible rfl))
          try simp only [Act.put, List.setIfInBounds_toArray, List.set_cons_zero, List.set_cons_succ]
          refine wpAnyH_take (i := 4) (oi := ?o5) (v := undef) ?hi5 (by kernel_rfl) (by kernel_rfl) (by kernel_rfl) ?hq5 ?hy5 (by assumption) ?hr5
          case hi5 => (simp only [List.getElem?_toArray, List.getElem?_cons_succ, List.getElem?_cons_zero]; exact rfl)
          case hq5 => exact fun _ _ _ h => h
          case hy5 => exact Or.inr ⟨by rfl, rfl⟩
          try simp only [Act.put, List.setIfInBounds_toArray, List.set_cons_zero, List.set_cons_succ]
          refine wpAnyH_take (i := 5) (oi := ?o6) (v := undef) ?hi6 (by kernel_rfl) (by kernel_rfl) (by kernel_rfl) ?hq6 ?hy6 (by assumption) ?hr6
          case hi6 => (simp only [List.getElem?_toArray, List.getElem?_cons_succ, List.getElem?_cons_zero]; exact rfl)
          case hq6 => exact fun _ _ _ h => h
          case hy6 => exact Or.inr ⟨by rfl, rfl⟩
          try simp only [Act.put, List.setIfInBounds_toArray, List.set_cons_zero, List.set_cons_succ]
          refine wpAnyH_take (i := 6) (oi := ?o7) (v := undef) ?hi7 (by kernel_rfl) (by kernel_rfl) (by kernel_rfl) ?hq7 ?hy7 (by assumption) ?hr7
          case hi7 => (simp only [List.getElem?_toArray, List.getElem?_cons_succ, List.getElem?_cons_zero]; exact rfl)
          case hq7 => exact fun _ _ _ h => h
          case hy7 => exact Or.inr ⟨by rfl, rfl⟩
          try simp only [Act.put, List.setIfInBounds_toArray, List.set_cons_zero, List.set_cons_succ]
          refine wpAnyH_take (i := 7) (oi := ?o8) (v := undef) ?hi8 (by kernel_rfl) (by kernel_rfl) (by kernel_rfl) ?hq8 ?hy8 (by assumption) ?hr8
          case hi8 => (simp only [List.getElem?_toArray, List.getElem?_cons_succ, List.getElem?_cons_zero]; exact rfl)
          case hq8 => exact fun _ _ _ h => h
          case hy8 => exact Or.inr ⟨by rfl, rfl⟩
          try simp only [Act.put, List.setIfInBounds_toArray, List.set_cons_zero, List.set_cons_succ]
          refine wpAnyH_take (i := 8) (oi := ?o9) (v := undef) ?hi9 (by kernel_rfl) (by kernel_rfl) (by kernel_rfl) ?hq9 ?hy9 (by assumption) ?hr9
          case hi9 => (simp only [List.getElem?_toArray, List.getElem?_cons_succ, List.getElem?_cons_zero]; exact rfl)
          case hq9 => exact fun _ _ _ h => h
          case hy9 => exact Or.inr ⟨by rfl, rfl⟩
          try simp only [Act.put, List.setIfInBounds_toArray, List.set_cons_zero, List.set_cons_succ]
          refine wpAnyH_take (i := 9) (oi := ?o10) (v := undef) ?hi10 (by kernel_rfl) (by kernel_rfl) (by kernel_rfl) ?hq10 ?hy10 (by assumption) ?hr10
          case hi10 => (simp only [List.getElem?_toArray, List.getElem?_cons_succ, List.getElem?_cons_zero]; exact rfl)
          case hq10 => exact fun _ _ _ h => h
          case hy10 => exact Or.inr ⟨by rfl, rfl⟩
          try simp only [Act.put, List.setIfInBounds_toArray, List.set_cons_zero, List.set_cons_succ]
          refine wpAnyH_take (i := 10) (oi := ?o11) (v := undef) ?hi11 (by kernel_rfl) (by kernel_rfl) (by kernel_rfl) ?hq11 ?hy11 (by assumption) ?hr11
          case hi11 => (simp only [List.getElem?_toArray, List.getElem?_cons_succ, List.getElem?_cons_zero]; exact rfl)
          case hq11 => exact fun _ _ _ h => h
          case hy11 => exact Or.inr ⟨by rfl, rfl⟩
          try simp only [Act.put, List.setIfInBounds_toArray, List.set_cons_zero, List.set_cons_succ]
          refine wpAnyH_take (i := 11) (oi := ?o12) (v := undef) ?hi12 (by kernel_rfl) (by kernel_rfl) (by kernel_rfl) ?hq12 ?hy12 (by assumption) ?hr12
          case hi12 => (simp only [List.getElem?_toArray, List.getElem?_cons_succ, List.getElem?_cons_zero]; exact rfl)
          case hq12 => exact fun _ _ _ h => h
          case hy12 => exact Or.inr ⟨by rfl, rfl⟩
          try simp only [Act.put, List.setIfInBounds_toArray, List.set_cons_zero, List.set_cons_succ]
          refine wpAnyH_take (i := 12) (oi := ?o13) (v := undef) ?hi13 (by kernel_rfl) (by kernel_rfl) (by kernel_rfl) ?hq13 ?hy13 (by assumption) ?hr13
          case hi13 => (simp only [List.getElem?_toArray, List.getElem?_cons_succ, List.getElem?_cons_zero]; exact rfl)
          case hq13 => exact fun _ _ _ h => h
          case hy13 => exact Or.inr ⟨by rfl, rfl⟩
          try simp only [Act.put, List.setIfInBounds_toArray, List.set_cons_zero, List.set_cons_succ]
          refine wpAnyH_take (i := 13) (oi := ?o14) (v := undef) ?hi14 (by kernel_rfl) (by kernel_rfl) (by kernel_rfl) ?hq14 ?hy14 (by assumption) ?hr14
          case hi14 => (simp only [List.getElem?_toArray, List.getElem?_cons_succ, List.getElem?_cons_zero]; exact rfl)
          case hq14 => exact fun _ _ _ h => h
          case hy14 => exact Or.inr ⟨by rfl, rfl⟩
          try simp only [Act.put, List.setIfInBounds_toArray, List.set_cons_zero, List.set_cons_succ]
          refine wpAnyH_take (i := 14) (oi := ?o15) (v := undef) ?hi15 (by kernel_rfl) (by kernel_rfl) (by kernel_rfl) ?hq15 ?hy15 (by assumption) ?hr15
          case hi15 => (simp only [List.getElem?_toArray, List.getElem?_cons_succ, List.getElem?_cons_zero]; exact rfl)
          case hq15 => exact fun _ _ _ h => h
          case hy15 => exact Or.inr ⟨by rfl, rfl⟩
          try simp only [Act.put, List.setIfInBounds_toArray, List.set_cons_zero, List.set_cons_succ]
          refine wpAnyH_take (i := 15) (oi := ?o16) (v := undef) ?hi16 (by kernel_rfl) (by kernel_rfl) (by kernel_rfl) ?hq16 ?hy16 (by assumption) ?hr16
          case hi16 => (simp only [List.getElem?_toArray, List.getElem?_cons_succ, List.getElem?_cons_zero]; exact rfl)
          case hq16 => exact fun _ _ _ h => h
          case hy16 => exact Or.inr ⟨by rfl, rfl⟩
          try simp only [Act.put, List.setIfInBounds_toArray, List.set_cons_zero, List.set_cons_succ]
          refine wpAnyH_take (i := 16) (oi := ?o17) (v := undef) ?hi17 (by kernel_rfl) (by kernel_rfl) (by kernel_rfl) ?hq17 ?hy17 (by assumption) ?hr17
          case hi17 => (simp only [List.getElem?_toArray, List.getElem?_cons_succ, List.getElem?_cons_zero]; exact rfl)
          case hq17 => exact fun _ _ _ h => h
          case hy17 => exact Or.inr ⟨by rfl, rfl⟩
          try simp only [Act.put, List.setIfInBounds_toArray, List.set_cons_zero, List.set_cons_succ]
          refine wpAnyH_take (i := 17) (oi := ?o18) (v := ?v18) ?hi18 (by kernel_rfl) (by kernel_rfl) (by kernel_rfl) ?hq18 ?hy18 (by assumption) ?hr18
          case hi18 => (simp only [List.getElem?_toArray, List.getElem?_cons_succ, List.getElem?_cons_zero]; exact rfl)
          case hq18 => exact fun _ _ _ h => h
          case hy18 => (refine Or.inl ⟨by rfl, ?_⟩; intro w hSw; (try dsimp only at hSw); go_simp; (try with_reducible rfl))
          try simp only [Act.put, List.setIfInBounds_toArray, List.set_cons_zero, List.set_cons_succ]
          refine wpAnyH_done (by kernel_rfl) ?_ _
          go_wp2
          go_ret
          exact ⟨by rw [hf.out]; rfl, HBw.out.drew.trans (hb2.mono HBw.out.size)⟩
        | true =>
          have hrr := hqr hqv
          subst hqv
          clear hqr hno
          have hyes : Hid (lastE l k < r.a → okG (-1) (l.take (k + 1)) = true) := fun h => hyes.out rfl h
          by_cases k0 : k = 0
          · subst k0
            simp only [Nat.zero_mul, Nat.add_zero] at c0 c1 c2
            have hf := Lib.hid (hyes.out (by rw [lastE_zero]; omega))
            clear hno2 hyes hrr hq
            go_wp2_with fail
            rw [← hwa.out]
            refine wp_region_held_drew (S := (fun w' => w'.cell? ⟨wr.heap.size, 0, none⟩ = some (.int .i64 r.a) ∧ w'.cell? ⟨wr.heap.size, 1, none⟩ = some (.int .i64 r.o) ∧ w'.cell? ⟨wr.heap.size, 1 + 1, none⟩ = some (.int .i64 r.n))) (by kernel_rfl) ⟨t0, t1, t2⟩ (fun hHeld => ?_)
            refine wpAnyH_take (i := 0) (oi := ?o19) (v := ?v19) ?hi19 (by kernel_rfl) (by kernel_rfl) (by kernel_rfl) ?hq19 ?hy19 (by assumption) ?hr19
            case hi19 => (simp only [List.getElem?_toArray, List.getElem?_cons_zero]; exact rfl)
            case hq19 => exact fun _ _ _ h => h
            case hy19 => (refine Or.inl ⟨by rfl, ?_⟩; intro w hSw; (try dsimp only at hSw); go_simp; (try with_reducible rfl))
            try simp only [Act.put, List.setIfInBounds_toArray, List.set_cons_zero, List.set_cons_succ]
            refine wpAnyH_ready (rs := [1]) (by kernel_rfl) (by simp) ?_
            refine AllReadyH.cons (o := ?o20) ?hi20 (fun K hK => ?hk20) ?hr20
            case hi20 => (simp only [List.getElem?_toArray, List.getElem?_cons_succ, List.getElem?_cons_zero]; exact rfl)
            case hr20 => exact AllReadyH.nil
            go_simp
            (go_at_call 30; refine (CM.out _).mono ?_; rintro e w2 ⟨rfl, hb2⟩; refine hK.out _ _ ⟨(hb2.cell (p := ⟨wr.heap.size, 0, none⟩) hwl).trans t0, (hb2.cell (p := ⟨wr.heap.size, 1, none⟩) hwl).trans t1, (hb2.cell (p := ⟨wr.heap.size, 1 + 1, none⟩) hwl).trans t2⟩ (fun hHeld2 => ?_))
            clear hK K
            try simp only [Act.put, List.setIfInBounds_toArray, List.set_cons_zero, List.set_cons_succ]
            refine wpAnyH_take (i := 2) (oi := ?o21) (v := ?v21) ?hi21 (by kernel_rfl) (by kernel_rfl) (by kernel_rfl) ?hq21 ?hy21 (by assumption) ?hr21
            case hi21 => (simp only [List.getElem?_toArray, List.getElem?_cons_succ, List.getElem?_cons_zero]; exact rfl)
            case hq21 => exact fun _ _ _ h => h
            case hy21 => (refine Or.inl ⟨by rfl, ?_⟩; intro w hSw; (try dsimp only at hSw); go_simp; (try with_reducible rfl))
            try simp only [Act.put, List.setIfInBounds_toArray, List.set_cons_zero, List.set_cons_succ]
            refine wpAnyH_take (i := 3) (oi := ?o22) (v := ?v22) ?hi22 (by kernel_rfl) (by kernel_rfl) (by kernel_rfl) ?hq22 ?hy22 (by assumption) ?hr22
            case hi22 => (simp only [List.getElem?_toArray, List.getElem?_cons_succ, List.getElem?_cons_zero]; exact rfl)
            case hq22 => exact fun _ _ _ h => h
            case hy22 => (refine Or.inl ⟨by rfl, ?_⟩; intro w hSw; (try dsimp only at hSw); go_simp; (try with_reducible rfl))
            try simp only [Act.put, List.setIfInBounds_toArray, List.set_cons_zero, List.set_cons_succ]
            refine wpAnyH_take (i := 4) (oi := ?o23) (v := ?v23) ?hi23 (by kernel_rfl) (by kernel_rfl) (by kernel_rfl) ?hq23 ?hy23 (by assumption) ?hr23
            case hi23 => (simp only [List.getElem?_toArray, List.getElem?_cons_succ, List.getElem?_cons_zero]; exact rfl)
            case hq23 => exact fun _ _ _ h => h
            case hy23 => (refine Or.inl ⟨by rfl, ?_⟩; intro w hSw; (try dsimp only at hSw); go_simp; (try with_reducible rfl))
            try simp only [Act.put, List.setIfInBounds_toArray, List.set_cons_zero, List.set_cons_succ]
            refine wpAnyH_take (i := 5) (oi := ?o24) (v := ?v24) ?hi24 (by kernel_rfl) (by kernel_rfl) (by kernel_rfl) ?hq24 ?hy24 (by assumption) ?hr24
            case hi24 => (simp only [List.getElem?_toArray, List.getElem?_cons_succ, List.getElem?_cons_zero]; exact rfl)
            case hq24 => exact fun _ _ _ h => h
            case hy24 => (refine Or.inl ⟨by rfl, ?_⟩; intro w hSw; (try dsimp only at hSw); go_simp; (try with_reducible rfl))
            try simp only [Act.put, List.setIfInBounds_toArray, List.set_cons_zero, List.set_cons_succ]
            refine wpAnyH_take (i := 6) (oi := ?o25) (v := ?v25) ?hi25 (by kernel_rfl) (by kernel_rfl) (by kernel_rfl) ?hq25 ?hy25 (by assumption) ?hr25
            case hi25 => (simp only [List.getElem?_toArray, List.getElem?_cons_succ, List.getElem?_cons_zero]; exact rfl)
            case hq25 => exact fun _ _ _ h => h
            case hy25 => (refine Or.inl ⟨by rfl, ?_⟩; intro w hSw; (try dsimp only at hSw); go_simp; (try with_reducible rfl))
            try simp only [Act.put, List.setIfInBounds_toArray, List.set_cons_zero, List.set_cons_succ]
            refine wpAnyH_take (i := 7) (oi := ?o26) (v := undef) ?hi26 (by kernel_rfl) (by kernel_rfl) (by kernel_rfl) ?hq26 ?hy26 (by assumption) ?hr26
            case hi26 => (simp only [List.getElem?_toArray, List.getElem?_cons_succ, List.getElem?_cons_zero]; exact rfl)
            case hq26 => exact fun _ _ _ h => h
            case hy26 => exact Or.inr ⟨by rfl, rfl⟩
            try simp only [Act.put, List.setIfInBounds_toArray, List.set_cons_zero, List.set_cons_succ]
            refine wpAnyH_take (i := 8) (oi := ?o27) (v := undef) ?hi27 (by kernel_rfl) (by kernel_rfl) (by kernel_rfl) ?hq27 ?hy27 (by assumption) ?hr27
            case hi27 => (simp only [List.getElem?_toArray, List.getElem?_cons_succ, List.getElem?_cons_zero]; exact rfl)
            case hq27 => exact fun _ _ _ h => h
            case hy27 => exact Or.inr ⟨by rfl, rfl⟩
            try simp only [Act.put, List.setIfInBounds_toArray, List.set_cons_zero, List.set_cons_succ]
            refine wpAnyH_take (i := 9) (oi := ?o28) (v := undef) ?hi28 (by kernel_rfl) (by kernel_rfl) (by kernel_rfl) ?hq28 ?hy28 (by assumption) ?hr28
            case hi28 => (simp only [List.getElem?_toArray, List.getElem?_cons_succ, List.getElem?_cons_zero]; exact rfl)
            case hq28 => exact fun _ _ _ h => h
            case hy28 => exact Or.inr ⟨by rfl, rfl⟩
            try simp only [Act.put, List.setIfInBounds_toArray, List.set_cons_zero, List.set_cons_succ]
            refine wpAnyH_take (i := 10) (oi := ?o29) (v := undef) ?hi29 (by kernel_rfl) (by kernel_rfl) (by kernel_rfl) ?hq29 ?hy29 (by assumption) ?hr29
            case hi29 => (simp only [List.getElem?_toArray, List.getElem?_cons_succ, List.getElem?_cons_zero]; exact rfl)
            case hq29 => exact fun _ _ _ h => h
            case hy29 => exact Or.inr ⟨by rfl, rfl⟩
            try simp only [Act.put, List.setIfInBounds_toArray, List.set_cons_zero, List.set_cons_succ]
            refine wpAnyH_take (i := 11) (oi := ?o30) (v := undef) ?hi30 (by kernel_rfl) (by kernel_rfl) (by kernel_rfl) ?hq30 ?hy30 (by assumption) ?hr30
            case hi30 => (simp only [List.getElem?_toArray, List.getElem?_cons_succ, List.getElem?_cons_zero]; exact rfl)
            case hq30 => exact fun _ _ _ h => h
            case hy30 => exact Or.inr ⟨by rfl, rfl⟩
            try simp only [Act.put, List.setIfInBounds_toArray, List.set_cons_zero, List.set_cons_succ]
            refine wpAnyH_take (i := 12) (oi := ?o31) (v := undef) ?hi31 (by kernel_rfl) (by kernel_rfl) (by kernel_rfl) ?hq31 ?hy31 (by assumption) ?hr31
            case hi31 => (simp only [List.getElem?_toArray, List.getElem?_cons_succ, List.getElem?_cons_zero]; exact rfl)
            case hq31 => exact fun _ _ _ h => h
            case hy31 => exact Or.inr ⟨by rfl, rfl⟩
            try simp only [Act.put, List.setIfInBounds_toArray, List.set_cons_zero, List.set_cons_succ]
            refine wpAnyH_take (i := 13) (oi := ?o32) (v := undef) ?hi32 (by kernel_rfl) (by kernel_rfl) (by kernel_rfl) ?hq32 ?hy32 (by assumption) ?hr32
            case hi32 => (simp only [List.getElem?_toArray, List.getElem?_cons_succ, List.getElem?_cons_zero]; exact rfl)
            case hq32 => exact fun _ _ _ h => h
            case hy32 => exact Or.inr ⟨by rfl, rfl⟩
            try simp only [Act.put, List.setIfInBounds_toArray, List.set_cons_zero, List.set_cons_succ]
            refine wpAnyH_take (i := 14) (oi := ?o33) (v := undef) ?hi33 (by kernel_rfl) (by kernel_rfl) (by kernel_rfl) ?hq33 ?hy33 (by assumption) ?hr33
            case hi33 => (simp only [List.getElem?_toArray, List.getElem?_cons_succ, List.getElem?_cons_zero]; exact rfl)
            case hq33 => exact fun _ _ _ h => h
            case hy33 => exact Or.inr ⟨by rfl, rfl⟩
            try simp only [Act.put, List.setIfInBounds_toArray, List.set_cons_zero, List.set_cons_succ]
            refine wpAnyH_take (i := 15) (oi := ?o34) (v := undef) ?hi34 (by kernel_rfl) (by kernel_rfl) (by kernel_rfl) ?hq34 ?hy34 (by assumption) ?hr34
            case hi34 => (simp only [List.getElem?_toArray, List.getElem?_cons_succ, List.getElem?_cons_zero]; exact rfl)
            case hq34 => exact fun _ _ _ h => h
            case hy34 => exact Or.inr ⟨by rfl, rfl⟩
            try simp only [Act.put, List.setIfInBounds_toArray, List.set_cons_zero, List.set_cons_succ]
            refine wpAnyH_take (i := 16) (oi := ?o35) (v := ?v35) ?hi35 (by kernel_rfl) (by kernel_rfl) (by kernel_rfl) ?hq35 ?hy35 (by assumption) ?hr35
            case hi35 => (simp only [List.getElem?_toArray, List.getElem?_cons_succ, List.getElem?_cons_zero]; exact rfl)
            case hq35 => exact fun _ _ _ h => h
            case hy35 => (refine Or.inl ⟨by rfl, ?_⟩; intro w hSw; (try dsimp only at hSw); go_simp; (try with_reducible rfl))
            try simp only [Act.put, List.setIfInBounds_toArray, List.set_cons_zero, List.set_cons_succ]
            refine wpAnyH_take (i := 17) (oi := ?o36) (v := ?v36) ?hi36 (by kernel_rfl) (by kernel_rfl) (by kernel_rfl) ?hq36 ?hy36 (by assumption) ?hr36
            case hi36 => (simp only [List.getElem?_toArray, List.getElem?_cons_succ, List.getElem?_cons_zero]; exact rfl)
            case hq36 => exact fun _ _ _ h => h
            case hy36 => (refine Or.inl ⟨by rfl, ?_⟩; intro w hSw; (try dsimp only at hSw); go_simp; (try with_reducible rfl))
            try simp only [Act.put, List.setIfInBounds_toArray, List.set_cons_zero, List.set_cons_succ]
            refine wpAnyH_done (by kernel_rfl) ?_ _
            go_wp2
            go_roundw
            case rel => exact ⟨1, by omega, by go_num, hf, HBw.out.drew.trans (hb2.mono HBw.out.size)⟩
            case measure => simp [intOf]; omega
          · obtain ⟨m, rfl⟩ : ∃ m, k = m + 1 := ⟨k - 1, by omega⟩
            have k1 : (0 : Int) < (m : Int) + 1 := by omega
            have k2 : IntKind.i64.wrap (m : Int) = (m : Int) := IntWalk.i64_in _ (by omega)
            have k3 : (m : Int) < (l.length : Int) := by omega
            have hlast := Lib.hid (lastE_succ l (k := m) (by omega))
            have hpre := okR_of_mem hok.out l[m] (by rw [List.mem_take_iff_getElem]; exact ⟨m, by omega, rfl⟩)
            rw [okR_iff] at hpre
            obtain ⟨b2, off2, e2, _, _, g0, g1, g2⟩ := (HV.out _ HB.out).at (k := m) (by omega)
            simp only [Option.some.injEq, Addr.mk.injEq, and_true] at e2
            obtain ⟨rfl, rfl⟩ := e2
            obtain ⟨s, hs⟩ : ∃ s, Hid (s = l[m]) := ⟨l[m], Lib.hid rfl⟩
            rw [← hs.out] at hpre g0 g1 g2 hlast
            have CE := Lib.hid (fun w' => mdEnd_any s w' (by omega) (by omega))
            obtain ⟨e, he⟩ : ∃ e, Hid (e = s.a + s.o) := ⟨_, Lib.hid rfl⟩
            rw [← he.out] at CE hlast
            have CE : Hid (∀ w', Calls Try.prog 31 #[.agg #[.int .i64 s.a, .int .i64 s.o, .int .i64 s.n]] w' fun e' w'_1 => e' = .returned (.int .i64 e) ∧ Below w'.heap.size w' w'_1) := CE
            have g0a : wa.drew.cell? ⟨b, off + m * 3, none⟩ = some (.int .i64 s.a) := (hkeep _).trans g0
            have g1a : wa.drew.cell? ⟨b, off + m * 3 + 1, none⟩ = some (.int .i64 s.o) := (hkeep _).trans g1
            have g2a : wa.drew.cell? ⟨b, off + m * 3 + 1 + 1, none⟩ = some (.int .i64 s.n) := (hkeep _).trans g2
            clear hpre hs he hrr hq g0 g1 g2 hkeep
            by_cases x1 : e < r.a
            · have hf := Lib.hid (hyes.out (by rw [hlast.out]; exact x1))
              have x2 : decide (r.a ≤ e) = false := decide_eq_false (by omega)
              clear hno2 hyes hlast x1
              go_wp2_with fail
              rw [← hwa.out]
              go_region_held3 (fun w' => w'.cell? ⟨wr.heap.size, 0, none⟩ = some (.int .i64 r.a) ∧ w'.cell? ⟨wr.heap.size, 1, none⟩ = some (.int .i64 r.o) ∧ w'.cell? ⟨wr.heap.size, 1 + 1, none⟩ = some (.int .i64 r.n) ∧ w'.cell? ⟨b, off + m * 3, none⟩ = some (.int .i64 s.a) ∧ w'.cell? ⟨b, off + m * 3 + 1, none⟩ = some (.int .i64 s.o) ∧ w'.cell? ⟨b, off + m * 3 + 1 + 1, none⟩ = some (.int .i64 s.n))
                (first | exact ⟨t0, t1, t2, g0a, g1a, g2a⟩ | exact ⟨(hb2.cell (p := ⟨wr.heap.size, 0, none⟩) hwl).trans t0, (hb2.cell (p := ⟨wr.heap.size, 1, none⟩) hwl).trans t1, (hb2.cell (p := ⟨wr.heap.size, 1 + 1, none⟩) hwl).trans t2, (hb2.cell (p := ⟨b, off + m * 3, none⟩) hbwa).trans g0a, (hb2.cell (p := ⟨b, off + m * 3 + 1, none⟩) hbwa).trans g1a, (hb2.cell (p := ⟨b, off + m * 3 + 1 + 1, none⟩) hbwa).trans g2a⟩ | exact ⟨(hb3.cell (p := ⟨wr.heap.size, 0, none⟩) hwl2).trans ((hb2.cell (p := ⟨wr.heap.size, 0, none⟩) hwl).trans t0), (hb3.cell (p := ⟨wr.heap.size, 1, none⟩) hwl2).trans ((hb2.cell (p := ⟨wr.heap.size, 1, none⟩) hwl).trans t1), (hb3.cell (p := ⟨wr.heap.size, 1 + 1, none⟩) hwl2).trans ((hb2.cell (p := ⟨wr.heap.size, 1 + 1, none⟩) hwl).trans t2), (hb3.cell (p := ⟨b, off + m * 3, none⟩) hbw2).trans ((hb2.cell (p := ⟨b, off + m * 3, none⟩) hbwa).trans g0a), (hb3.cell (p := ⟨b, off + m * 3 + 1, none⟩) hbw2).trans ((hb2.cell (p := ⟨b, off + m * 3 + 1, none⟩) hbwa).trans g1a), (hb3.cell (p := ⟨b, off + m * 3 + 1 + 1, none⟩) hbw2).trans ((hb2.cell (p := ⟨b, off + m * 3 + 1 + 1, none⟩) hbwa).trans g2a)⟩)
                (first
                  | (go_at_call 30; refine (CM.out _).mono ?_; rintro e2 w2 ⟨rfl, hb2⟩; have hwl2 : wr.heap.size < w2.heap.size := Nat.lt_of_lt_of_le hwl hb2.size; have hbw2 : b < w2.heap.size := Nat.lt_of_lt_of_le hbwa hb2.size)
                  | (go_at_call 31; refine (CE.out _).mono ?_; rintro e3 w3 ⟨rfl, hb3⟩))
              all_goals
                go_wp2
                go_roundw
                case rel => exact ⟨m + 1 + 1, by omega, by go_num, hf, (HBw.out.drew.trans (hb2.mono HBw.out.size)).trans (hb3.mono (Nat.le_trans HBw.out.size hb2.size))⟩
                case measure => simp [intOf]; omega
            · have x2 : r.a ≤ e := by omega
              have hf := Lib.hid (hno2.out (by rw [hlast.out]; exact x1))
              clear hno2 hyes hlast x1
              go_wp2_with fail
              rw [← hwa.out]
              go_region_held3 (fun w' => w'.cell? ⟨wr.heap.size, 0, none⟩ = some (.int .i64 r.a) ∧ w'.cell? ⟨wr.heap.size, 1, none⟩ = some (.int .i64 r.o) ∧ w'.cell? ⟨wr.heap.size, 1 + 1, none⟩ = some (.int .i64 r.n) ∧ w'.cell? ⟨b, off + m * 3, none⟩ = some (.int .i64 s.a) ∧ w'.cell? ⟨b, off + m * 3 + 1, none⟩ = some (.int .i64 s.o) ∧ w'.cell? ⟨b, off + m * 3 + 1 + 1, none⟩ = some (.int .i64 s.n))
                (first | exact ⟨t0, t1, t2, g0a, g1a, g2a⟩ | exact ⟨(hb2.cell (p := ⟨wr.heap.size, 0, none⟩) hwl).trans t0, (hb2.cell (p := ⟨wr.heap.size, 1, none⟩) hwl).trans t1, (hb2.cell (p := ⟨wr.heap.size, 1 + 1, none⟩) hwl).trans t2, (hb2.cell (p := ⟨b, off + m * 3, none⟩) hbwa).trans g0a, (hb2.cell (p := ⟨b, off + m * 3 + 1, none⟩) hbwa).trans g1a, (hb2.cell (p := ⟨b, off + m * 3 + 1 + 1, none⟩) hbwa).trans g2a⟩ | exact ⟨(hb3.cell (p := ⟨wr.heap.size, 0, none⟩) hwl2).trans ((hb2.cell (p := ⟨wr.heap.size, 0, none⟩) hwl).trans t0), (hb3.cell (p := ⟨wr.heap.size, 1, none⟩) hwl2).trans ((hb2.cell (p := ⟨wr.heap.size, 1, none⟩) hwl).trans t1), (hb3.cell (p := ⟨wr.heap.size, 1 + 1, none⟩) hwl2).trans ((hb2.cell (p := ⟨wr.heap.size, 1 + 1, none⟩) hwl).trans t2), (hb3.cell (p := ⟨b, off + m * 3, none⟩) hbw2).trans ((hb2.cell (p := ⟨b, off + m * 3, none⟩) hbwa).trans g0a), (hb3.cell (p := ⟨b, off + m * 3 + 1, none⟩) hbw2).trans ((hb2.cell (p := ⟨b, off + m * 3 + 1, none⟩) hbwa).trans g1a), (hb3.cell (p := ⟨b, off + m * 3 + 1 + 1, none⟩) hbw2).trans ((hb2.cell (p := ⟨b, off + m * 3 + 1 + 1, none⟩) hbwa).trans g2a)⟩)
                (first
                  | (go_at_call 30; refine (CM.out _).mono ?_; rintro e2 w2 ⟨rfl, hb2⟩; have hwl2 : wr.heap.size < w2.heap.size := Nat.lt_of_lt_of_le hwl hb2.size; have hbw2 : b < w2.heap.size := Nat.lt_of_lt_of_le hbwa hb2.size)
                  | (go_at_call 31; refine (CE.out _).mono ?_; rintro e3 w3 ⟨rfl, hb3⟩))
              all_goals
                go_wp2
                go_ret
                exact ⟨by rw [hf.out]; rfl, (HBw.out.drew.trans (hb2.mono HBw.out.size)).trans (hb3.mono (Nat.le_trans HBw.out.size hb2.size))⟩
      · obtain rfl : k = l.length := by omega
        have hf : Hid (z = 0) := hgood hok.out
        go_wp2
        go_ret
        exact ⟨by rw [hf.out]; rfl, HB.out⟩
end Go.Proofs.Ytiilbgejdpnfpaa

/- Places through maps: Go: the program's. -/
namespace Go.Proofs.Ytiilbgejdpnfpaa
open Go.RowKit Go.Mps

theorem goM_no {l : List Rg} {p lean : Int} (h : ¬ (0 ≤ p ∧ p ≤ 1048576)) : goM l p lean = out p := by unfold goM; rw [if_pos (by omega)]
theorem goM_no2 {l : List Rg} {p lean : Int} (h : checkM l ≠ 0) : goM l p lean = out p := by unfold goM; rw [if_pos (.inl h)]
theorem goM_yes {l : List Rg} {p lean : Int} (h : 0 ≤ p ∧ p ≤ 1048576) (h2 : checkM l = 0) : goM l p lean = (hitM l p lean).1 := by unfold goM; rw [if_neg (by omega)]

theorem wp_new (w : World) : Wp (w.alloc (.cells #[.bool false, .bool false, .bool false, .bool false] 47)) w.heap.size Wn.zero := Bk.new w 47 #[.bool false, .bool false, .bool false, .bool false]

set_option maxRecDepth 100000 in
set_option maxHeartbeats 2000000 in
theorem mdGo_any (v : Value) (l : List Rg) (B : Nat) (w : World) (hv : Rgs w B v l) (hB : B ≤ w.heap.size) (p lean : Int) :
    Calls Try.prog 14 #[v, .int .i64 p, .int .i64 lean] w fun e w' => e = .returned (mvV (goM l p lean)) ∧ Below w.heap.size w w' := by
  obtain ⟨A, cap, rfl⟩ := hv.form
  obtain ⟨z, hz⟩ : ∃ z, Hid (z = goM l p lean) := ⟨_, Lib.hid rfl⟩
  rw [← hz.out]
  obtain ⟨wa, hwa⟩ : ∃ wa, Hid (wa = (w.alloc (.cells #[.int .i64 0, .bool false, .bool false, .bool false, .bool false] 27)).alloc (.cells #[.bool false, .bool false, .bool false, .bool false] 47)) := ⟨_, Lib.hid rfl⟩
  have HBa : Hid (Below w.heap.size w wa) := by show Below _ _ _; rw [hwa.out]; exact ((Below.refl _ _).alloc (Nat.le_refl _) _).alloc (by simp) _
  have HKa : Hid (Bk wa w.heap.size 27 #[.int .i64 0, .bool false, .bool false, .bool false, .bool false]) := by show Bk _ _ _ _; rw [hwa.out]; exact (Bk.new w 27 _).alloc _
  have HWa : Hid (Wp wa (w.heap.size + 1) Wn.zero) := by
    show Wp _ _ _; rw [hwa.out]
    have := wp_new (w.alloc (.cells #[.int .i64 0, .bool false, .bool false, .bool false, .bool false] 27))
    rwa [World.size_alloc] at this
  have HV := Lib.hid (fun w' (h : Below w.heap.size w w') => hv.below (h.mono hB))
  have HI := Lib.hid (fun w' => mdIs_any p w')
  clear hv
  obtain ⟨c, hc⟩ : ∃ c, Hid (c = checkM l) := ⟨checkM l, Lib.hid rfl⟩
  have HC := Lib.hid (fun w' (h : Below w.heap.size w w') => mdCheck_any _ l B w' (HV.out w' h) (Nat.le_trans hB h.size))
  rw [← hc.out] at HC
  go_enter Try.func14, Try.ntmps14
  go_wp2_with fail
  rw [← hwa.out]
  refine (HI.out _).mono ?_
  rintro e w1 ⟨rfl, rfl⟩
  clear HI
  by_cases hp : 0 ≤ p ∧ p ≤ 1048576
  · rw [isP_yes hp]
    have CC := Lib.hid (HC.out _ HBa.out)
    clear HC
    go_wp2_with fail
    refine CC.out.mono ?_
    rintro e w2 ⟨rfl, hb2⟩
    have HB2 := Lib.hid (HBa.out.trans (hb2.mono HBa.out.size))
    have HK2 := Lib.hid (Bk.over HKa.out hb2 (Bk.lt HKa.out))
    have HW2 := Lib.hid (Bk.over HWa.out hb2 (Bk.lt HWa.out))
    clear CC hb2
    by_cases c0 : c = 0
    · subst c0
      have hcz := checkM_zero.1 hc.out.symm
      have hf : Hid (z = (hitM l p lean).1) := by show _ = _; rw [hz.out]; exact goM_yes hp hc.out.symm
      have CT := Lib.hid (mdThrough_any _ Wn.zero _ l B _ HW2.out (HV.out _ HB2.out) (Nat.le_trans hB HB2.out.size) (by omega) hcz.2 hcz.1 p lean (by omega))
      obtain ⟨q, hq⟩ : ∃ q, Hid (q = (hitM l p lean).1) := ⟨_, Lib.hid rfl⟩
      rw [← hq.out] at CT hf
      have hj : Hid ((Wn.zero.join q).mv q.p = q) := by show _ = _; cases q; simp [Wn.zero, Wn.join, Wn.mv]
      obtain ⟨j, hjj⟩ : ∃ j, Hid (j = Wn.zero.join q) := ⟨_, Lib.hid rfl⟩
      rw [← hjj.out] at CT hj
      clear hz hc hcz hq hjj
      go_wp2_with fail
      refine CT.out.mono ?_
      rintro e w3 ⟨rfl, hw3, hb3⟩
      have HB3 := Lib.hid (HB2.out.trans (hb3.to HB2.out.size (by omega)))
      have HK3 : Hid (Bk w3 w.heap.size 27 #[.int .i64 0, .bool false, .bool false, .bool false, .bool false]) := (hb3.block _ (Bk.lt HK2.out) (by omega)).trans HK2.out
      have CM := Lib.hid (mdMoved_any _ j q.p w3 hw3)
      rw [hj.out] at CM
      clear CT hb3 hw3 HB2 HK2 HW2
      go_wp2_with fail
      refine CM.out.mono ?_
      rintro e w4 ⟨rfl, hb4⟩
      have HB4 := Lib.hid (HB3.out.trans (hb4.mono HB3.out.size))
      have HK4 := Lib.hid (Bk.over HK3.out hb4 (Bk.lt HK3.out))
      obtain ⟨e0, e1, e2, e3, e4, f0, f1, f2, f3, f4⟩ := mvFacts HK4.out
      have hlt := HK4.out.lt
      clear CM hb4 HB3 HK3 hj
      obtain ⟨m0, m1, m2, m3, m4⟩ := q
      unfold mvV
      dsimp only at hf ⊢
      go_wp2
      exact mv_retS (m := ⟨m0, m1, m2, m3, m4⟩) rfl rfl rfl hf (HK4.out.mv _ _ _ _ _) (below_mv HB4.out (Nat.le_refl _) _ _ _ _ _)
    · have hcb : (c == 0) = false := beq_eq_false_iff_ne.2 c0
      have hf : Hid (z = out p) := by show _ = _; rw [hz.out]; exact goM_no2 (by rw [← hc.out]; exact c0)
      have CM := Lib.hid (mdMoved_any _ _ p _ HW2.out)
      clear hz hc c0
      go_wp2_with fail
      refine CM.out.mono ?_
      rintro e w4 ⟨rfl, hb4⟩
      have HB4 := Lib.hid (HB2.out.trans (hb4.mono HB2.out.size))
      have HK4 := Lib.hid (Bk.over HK2.out hb4 (Bk.lt HK2.out))
      obtain ⟨e0, e1, e2, e3, e4, f0, f1, f2, f3, f4⟩ := mvFacts HK4.out
      have hlt := HK4.out.lt
      clear CM hb4 HB2 HK2
      unfold mvV
      dsimp only [Wn.mv, Wn.zero]
      go_wp2
      exact mv_retS (m := out p) rfl rfl rfl hf (HK4.out.mv _ _ _ _ _) (below_mv HB4.out (Nat.le_refl _) _ _ _ _ _)
  · rw [isP_no hp]
    have hf : Hid (z = out p) := by show _ = _; rw [hz.out]; exact goM_no hp
    have CM := Lib.hid (mdMoved_any _ _ p _ HWa.out)
    clear hz hc HC
    go_wp2_with fail
    refine CM.out.mono ?_
    rintro e w4 ⟨rfl, hb4⟩
    have HB4 := Lib.hid (HBa.out.trans (hb4.mono HBa.out.size))
    have HK4 := Lib.hid (Bk.over HKa.out hb4 (Bk.lt HKa.out))
    obtain ⟨e0, e1, e2, e3, e4, f0, f1, f2, f3, f4⟩ := mvFacts HK4.out
    have hlt := HK4.out.lt
    clear CM hb4 HKa
    unfold mvV
    dsimp only [Wn.mv, Wn.zero]
    go_wp2
    exact mv_retS (m := out p) rfl rfl rfl hf (HK4.out.mv _ _ _ _ _) (below_mv HB4.out (Nat.le_refl _) _ _ _ _ _)
end Go.Proofs.Ytiilbgejdpnfpaa

/- Places through maps: Turn, Delta, Touches: the program's. -/
namespace Go.Proofs.Ytiilbgejdpnfpaa
open Go.RowKit Go.Mps

set_option maxRecDepth 100000 in
theorem mdDelta_any (v : Value) (l : List Rg) (B : Nat) (w : World) (hv : Rgs w B v l) (hB : B ≤ w.heap.size) :
    Calls Try.prog 11 #[v] w fun e w' => e = .returned (.int .i64 (deltaM l)) ∧ Below w.heap.size w w' := by
  obtain ⟨A, cap, rfl⟩ := hv.form
  obtain ⟨z, hz⟩ : ∃ z, Hid (z = deltaM l) := ⟨deltaM l, Lib.hid rfl⟩
  rw [← hz.out]
  have HV := Lib.hid (fun w' (h : Below w.heap.size w w') => hv.below (h.mono hB))
  have HC := Lib.hid (mdCheck_any _ l B w hv hB)
  obtain ⟨c, hc⟩ : ∃ c, Hid (c = checkM l) := ⟨checkM l, Lib.hid rfl⟩
  rw [← hc.out] at HC
  clear hv
  go_enter Try.func11, Try.ntmps11
  go_wp2_with fail
  refine HC.out.mono ?_
  rintro e w1 ⟨rfl, hb1⟩
  have HB1 := Lib.hid hb1
  clear HC hb1
  by_cases c0 : c = 0
  · subst c0
    have hcz := checkM_zero.1 hc.out.symm
    have hf : Hid (z = sumM l) := by show _ = _; rw [hz.out]; unfold deltaM; rw [if_neg (by rw [← hc.out]; omega)]
    have CG := Lib.hid (mdGrowth_any _ l B w1 (HV.out w1 HB1.out) (Nat.le_trans hB HB1.out.size) (fun r hr => okR_of_mem hcz.2 r hr) hcz.1)
    rw [← hf.out] at CG
    clear hz hc hcz hf
    go_wp2_with fail
    refine CG.out.mono ?_
    rintro e w2 ⟨rfl, hb2⟩
    go_wp2
    go_ret
    exact ⟨rfl, HB1.out.trans (hb2.mono HB1.out.size)⟩
  · have hcb : (c != 0) = true := by simpa using c0
    have hf : Hid (z = 0) := by show _ = _; rw [hz.out]; unfold deltaM; rw [if_pos (by rw [← hc.out]; exact c0)]
    clear hz hc c0
    go_wp2
    go_ret
    exact ⟨by rw [hf.out]; rfl, HB1.out⟩

set_option maxRecDepth 100000 in
set_option maxHeartbeats 1000000 in
theorem mdTouches_any (v : Value) (l : List Rg) (B : Nat) (w : World) (hv : Rgs w B v l) (hB : B ≤ w.heap.size) (f t : Int) :
    Calls Try.prog 12 #[v, .int .i64 f, .int .i64 t] w fun e w' => e = .returned (.bool (touchM l f t)) ∧ Below w.heap.size w w' := by
  obtain ⟨A, cap, rfl⟩ := hv.form
  have hm := hv.max
  unfold maxLen at hm
  obtain ⟨z, hz⟩ : ∃ z, Hid (z = touchM l f t) := ⟨touchM l f t, Lib.hid rfl⟩
  rw [← hz.out]
  obtain ⟨c, hc⟩ : ∃ c, Hid (c = checkM l) := ⟨checkM l, Lib.hid rfl⟩
  have HC := Lib.hid (mdCheck_any _ l B w hv hB)
  rw [← hc.out] at HC
  have HV := Lib.hid (fun w' (h : Below w.heap.size w w') => hv.below (h.mono hB))
  clear hv
  go_enter Try.func12, Try.ntmps12
  go_wp2_with fail
  refine HC.out.mono ?_
  rintro e w1 ⟨rfl, hb1⟩
  have HB1 := Lib.hid hb1
  clear HC hb1
  by_cases c0 : c = 0
  · subst c0
    have hcz := checkM_zero.1 hc.out.symm
    have hf : Hid (z = l.any fun r => decide (r.a ≤ t) && decide (f ≤ r.a + r.o)) := by show _ = _; rw [hz.out]; unfold touchM; rw [if_neg (by rw [← hc.out]; omega)]
    have h64 : (l.length : Int) ≤ 64 := by have := hcz.1; omega
    have HR := Lib.hid (fun r hr => okR_of_mem hcz.2 r hr)
    clear hc hcz hz
    go_wp2
    go_loopw [14] (fun s5 wr => ∃ k : Nat, k ≤ l.length ∧ s5 = .int .i64 k ∧ Hid (((l.take k).any fun r => decide (r.a ≤ t) && decide (f ≤ r.a + r.o)) = false) ∧ Hid (Below w.heap.size w wr)) (fun x _ => l.length - (intOf x).toNat)
    case atStart => exact ⟨0, Nat.zero_le _, rfl, rfl, HB1⟩
    case round =>
      obtain ⟨k, hk, rfl, hn, HB⟩ := hrel
      by_cases hlt : k < l.length
      · have hkI : (k : Int) < (l.length : Int) := by omega
        have hk0 : (0 : Int) ≤ k := by omega
        obtain ⟨b, off, rfl, hbB, hcap, c0, c1, c2⟩ := (HV.out _ HB.out).at hlt
        have hrr := (okR_iff l[k]).1 (HR.out _ (List.getElem_mem hlt))
        have hs2 := Lib.hid (touch_any_succ l f t hlt)
        have hyes := Lib.hid (fun h => any_yes (p := fun r : Rg => decide (r.a ≤ t) && decide (f ≤ r.a + r.o)) l hlt h)
        rw [← hf.out] at hyes
        rw [hn.out] at hs2
        obtain ⟨r, hr⟩ : ∃ r, Hid (r = l[k]) := ⟨l[k], Lib.hid rfl⟩
        rw [← hr.out] at c0 c1 c2 hrr hs2 hyes
        clear hr
        have CE := Lib.hid (fun w' => mdEnd_any r w' (by omega) (by omega))
        obtain ⟨a, o, n⟩ := r
        unfold rgV at CE
        dsimp only at c0 c1 c2 hrr hs2 hyes CE
        have HB2 := Lib.hid (HB.out.alloc HB.out.size (.cells #[.int .i64 a, .int .i64 o, .int .i64 n] 23))
        have hbw0 : b < wr.heap.size := by have := HB.out.size; omega
        obtain ⟨e, he⟩ : ∃ e, Hid (e = a + o) := ⟨a + o, Lib.hid rfl⟩
        rw [← he.out] at CE hs2 hyes
        clear hrr he
        by_cases x1 : a ≤ t
        · by_cases x2 : f ≤ e
          · have hq : Hid (z = true) := hyes.out (by rw [decide_eq_true x1, decide_eq_true x2]; rfl)
            clear hs2 hyes
            go_wp2_with fail
            refine (CE.out _).mono ?_
            rintro e2 w2 ⟨rfl, hb2⟩
            go_wp2
            go_ret
            exact ⟨by rw [hq.out]; rfl, HB2.out.trans (hb2.mono HB2.out.size)⟩
          · have hq : Hid (((l.take (k + 1)).any fun r => decide (r.a ≤ t) && decide (f ≤ r.a + r.o)) = false) := by show _ = _; rw [hs2.out, decide_eq_false x2]; simp
            have d2 : decide (f ≤ e) = false := decide_eq_false x2
            clear x2 hs2 hyes
            go_wp2_with fail
            refine (CE.out _).mono ?_
            rintro e2 w2 ⟨rfl, hb2⟩
            go_wp2
            go_roundw
            case rel => exact ⟨k + 1, by omega, by go_num, hq, HB2.out.trans (hb2.mono HB2.out.size)⟩
            case measure => simp [intOf]; omega
        · have hq : Hid (((l.take (k + 1)).any fun r => decide (r.a ≤ t) && decide (f ≤ r.a + r.o)) = false) := by show _ = _; rw [hs2.out, decide_eq_false x1]; rfl
          have d1 : decide (a ≤ t) = false := decide_eq_false x1
          clear x1 hs2 hyes
          go_wp2
          go_roundw
          case rel => exact ⟨k + 1, by omega, by go_num, hq, HB2⟩
          case measure => simp [intOf]; omega
      · obtain rfl : k = l.length := by omega
        have hq : Hid (z = false) := by
          have := hn.out
          rw [List.take_length] at this
          exact hf.out.trans this
        go_wp2
        go_ret
        exact ⟨by rw [hq.out]; rfl, HB.out⟩
  · have hcb : (c != 0) = true := by simpa using c0
    have hf : Hid (z = false) := by show _ = _; rw [hz.out]; unfold touchM; rw [if_pos (by rw [← hc.out]; exact c0)]
    clear hc c0 hz
    go_wp2
    go_ret
    exact ⟨by rw [hf.out]; rfl, HB1.out⟩

set_option maxRecDepth 100000 in
set_option maxHeartbeats 2000000 in
theorem mdTurn_any (v : Value) (l : List Rg) (B : Nat) (w : World) (hv : Rgs w B v l) (hB : B ≤ w.heap.size) :
    Calls Try.prog 17 #[v] w fun e w' => ∃ v', e = .returned v' ∧ w'.ownsRow w.heap.size 23 3 v' (turnM l).length (rgC (turnM l)) ∧ Below w.heap.size w w' := by
  obtain ⟨A, cap, rfl⟩ := hv.form
  have HC := Lib.hid (mdCheck_any _ l B w hv hB)
  obtain ⟨c, hc⟩ : ∃ c, Hid (c = checkM l) := ⟨checkM l, Lib.hid rfl⟩
  rw [← hc.out] at HC
  have HV := Lib.hid (fun w' (h : Below w.heap.size w w') => hv.below (h.mono hB))
  clear hv
  go_enter Try.func17, Try.ntmps17
  go_wp2_with fail
  refine HC.out.mono ?_
  rintro e w1 ⟨rfl, hb1⟩
  have HB1 := Lib.hid hb1
  clear HC hb1
  by_cases c0 : c = 0
  · subst c0
    have hcz := checkM_zero.1 hc.out.symm
    have hf : Hid (turnM l = turnG 0 (l.take l.length)) := by show _ = _; rw [List.take_length]; exact turnM_of hc.out.symm
    have h64 : (l.length : Int) ≤ 64 := by have := hcz.1; omega
    have HCz := Lib.hid hcz
    clear hc hcz
    go_wp2
    go_loopw [3, 11] (fun s3 s5 wr => ∃ (k : Nat), k ≤ l.length ∧ s5 = .int .i64 k ∧ Hid (wr.ownsRow w.heap.size 23 3 s3 k (rgC (turnG 0 (l.take k)))) ∧ Hid (Below w.heap.size w wr)) (fun _ x _ => l.length - (intOf x).toNat)
    case atStart => exact ⟨0, Nat.zero_le _, rfl, World.ownsRow_nil _ _ _ 3, HB1⟩
    case round =>
      obtain ⟨k, hk, rfl, ho, HB⟩ := hrel
      by_cases hlt : k < l.length
      · have hkI : (k : Int) < (l.length : Int) := by omega
        have hk0 : (0 : Int) ≤ k := by omega
        have CB := Lib.hid (fun w' (h : Below w.heap.size w w') => mdBegins_any _ l B w' (HV.out w' h) (Nat.le_trans hB h.size) HCz.out.2 HCz.out.1 k hlt)
        obtain ⟨b, off, rfl, hbB, hcap, c0, c1, c2⟩ := (HV.out _ HB.out).at hlt
        have hsz := HB.out.size
        have hbw : b < wr.heap.size := by omega
        have hs1 := Lib.hid (turn_succ l hlt)
        have hcm := cameM_at l hlt
        obtain ⟨m, hm⟩ : ∃ m, Hid (m = cameM l k) := ⟨_, Lib.hid rfl⟩
        rw [← hm.out] at hcm CB
        rw [← hcm] at hs1
        obtain ⟨r, hr⟩ : ∃ r, Hid (r = l[k]) := ⟨l[k], Lib.hid rfl⟩
        rw [← hr.out] at c0 c1 c2 hs1
        clear hr hm hcm
        obtain ⟨a, o, n⟩ := r
        dsimp only at c0 c1 c2 hs1
        obtain ⟨wa, hwa⟩ : ∃ wa, Hid (wa = wr.alloc (.cells #[.int .i64 a, .int .i64 o, .int .i64 n] 23)) := ⟨_, Lib.hid rfl⟩
        have hwl : wr.heap.size < wa.heap.size := by rw [hwa.out]; simp
        have HBw : Hid (Below w.heap.size w wa) := by show Below _ _ _; rw [hwa.out]; exact (HB.out.alloc hsz _)
        have t1 : wa.drew.cell? ⟨wr.heap.size, 1, none⟩ = some (.int .i64 o) := by rw [hwa.out]; go_simp
        have t2 : wa.drew.cell? ⟨wr.heap.size, 1 + 1, none⟩ = some (.int .i64 n) := by rw [hwa.out]; go_simp
        have o1 : Hid (wa.ownsRow w.heap.size 23 3 u3 k (rgC (turnG 0 (l.take k)))) := by show World.ownsRow _ _ _ _ _ _ _; rw [hwa.out]; exact World.ownsRow.alloc ho.out _
        have hne : some wr.heap.size ≠ u3.ownBlock := fun h => by have := (ho.out.lt wr.heap.size h.symm).2; omega
        have CB1 := Lib.hid (CB.out wa.drew HBw.out.drew)
        clear CB
        go_wp2_with fail
        rw [← hwa.out]
        go_region_held3 (fun w' => w'.cell? ⟨wr.heap.size, 1, none⟩ = some (.int .i64 o) ∧ w'.cell? ⟨wr.heap.size, 1 + 1, none⟩ = some (.int .i64 n))
          (first
            | exact ⟨t1, t2⟩
            | exact ⟨s1, s2⟩
            | exact ⟨s1b, s2b⟩
            | exact ⟨(hg3.cell_far ⟨wr.heap.size, 1, none⟩ (by simp; omega) hne).trans s1b, (hg3.cell_far ⟨wr.heap.size, 1 + 1, none⟩ (by simp; omega) hne).trans s2b⟩)
          (first
            | (go_at_call 29; refine CB1.out.mono ?_; rintro e2 w2 ⟨rfl, hb2⟩; have s1 := (hb2.cell (p := ⟨wr.heap.size, 1, none⟩) hwl).trans t1; have s2 := (hb2.cell (p := ⟨wr.heap.size, 1 + 1, none⟩) hwl).trans t2; have o2 := Lib.hid (own_all o1.out ((Below.refl _ _).drew.trans hb2)); have hwl2 : wr.heap.size < w2.heap.size := Nat.lt_of_lt_of_le hwl hb2.size; have o3 := Lib.hid ((World.ownsRow.alloc (w := w2) o2.out (.cells #[.int .i64 m, .int .i64 n, .int .i64 o] 23))); have s1b : (w2.alloc (.cells #[.int .i64 m, .int .i64 n, .int .i64 o] 23)).cell? ⟨wr.heap.size, 1, none⟩ = some (.int .i64 o) := (World.cell?_alloc_lt _ _ _ hwl2).trans s1; have s2b : (w2.alloc (.cells #[.int .i64 m, .int .i64 n, .int .i64 o] 23)).cell? ⟨wr.heap.size, 1 + 1, none⟩ = some (.int .i64 n) := (World.cell?_alloc_lt _ _ _ hwl2).trans s2)
            | (refine step_appR _ (by rfl) (.tmp 16) (.tmp 25) 24 23 (by rfl) _ 3 24 Try.underlying24 infoRg (by rfl) (by decide) w.heap.size (by rfl) (by rfl) o3.out (Rd.lit w2 23 3 1 #[.int .i64 m, .int .i64 n, .int .i64 o] (0, 0) rfl (by omega)) (by simp [Value.oneCell']) (by unfold maxLen; omega) (by omega) (by simp; omega) ?_; intro v' w3 hown' hg3 hat))
        have HB2 := HBw.out.drew.trans (hb2.mono HBw.out.size)
        have hb4 := Lib.hid ((HB2.alloc HB2.size _).grown hg3 (by have := HB2.size; simp; omega) fun g hg => (o3.out.lt g hg).1)
        have hown2 : Hid (w3.ownsRow w.heap.size 23 3 v' (k + 1) (rgC (turnG 0 (l.take (k + 1))))) := by
          show World.ownsRow _ _ _ _ _ _ _
          rw [hs1.out, rgC_app]; exact hown'
        clear hg3 hat ho hown' o1 o2 o3 c0 c1 c2 hne hs1 s1 s2 s1b s2b t1 t2 HB2 hb2 CB1
        go_wp2
        go_roundw
        case rel => exact ⟨k + 1, by omega, by go_num, hown2.out, hb4.out⟩
        case measure => simp [intOf]; omega
      · obtain rfl : k = l.length := by omega
        go_wp2
        go_ret
        refine ⟨_, rfl, ?_, HB.out⟩
        have hl : (turnG 0 (l.take l.length)).length = l.length := by rw [turn_length, List.length_take, Nat.min_self]
        rw [hf.out, hl]
        exact ho.out
  · have hcb : (c != 0) = true := by simpa using c0
    have hf : Hid (turnM l = []) := by show _ = _; unfold turnM; rw [if_pos (by rw [← hc.out]; exact c0)]
    clear hc c0
    go_wp2
    go_ret
    refine ⟨_, rfl, ?_, HB1.out⟩
    rw [hf.out]
    exact World.ownsRow_nil _ _ _ 3
end Go.Proofs.Ytiilbgejdpnfpaa
