/- expr: row, choice, whole, Parse. -/
import Derived.Test.YtfbcafapnagjfaaDoorExS
import Derived.Deep.LoopGhost
namespace Go.Proofs.YtfbcafapnagjfaaDoor
open Go.RowKit

/-- an expression is no list of one or of none -/
def NoOne (e : Ex) : Prop := e.k = 2 ∨ e.k = 3 → 2 ≤ e.l.length
theorem with_pos (kind : Int) (hk : kind = 2 ∨ kind = 3) (ks : List Ex) (y : Ex) (h : NoOne y) : 1 ≤ Ex.wtL (withE kind ks y) := by
  refine wt_with_pos kind ks y ?_
  by_cases e : y.k = kind
  · right; right
    have := h (by rw [e]; exact hk)
    intro e2; rw [e2] at this; simp at this
  · exact .inr (.inl e)
theorem list_noOne (kind : Int) (hk : kind = 2 ∨ kind = 3) (ks : List Ex) (y : Ex) (h : NoOne y) : NoOne (listE kind (withE kind ks y)) := by
  rcases hw : withE kind ks y with _ | ⟨x, _ | ⟨z, r⟩⟩
  · have := with_pos kind hk ks y h
    rw [hw, Ex.wtL] at this; omega
  · show NoOne x
    unfold withE at hw
    split at hw
    · rename_i e
      have h2 := h (by rw [e]; exact hk)
      have h3 := congrArg List.length hw
      rw [List.length_append] at h3
      simp at h3; omega
    · have h3 := congrArg List.length hw
      rw [List.length_append] at h3
      have : ks = [] := List.eq_nil_of_length_eq_zero (by simp at h3; simpa using h3)
      subst this
      simp at hw; rw [← hw]; exact h
  · intro _
    show 2 ≤ (x :: z :: r).length
    simp

theorem row_fine {n : Nat} {t : List UInt8} (hn : t.length = n) {it : Nat → Option Ex × Nat} (hf : Fine n it) : ∀ (f : Nat) (ks : List Ex) (i0 i : Nat) (e : Ex) (k : Nat), Ex.wtL ks + i0 ≤ i → i ≤ n → rowP t it f ks i = (some e, k) → e.wtE + i0 ≤ k ∧ k ≤ n ∧ NoOne e
  | 0, ks, i0, i, e, k, _, _, h => by cases h
  | f + 1, ks, i0, i, e, k, hw, hi, h => by
    rw [rowP] at h
    rcases h1 : it i with ⟨o, k1⟩
    rw [h1] at h
    cases o with
    | none => cases h
    | some y =>
      obtain ⟨g1, g2, g3⟩ := hf i y k1 hi h1
      simp only at h
      have hj1 := skip_ge t k1
      have hj2 := skip_le (t := t) (k := k1) (by omega)
      have hpos := with_pos 2 (.inl rfl) ks y g3
      have hwt := wt_with 2 ks y
      split at h
      · cases h
        have hl := wt_list 2 (withE 2 ks y) hpos
        exact ⟨by omega, by omega, list_noOne 2 (.inl rfl) ks y g3⟩
      · exact row_fine hn hf f _ i0 _ e k (by omega) (by omega) h
theorem alt_fine {n : Nat} {t : List UInt8} (hn : t.length = n) {it : Nat → Option Ex × Nat} (hf : Fine n it) : ∀ (f : Nat) (ks : List Ex) (i0 i : Nat) (e : Ex) (k : Nat), Ex.wtL ks + i0 ≤ i → i ≤ n → altP t it f ks i = (some e, k) → e.wtE + i0 ≤ k ∧ k ≤ n ∧ NoOne e
  | 0, ks, i0, i, e, k, _, _, h => by cases h
  | f + 1, ks, i0, i, e, k, hw, hi, h => by
    rw [altP] at h
    rcases h1 : it i with ⟨o, k1⟩
    rw [h1] at h
    cases o with
    | none => cases h
    | some y =>
      obtain ⟨g1, g2, g3⟩ := hf i y k1 hi h1
      simp only at h
      have hj1 := skip_ge t k1
      have hj2 := skip_le (t := t) (k := k1) (by omega)
      have hpos := with_pos 3 (.inr rfl) ks y g3
      have hwt := wt_with 3 ks y
      rcases h2 : takeP 124 t k1 with ⟨b, k2⟩
      have hk2 := take_le (c := 124) (by decide) (t := t) (i := k1) (by omega)
      rw [h2] at h hk2
      simp only at hk2
      cases b
      · have e1 := take_no h2
        cases h
        have hl := wt_list 3 (withE 3 ks y) hpos
        exact ⟨by omega, by omega, list_noOne 3 (.inr rfl) ks y g3⟩
      · obtain ⟨e1, -⟩ := take_yes h2
        exact alt_fine hn hf f _ i0 _ e k (by omega) (by omega) h
theorem ch_fine (t : List UInt8) : ∀ m : Nat, Fine t.length (chP t m)
  | 0 => fun i e k _ h => by cases h
  | m + 1 => by
    intro i e k hi h
    have hs : (baOf t).data.toList = t := baOf_list t
    have hl : (baOf t).size = t.length := baOf_len t
    have hm : Fine t.length (manyP t (chP t m)) := by
      have := many_fine (s := baOf t) (ch := chP t m) (by rw [hl]; exact ch_fine t m)
      rwa [hs, hl] at this
    rw [chP] at h
    refine alt_fine rfl (it := fun i => rowP t (manyP t (chP t m)) (t.length + 1) [] i) (fun i e k hi he => ?_) _ [] i i e k (by rw [Ex.wtL]; omega) hi h
    exact row_fine rfl hm _ [] i i e k (by rw [Ex.wtL]; omega) hi he

/-! ## the walks -/
theorem Rp.below2 {w w' : World} {g B : Nat} {s : ByteArray} {i : Nat} (h : Rp w g s i) (hb : Below B w w') (hg : g < B) : Rp w' g s i := Bk.below h hb hg
/-- many's contract at every place -/
def ItOK (F : FuncId) (g : Nat) (s : ByteArray) (j0 : Nat) (it : Nat → Option Ex × Nat) : Prop :=
  ∀ (i : Nat) (w : World), Rp w g s i → j0 ≤ i → i ≤ s.size → Calls Tryd.prog F #[.pointer (some ⟨g, 0, none⟩)] w (Pt w g s (it i))

set_option maxRecDepth 100000 in
set_option maxHeartbeats 3200000 in
theorem row_loop (g : Nat) (s : ByteArray) (i : Nat) (w : World) (h : Rp w g s i) (hi : i ≤ s.size) (hs : s.size ≤ 2000) (it : Nat → Option Ex × Nat) (hit : ItOK 43 g s i it) (hfn : Fine s.size it) :
    Calls Tryd.prog 35 #[.pointer (some ⟨g, 0, none⟩)] w (Pt w g s (rowP s.data.toList it (s.size + 1) [] i)) := by
  obtain ⟨R, HR⟩ : ∃ R, Hid (R = rowP s.data.toList it (s.size + 1) [] i) := ⟨_, rfl⟩
  rw [← HR.out]
  have hg := h.lt
  obtain ⟨w0, rfl⟩ : ∃ w0 : World, w0 = w := ⟨_, rfl⟩
  have HIT := Lib.hid hit
  have HFN := Lib.hid hfn
  have Hh := Lib.hid h
  have HS := Lib.hid (ba_len s)
  clear hit hfn h
  go_enter Tryd.func35, Tryd.ntmps35
  go_wp2_with fail
  go_loopg [4] (s.size + 1) (fun f v wr => ∃ (ks : List Ex) (k : Nat), k ≤ s.size ∧ i ≤ k ∧ s.size + 1 ≤ f + k ∧ Hid (Ex.wtL ks ≤ k) ∧ Hid (rowP s.data.toList it f ks k = R) ∧ Hid (Ks wr (w0.heap.size + 1) v ks) ∧ Hid (Rp wr g s k) ∧ Hid (Bg w0.heap.size g w0 wr) ∧
    Hid (Bk wr w0.heap.size 24 #[.int .i64 0, .string ⟨#[]⟩, .int .i64 0, .int .i64 0, .slice none 0 0]))
  case atStart => exact ⟨[], i, hi, Nat.le_refl _, by omega, by show _ ≤ _; rw [Ex.wtL]; omega, HR.out.symm, Ks.nil _ _, Hh.out.alloc _, (Bg.refl _ _ _).alloc (Nat.le_refl _) _, Bk.new _ _ _⟩
  case round =>
    obtain ⟨ks, k, hk, hik, hf, HW, HRR, HK, Hr, HB, HQ⟩ := hrel
    obtain ⟨f, rfl⟩ : ∃ f, gk = f + 1 := ⟨gk - 1, by omega⟩
    rcases h1 : it k with ⟨o, k1⟩
    have C0 := Lib.hid (HIT.out k wr Hr.out hik hk)
    rw [h1] at C0
    have hz : w0.heap.size < wr.heap.size := HQ.out.lt
    have hR1 : R = match (o, k1) with
      | (none, k) => (none, k)
      | (some e, k) => if !decide (peek s.data.toList (skipN s.data.toList k) = 40) && !letB (peek s.data.toList (skipN s.data.toList k)) then (some (listE 2 (withE 2 ks e)), skipN s.data.toList k) else rowP s.data.toList it f (withE 2 ks e) (skipN s.data.toList k) := by
      rw [← HRR.out, rowP, h1]; rfl
    cases o with
    | none =>
      have HR1 : Hid (R = (none, k1)) := hR1
      clear hR1 h1 HRR HW HK HR HIT HFN
      go_wp2_with fail
      refine (C0.out).mono ?_
      clear C0
      rintro x w1 ⟨e, A, c, rfl, hr1, hb1, -⟩
      have HQ1 := Lib.hid (HQ.out.bg hb1 (by omega))
      have HB1 : Hid (Bg w0.heap.size g w0 w1) := HB.out.trans (hb1.mono (by omega))
      have Hr1 := Lib.hid hr1
      have hz1 : w0.heap.size < w1.heap.size := HQ1.out.lt
      obtain ⟨⟨x0, x1, x2, x3, x4⟩, y0, y1, y2, y3, y4⟩ := Bk.five HQ1.out
      clear hr1 hb1 HQ HB Hr
      go_wp2_with fail
      refine pt_ret (e := .mk 0 ⟨#[]⟩ 0 0 []) (A := none) (c := 0) Tryd.results35 rfl (by rw [HR1.out]; rfl) rfl ⟨?_, ?_, ?_, fun y hy => by rw [HR1.out] at hy; cases hy⟩
      · rw [HR1.out]; exact (Hr1.out.far5 (by omega) _ _ _ _ _).alloc _
      · exact (HB1.out.set5 (Nat.le_refl _) _ _ _ _ _).alloc (by simp; omega) _
      · exact (HQ1.out.set5 _ _ _ _ _).alloc _
    | some y =>
      obtain ⟨g1, g2, g3⟩ := HFN.out k y k1 hk h1
      have hy1 := wt_pos y
      have hyl := wt_len y
      have hkl := wtL_len ks
      have hWW := HW.out
      have HNW : Hid (Ex.wtL (withE 2 ks y) ≤ k1) := by have := wt_with 2 ks y; show _ ≤ _; omega
      have hsz1 : ks.length + y.l.length + 1 ≤ 1000000 := by omega
      have HSZ := Lib.hid hsz1
      have HRF := Lib.hid hR1
      have HG3 := Lib.hid g3
      clear hyl hkl hWW hsz1 HW hR1 h1 g3 HRR HR
      go_wp2_with fail
      refine (C0.out).mono ?_
      clear C0
      rintro x w1 ⟨e, A, c, rfl, hr1, hb1, hyy⟩
      obtain ⟨rfl, hkd⟩ := hyy y rfl
      clear hyy
      have hlv := HK.out.lt
      have HQ1 := Lib.hid (HQ.out.bg hb1 (by omega))
      have HB1 : Hid (Bg w0.heap.size g w0 w1) := HB.out.trans (hb1.mono (by omega))
      have Hr1 := Lib.hid hr1
      have HK1 := Lib.hid (HK.out.bg hb1 (by omega))
      have hz1 : w0.heap.size < w1.heap.size := HQ1.out.lt
      have hzz := hb1.size
      have HKD := Lib.hid ((hkd.mono (S' := fun b => w0.heap.size + 1 ≤ b ∧ u4.ownBlock ≠ some b) fun b hb => ⟨by omega, fun hh => by have := (hlv b hh).2; omega⟩).newS (.cells #[.int .i64 e.k, .string e.n, .int .i64 e.a, .int .i64 e.b, .slice A e.l.length c] 24))
      clear hr1 hb1 HQ HB Hr HK hkd hlv
      have C1 := Lib.hid (with_any 2 u4 ks e (.slice A e.l.length c) (w0.heap.size + 1) (w1.alloc (.cells #[.int .i64 e.k, .string e.n, .int .i64 e.a, .int .i64 e.b, .slice A e.l.length c] 24)) (HK1.out.all (box_below _ _)) HKD.out (by simp; omega) HSZ.out)
      go_wp2_with fail
      refine (C1.out).mono ?_
      clear C1
      rintro x w2 ⟨v2, rfl, hk2, hb2⟩
      have hz2 := hb2.size
      rw [World.size_alloc] at hz2
      have HQ2 := Lib.hid ((HQ1.out.alloc (.cells #[.int .i64 e.k, .string e.n, .int .i64 e.a, .int .i64 e.b, .slice A e.l.length c] 24)).below hb2 (by omega))
      have Hr2 := Lib.hid ((Hr1.out.alloc (.cells #[.int .i64 e.k, .string e.n, .int .i64 e.a, .int .i64 e.b, .slice A e.l.length c] 24)).below2 hb2 (by omega))
      have HB2 : Hid (Bg w0.heap.size g w0 w2) := (HB1.out.alloc (by omega) _).below (hb2.mono (by omega))
      have HK2 := Lib.hid hk2
      clear hk2 hb2 HQ1 Hr1 HB1 HK1 HKD HSZ
      have hk1s : k1 ≤ s.size := g2
      obtain ⟨j, HJ⟩ : ∃ j, Hid (j = skipN s.data.toList k1) := ⟨_, rfl⟩
      obtain ⟨d, HD⟩ : ∃ d, Hid (d = peek s.data.toList j) := ⟨_, rfl⟩
      have hjs : j ≤ s.size := by have := skip_le (t := s.data.toList) (k := k1) (by rw [ba_len]; exact g2); rw [ba_len, ← HJ.out] at this; exact this
      have hjk : k1 ≤ j := by have := skip_ge s.data.toList k1; rw [← HJ.out] at this; exact this
      have hR2 : R = if !decide (d = 40) && !letB d then (some (listE 2 (withE 2 ks e)), j) else rowP s.data.toList it f (withE 2 ks e) j := by
        rw [HRF.out, HD.out, HJ.out]
      have C2 := Lib.hid (next_any g s k1 w2 Hr2.out g2 (by omega))
      rw [← HJ.out, ← HD.out] at C2
      have HR2 := Lib.hid hR2
      clear hR2 HRF HJ HD
      go_wp2_with fail
      refine (C2.out).mono ?_
      clear C2
      rintro x w3 ⟨rfl, hr3, hb3⟩
      have HQ3 := Lib.hid (HQ2.out.bg hb3 (by omega))
      have HB3 : Hid (Bg w0.heap.size g w0 w3) := HB2.out.trans (hb3.mono (by omega))
      have HK3 := Lib.hid (HK2.out.bg hb3 (by omega))
      have Hr3 := Lib.hid hr3
      have hz3 : w0.heap.size < w3.heap.size := HQ3.out.lt
      clear hr3 hb3 HQ2 HB2 HK2 Hr2
      have q1 : Hid (Ex.wtL (withE 2 ks e) ≤ j) := Nat.le_trans HNW.out hjk
      by_cases h40 : d = 40
      · have hd : ((d.toNat : Int) != 40) = false := by rw [h40]; rfl
        have HR3 : Hid (rowP s.data.toList it f (withE 2 ks e) j = R) := by show _ = _; rw [HR2.out, h40]; rfl
        clear h40 HR2
        go_wp2_with fail
        go_roundg f
        case rel => exact ⟨withE 2 ks e, j, hjs, by omega, by omega, q1, HR3, HK3, Hr3, HB3, HQ3⟩
        case measure => omega
      · have hd : ((d.toNat : Int) != 40) = true := by rw [bne, show (40 : Int) = ((40 : UInt8).toNat : Int) from rfl, beq_u8]; simp [h40]
        have C3 := Lib.hid (letter_any d w3)
        obtain ⟨q, HQQ⟩ : ∃ q, Hid (q = letB d) := ⟨_, rfl⟩
        rw [← HQQ.out] at C3
        have HR3 : Hid (R = if !q then (some (listE 2 (withE 2 ks e)), j) else rowP s.data.toList it f (withE 2 ks e) j) := by show _ = _; rw [HR2.out, HQQ.out]; simp [h40]
        clear h40 HR2 HQQ
        go_wp2_with fail
        refine (C3.out).mono ?_
        clear C3
        rintro x w4 ⟨rfl, rfl⟩
        cases q
        · have HR4 : Hid (R = (some (listE 2 (withE 2 ks e)), j)) := by show _ = _; rw [HR3.out]; rfl
          have C4 := Lib.hid (list_any 2 v2 (withE 2 ks e) (w0.heap.size + 1) w3 HK3.out)
          clear HR3 HK3
          go_wp2_with fail
          refine (C4.out).mono ?_
          clear C4
          rintro x w5 ⟨A5, c5, rfl, hk5, hb5⟩
          obtain ⟨E, HE⟩ : ∃ E, Hid (E = listE 2 (withE 2 ks e)) := ⟨_, rfl⟩
          rw [← HE.out] at hk5 ⊢
          have HQ5 := Lib.hid (HQ3.out.all hb5)
          have Hr5 := Lib.hid (Hr3.out.all hb5)
          have HB5 : Hid (Bg w0.heap.size g w0 w5) := HB3.out.below (hb5.mono (by omega))
          have hz5 : w0.heap.size < w5.heap.size := HQ5.out.lt
          have HK5 := Lib.hid hk5
          obtain ⟨⟨x0, x1, x2, x3, x4⟩, y0, y1, y2, y3, y4⟩ := Bk.five HQ5.out
          clear hk5 hb5 HQ3 Hr3 HB3
          go_wp2_with fail
          refine pt_ret (e := E) (A := A5) (c := c5) Tryd.results35 rfl (by rw [HR4.out]; rfl) rfl ⟨?_, ?_, ?_, fun y hy => ?_⟩
          · rw [HR4.out]; exact Hr5.out.far5 (by omega) _ _ _ _ _
          · exact HB5.out.set5 (Nat.le_refl _) _ _ _ _ _
          · exact HQ5.out.set5 _ _ _ _ _
          · have z1 : R.1 = some E := by rw [HR4.out, HE.out]
            rw [z1] at hy
            exact ⟨Option.some.inj hy, (HK5.out.far5 (by omega) _ _ _ _ _).later (by omega)⟩
        · have HR4 : Hid (rowP s.data.toList it f (withE 2 ks e) j = R) := by show _ = _; rw [HR3.out]; rfl
          clear HR3
          go_wp2_with fail
          go_roundg f
          case rel => exact ⟨withE 2 ks e, j, hjs, by omega, by omega, q1, HR4, HK3, Hr3, HB3, HQ3⟩
          case measure => omega

set_option maxRecDepth 100000 in
set_option maxHeartbeats 3200000 in
theorem alt_loop (g : Nat) (s : ByteArray) (i : Nat) (w : World) (h : Rp w g s i) (hi : i ≤ s.size) (hs : s.size ≤ 2000) (it : Nat → Option Ex × Nat) (hit : ItOK 35 g s i it) (hfn : Fine s.size it) :
    Calls Tryd.prog 20 #[.pointer (some ⟨g, 0, none⟩)] w (Pt w g s (altP s.data.toList it (s.size + 1) [] i)) := by
  obtain ⟨R, HR⟩ : ∃ R, Hid (R = altP s.data.toList it (s.size + 1) [] i) := ⟨_, rfl⟩
  rw [← HR.out]
  have hg := h.lt
  obtain ⟨w0, rfl⟩ : ∃ w0 : World, w0 = w := ⟨_, rfl⟩
  have HIT := Lib.hid hit
  have HFN := Lib.hid hfn
  have Hh := Lib.hid h
  have HS := Lib.hid (ba_len s)
  clear hit hfn h
  go_enter Tryd.func20, Tryd.ntmps20
  go_wp2_with fail
  go_loopg [4] (s.size + 1) (fun f v wr => ∃ (ks : List Ex) (k : Nat), k ≤ s.size ∧ i ≤ k ∧ s.size + 1 ≤ f + k ∧ Hid (Ex.wtL ks ≤ k) ∧ Hid (altP s.data.toList it f ks k = R) ∧ Hid (Ks wr (w0.heap.size + 1) v ks) ∧ Hid (Rp wr g s k) ∧ Hid (Bg w0.heap.size g w0 wr) ∧
    Hid (Bk wr w0.heap.size 24 #[.int .i64 0, .string ⟨#[]⟩, .int .i64 0, .int .i64 0, .slice none 0 0]))
  case atStart => exact ⟨[], i, hi, Nat.le_refl _, by omega, by show _ ≤ _; rw [Ex.wtL]; omega, HR.out.symm, Ks.nil _ _, Hh.out.alloc _, (Bg.refl _ _ _).alloc (Nat.le_refl _) _, Bk.new _ _ _⟩
  case round =>
    obtain ⟨ks, k, hk, hik, hf, HW, HRR, HK, Hr, HB, HQ⟩ := hrel
    obtain ⟨f, rfl⟩ : ∃ f, gk = f + 1 := ⟨gk - 1, by omega⟩
    rcases h1 : it k with ⟨o, k1⟩
    have C0 := Lib.hid (HIT.out k wr Hr.out hik hk)
    rw [h1] at C0
    have hz : w0.heap.size < wr.heap.size := HQ.out.lt
    have hR1 : R = match (o, k1) with
      | (none, k) => (none, k)
      | (some e, k) => if (takeP 124 s.data.toList k).1 then altP s.data.toList it f (withE 3 ks e) (takeP 124 s.data.toList k).2 else (some (listE 3 (withE 3 ks e)), (takeP 124 s.data.toList k).2) := by
      rw [← HRR.out, altP, h1]; rfl
    cases o with
    | none =>
      have HR1 : Hid (R = (none, k1)) := hR1
      clear hR1 h1 HRR HW HK HR HIT HFN
      go_wp2_with fail
      refine (C0.out).mono ?_
      clear C0
      rintro x w1 ⟨e, A, c, rfl, hr1, hb1, -⟩
      have HQ1 := Lib.hid (HQ.out.bg hb1 (by omega))
      have HB1 : Hid (Bg w0.heap.size g w0 w1) := HB.out.trans (hb1.mono (by omega))
      have Hr1 := Lib.hid hr1
      have hz1 : w0.heap.size < w1.heap.size := HQ1.out.lt
      obtain ⟨⟨x0, x1, x2, x3, x4⟩, y0, y1, y2, y3, y4⟩ := Bk.five HQ1.out
      clear hr1 hb1 HQ HB Hr
      go_wp2_with fail
      refine pt_ret (e := .mk 0 ⟨#[]⟩ 0 0 []) (A := none) (c := 0) Tryd.results20 rfl (by rw [HR1.out]; rfl) rfl ⟨?_, ?_, ?_, fun y hy => by rw [HR1.out] at hy; cases hy⟩
      · rw [HR1.out]; exact (Hr1.out.far5 (by omega) _ _ _ _ _).alloc _
      · exact (HB1.out.set5 (Nat.le_refl _) _ _ _ _ _).alloc (by simp; omega) _
      · exact (HQ1.out.set5 _ _ _ _ _).alloc _
    | some y =>
      obtain ⟨g1, g2, g3⟩ := HFN.out k y k1 hk h1
      have hy1 := wt_pos y
      have hyl := wt_len y
      have hkl := wtL_len ks
      have hWW := HW.out
      have HNW : Hid (Ex.wtL (withE 3 ks y) ≤ k1) := by have := wt_with 3 ks y; show _ ≤ _; omega
      have hsz1 : ks.length + y.l.length + 1 ≤ 1000000 := by omega
      have HSZ := Lib.hid hsz1
      have HRF := Lib.hid hR1
      have HG3 := Lib.hid g3
      clear hyl hkl hWW hsz1 HW hR1 h1 g3 HRR HR
      go_wp2_with fail
      refine (C0.out).mono ?_
      clear C0
      rintro x w1 ⟨e, A, c, rfl, hr1, hb1, hyy⟩
      obtain ⟨rfl, hkd⟩ := hyy y rfl
      clear hyy
      have hlv := HK.out.lt
      have HQ1 := Lib.hid (HQ.out.bg hb1 (by omega))
      have HB1 : Hid (Bg w0.heap.size g w0 w1) := HB.out.trans (hb1.mono (by omega))
      have Hr1 := Lib.hid hr1
      have HK1 := Lib.hid (HK.out.bg hb1 (by omega))
      have hz1 : w0.heap.size < w1.heap.size := HQ1.out.lt
      have hzz := hb1.size
      have HKD := Lib.hid ((hkd.mono (S' := fun b => w0.heap.size + 1 ≤ b ∧ u4.ownBlock ≠ some b) fun b hb => ⟨by omega, fun hh => by have := (hlv b hh).2; omega⟩).newS (.cells #[.int .i64 e.k, .string e.n, .int .i64 e.a, .int .i64 e.b, .slice A e.l.length c] 24))
      clear hr1 hb1 HQ HB Hr HK hkd hlv
      have C1 := Lib.hid (with_any 3 u4 ks e (.slice A e.l.length c) (w0.heap.size + 1) (w1.alloc (.cells #[.int .i64 e.k, .string e.n, .int .i64 e.a, .int .i64 e.b, .slice A e.l.length c] 24)) (HK1.out.all (box_below _ _)) HKD.out (by simp; omega) HSZ.out)
      go_wp2_with fail
      refine (C1.out).mono ?_
      clear C1
      rintro x w2 ⟨v2, rfl, hk2, hb2⟩
      have hz2 := hb2.size
      rw [World.size_alloc] at hz2
      have HQ2 := Lib.hid ((HQ1.out.alloc (.cells #[.int .i64 e.k, .string e.n, .int .i64 e.a, .int .i64 e.b, .slice A e.l.length c] 24)).below hb2 (by omega))
      have Hr2 := Lib.hid ((Hr1.out.alloc (.cells #[.int .i64 e.k, .string e.n, .int .i64 e.a, .int .i64 e.b, .slice A e.l.length c] 24)).below2 hb2 (by omega))
      have HB2 : Hid (Bg w0.heap.size g w0 w2) := (HB1.out.alloc (by omega) _).below (hb2.mono (by omega))
      have HK2 := Lib.hid hk2
      clear hk2 hb2 HQ1 Hr1 HB1 HK1 HKD HSZ
      have hk1s : k1 ≤ s.size := g2
      rcases hT : takeP 124 s.data.toList k1 with ⟨q, j⟩
      have hjs : j ≤ s.size := by have := take_le (c := 124) (by decide) (t := s.data.toList) (i := k1) (by rw [ba_len]; exact g2); rw [ba_len, hT] at this; exact this
      have hjk : k1 ≤ j := by
        have := skip_ge s.data.toList k1
        cases q
        · have := take_no hT; omega
        · have := (take_yes hT).1; omega
      have hR2 : R = if q then altP s.data.toList it f (withE 3 ks e) j else (some (listE 3 (withE 3 ks e)), j) := by
        rw [HRF.out, hT]
      have C2 := Lib.hid (take_any g s k1 124 w2 Hr2.out g2 (by omega))
      rw [hT] at C2
      have HR2 := Lib.hid hR2
      clear hR2 HRF hT
      go_wp2_with fail
      refine (C2.out).mono ?_
      clear C2
      rintro x w3 ⟨rfl, hr3, hb3⟩
      have HQ3 := Lib.hid (HQ2.out.bg hb3 (by omega))
      have HB3 : Hid (Bg w0.heap.size g w0 w3) := HB2.out.trans (hb3.mono (by omega))
      have HK3 := Lib.hid (HK2.out.bg hb3 (by omega))
      have Hr3 := Lib.hid hr3
      have hz3 : w0.heap.size < w3.heap.size := HQ3.out.lt
      clear hr3 hb3 HQ2 HB2 HK2 Hr2
      have q1 : Hid (Ex.wtL (withE 3 ks e) ≤ j) := Nat.le_trans HNW.out hjk
      cases q
      · have HR4 : Hid (R = (some (listE 3 (withE 3 ks e)), j)) := by show _ = _; rw [HR2.out]; rfl
        have C4 := Lib.hid (list_any 3 v2 (withE 3 ks e) (w0.heap.size + 1) w3 HK3.out)
        clear HR2 HK3
        go_wp2_with fail
        refine (C4.out).mono ?_
        clear C4
        rintro x w5 ⟨A5, c5, rfl, hk5, hb5⟩
        obtain ⟨E, HE⟩ : ∃ E, Hid (E = listE 3 (withE 3 ks e)) := ⟨_, rfl⟩
        rw [← HE.out] at hk5 ⊢
        have HQ5 := Lib.hid (HQ3.out.all hb5)
        have Hr5 := Lib.hid (Hr3.out.all hb5)
        have HB5 : Hid (Bg w0.heap.size g w0 w5) := HB3.out.below (hb5.mono (by omega))
        have hz5 : w0.heap.size < w5.heap.size := HQ5.out.lt
        have HK5 := Lib.hid hk5
        obtain ⟨⟨x0, x1, x2, x3, x4⟩, y0, y1, y2, y3, y4⟩ := Bk.five HQ5.out
        clear hk5 hb5 HQ3 Hr3 HB3
        go_wp2_with fail
        refine pt_ret (e := E) (A := A5) (c := c5) Tryd.results20 rfl (by rw [HR4.out]; rfl) rfl ⟨?_, ?_, ?_, fun y hy => ?_⟩
        · rw [HR4.out]; exact Hr5.out.far5 (by omega) _ _ _ _ _
        · exact HB5.out.set5 (Nat.le_refl _) _ _ _ _ _
        · exact HQ5.out.set5 _ _ _ _ _
        · have z1 : R.1 = some E := by rw [HR4.out, HE.out]
          rw [z1] at hy
          exact ⟨Option.some.inj hy, (HK5.out.far5 (by omega) _ _ _ _ _).later (by omega)⟩
      · have HR4 : Hid (altP s.data.toList it f (withE 3 ks e) j = R) := by show _ = _; rw [HR2.out]; rfl
        have hlt : k1 < j + 1 := by omega
        clear HR2
        go_wp2_with fail
        go_roundg f
        case rel => exact ⟨withE 3 ks e, j, hjs, by omega, by omega, q1, HR4, HK3, Hr3, HB3, HQ3⟩
        case measure => omega

/-- choice -/
theorem choice_any (g : Nat) (s : ByteArray) (hs : s.size ≤ 2000) : ∀ (m i : Nat) (w : World), Rp w g s i → i ≤ s.size → s.size < m + i →
    Calls Tryd.prog 20 #[.pointer (some ⟨g, 0, none⟩)] w (Pt w g s (chP s.data.toList m i))
  | 0, i, w, _, hi, hm => by omega
  | m + 1, i, w, h, hi, hm => by
    have hl := ba_len s
    have hfn : Fine s.size (chP s.data.toList m) := by have := ch_fine s.data.toList m; rwa [hl] at this
    have hmf := many_fine hfn
    rw [chP, hl]
    refine alt_loop g s i w h hi hs _ (fun i' w' h' hi1 hi2 => ?_) (fun i e k hi he => row_fine hl hmf _ [] i i e k (by rw [Ex.wtL]; omega) hi he)
    refine row_loop g s i' w' h' hi2 hs (manyP s.data.toList (chP s.data.toList m)) (fun i2 w2 h2 hj1 hj2 => ?_) hmf
    exact many_any g s i2 (i2 + 1) w2 h2 hj2 (by omega) _ (fun i3 w3 h3 hk1 hk2 => choice_any g s hs m i3 w3 h3 hk2 (by omega)) hfn (by omega)
end Go.Proofs.YtfbcafapnagjfaaDoor
