/- The walks of AttrOrder and AttrFills. -/
import Derived.Test.YtjoogocgklhgpaaAtZ
namespace Go.Proofs.Ytjoogocgklhgpaa
open Go.RowKit

set_option maxRecDepth 100000 in
set_option maxHeartbeats 2000000 in
theorem attrOrder_walk (va vb vc : Value) (a b c : List At) (B : Nat) (w : World) (ha : Ats w B va a) (hb : Ats w B vb b) (hc : Ats w B vc c) (hB : B ≤ w.heap.size) (hra : ReachA a.length) (hrb : ReachA b.length) (hrc : ReachA c.length) :
    Calls Try.prog 7 #[va, vb, vc] w (Yes w) := by
  obtain ⟨Aa, ca, rfl⟩ := ha.form
  obtain ⟨Ab, cb, rfl⟩ := hb.form
  obtain ⟨Ac, cc, rfl⟩ := hc.form
  go_enter Try.func7, Try.ntmps7
  go_wp2_with fail
  refine (lives_any w).mono ?_
  rintro e w1 ⟨rfl, B1⟩
  go_wp2_with fail
  refine (compare_any _ _ a b B w1 (ha.below (B1.mono hB)) (hb.below (B1.mono hB)) (Nat.le_trans hB B1.size) hra hrb).mono ?_
  rintro e w2 ⟨rfl, b2⟩
  have B2 := B1.trans (b2.mono B1.size)
  clear b2 B1
  go_wp2_with fail
  refine (compare_any _ _ b c B w2 (hb.below (B2.mono hB)) (hc.below (B2.mono hB)) (Nat.le_trans hB B2.size) hrb hrc).mono ?_
  rintro e w3 ⟨rfl, b3⟩
  have B3 := B2.trans (b3.mono B2.size)
  clear b3 B2
  go_wp2_with fail
  refine (compare_any _ _ a c B w3 (ha.below (B3.mono hB)) (hc.below (B3.mono hB)) (Nat.le_trans hB B3.size) hra hrc).mono ?_
  rintro e w4 ⟨rfl, b4⟩
  have B4 := B3.trans (b4.mono B3.size)
  clear b4 B3
  obtain ⟨x, hx⟩ : ∃ x, Hid (x = cmpG a b) := ⟨_, rfl⟩
  obtain ⟨y, hy⟩ : ∃ y, Hid (y = cmpG b c) := ⟨_, rfl⟩
  obtain ⟨z, hz⟩ : ∃ z, Hid (z = cmpG a c) := ⟨_, rfl⟩
  rw [← hx.out, ← hy.out, ← hz.out]
  go_wp2_with fail
  refine (compare_any _ _ b a B w4 (hb.below (B4.mono hB)) (ha.below (B4.mono hB)) (Nat.le_trans hB B4.size) hrb hra).mono ?_
  rintro e w5 ⟨rfl, b5⟩
  have B5 := B4.trans (b5.mono B4.size)
  clear b5 B4
  rw [cmpG_neg a b, ← hx.out]
  have hx3 : x = -1 ∨ x = 0 ∨ x = 1 := by rw [hx.out]; exact cmpG_tri a b
  have hy3 : y = -1 ∨ y = 0 ∨ y = 1 := by rw [hy.out]; exact cmpG_tri b c
  have hz3 : z = -1 ∨ z = 0 ∨ z = 1 := by rw [hz.out]; exact cmpG_tri a c
  have h1 : x ≤ 0 → y ≤ 0 → z ≤ 0 := by rw [hx.out, hy.out, hz.out]; exact cmpG_le a b c
  have h2 : 0 ≤ x → 0 ≤ y → 0 ≤ z := by
    intro h h'
    have := cmpG_le c b a (by rw [cmpG_neg b c, ← hy.out]; omega) (by rw [cmpG_neg a b, ← hx.out]; omega)
    rw [cmpG_neg a c, ← hz.out] at this
    omega
  have he : Hid (eqA a b = (x == 0)) := by
    show _ = _
    rw [Bool.eq_iff_iff, eqA_iff, beq_iff_eq, hx.out, cmpG_0]
  have H1 := Lib.hid h1
  have H2 := Lib.hid h2
  clear h1 h2
  rcases hx3 with rfl | rfl | rfl
  all_goals
    go_wp2_with fail
    refine (attrs_any _ _ a b B w5 (ha.below (B5.mono hB)) (hb.below (B5.mono hB)) (Nat.le_trans hB B5.size)).mono ?_
    rintro e w6 ⟨rfl, b6⟩
    rw [he.out]
    have B6 := B5.trans (b6.mono B5.size)
    clear b6
    rcases hy3 with rfl | rfl | rfl <;> rcases hz3 with rfl | rfl | rfl <;>
      first
        | (exfalso; have := H1.out; have := H2.out; omega)
        | (go_wp2; go_ret; exact ⟨rfl, B6⟩)

set_option maxRecDepth 100000 in
set_option maxHeartbeats 2000000 in
theorem attrFills_walk (vp vl : Value) (p : List Sp) (l : List At) (B : Nat) (w : World) (hp : Sps w B vp p) (hl : Ats w B vl l) (hB : B ≤ w.heap.size) (hr : Reach p.length) :
    Calls Try.prog 6 #[vp, vl] w (Yes w) := by
  obtain ⟨Ap, cp, rfl⟩ := hp.form
  obtain ⟨Al, cl, rfl⟩ := hl.form
  go_enter Try.func6, Try.ntmps6
  go_wp2_with fail
  refine (lives_any w).mono ?_
  rintro e w1 ⟨rfl, B1⟩
  go_wp2_with fail
  refine (fill_any _ _ p l B w1 (hp.below (B1.mono hB)) (hl.below (B1.mono hB)) (Nat.le_trans hB B1.size) hr).mono ?_
  rintro e w2 ⟨v2, rfl, o2, b2⟩
  have B2 := B1.trans (b2.mono B1.size)
  clear b2 B1
  by_cases h0 : fillE p l = 0
  · have hm := Lib.hid (filled_ok h0)
    have hal : Hid (∀ i (hi : i < l.length), getP (p.map (one l)) l[i].n = some l[i].v) := fun i hi => filled_all h0 hi
    have hag := Lib.hid (filled_again h0)
    have hfit := Lib.hid (filled_fits h0)
    have hl8 := checkN_len (fill0 h0).2.1
    rw [fillL_0 h0] at o2
    rw [h0]
    clear h0
    obtain ⟨a, ha⟩ : ∃ a, Hid (a = p.map (one l)) := ⟨_, rfl⟩
    have hlen : a.length = p.length := by rw [ha.out, List.length_map]
    rw [← ha.out] at o2 hal hag hfit hm
    have hs2 := B2.size
    obtain ⟨A2, c2, rfl⟩ := own_form o2
    have o2 := Lib.hid o2
    have HLN := Lib.hid hlen
    clear hm hlen
    go_wp2_with fail
    refine (fill_any _ _ p a w2.heap.size w2 ((hp.mono hB).below B2 |>.mono hs2) (Ats.own o2.out) (Nat.le_refl _) hr).mono ?_
    rintro e w3 ⟨v3, rfl, o3, b3⟩
    rw [hag.out.1]
    rw [hag.out.2] at o3
    have B3 := B2.trans (b3.mono hs2)
    have o2' := Lib.hid (own_all o2.out b3)
    have o3 := Lib.hid o3
    have hs3 := B3.size
    clear b3 B2 o2
    go_wp2
    go_loopw [9] (fun i wr => ∃ k : Nat, k ≤ l.length ∧ i = .int .i64 k ∧ Below w3.heap.size w3 wr) (fun i _ => l.length - (intOf i).toNat)
    case atStart => exact ⟨0, Nat.zero_le _, rfl, Below.refl _ _⟩
    case round =>
      obtain ⟨k, hk, rfl, hb⟩ := hrel
      have hsb := hb.size
      have Bk := B3.trans (hb.mono hs3)
      have oa := Lib.hid (own_all o2'.out hb)
      by_cases hlt : k < l.length
      · obtain ⟨bl, offl, rfl, hblB, hcll, hl0, hl1⟩ := (hl.below (Bk.mono hB)).at hlt
        have hg := Lib.hid (hal.out k hlt)
        go_wp2_with fail
        refine (get_any _ l[k].n a wr.heap.size wr (Ats.own oa.out) (Nat.le_refl _)).mono ?_
        rintro e w5 ⟨rfl, b5⟩
        rw [hg.out]
        have hl1' := (b5.cell (p := ⟨bl, offl + k * 2 + 1, none⟩) (by show bl < _; omega)).trans hl1
        have hb5 := hb.trans (b5.mono hsb)
        simp only [Option.getD_some, Option.isSome_some]
        clear b5 oa
        go_wp2
        go_roundw
        case rel => exact ⟨k + 1, by omega, by go_num, hb5⟩
        case measure => simp [intOf]; omega
      · go_wp2_with fail
        refine (attrs_any _ _ a a wr.heap.size wr (Ats.own oa.out) (Ats.own (own_all o3.out hb)) (Nat.le_refl _)).mono ?_
        rintro e w5 ⟨rfl, b5⟩
        rw [eqA_self]
        have ob := Lib.hid (own_all oa.out b5)
        have B5 := Bk.trans (b5.mono Bk.size)
        have hs5 := B5.size
        clear b5 Bk oa
        go_wp2_with fail
        refine (fits_any _ _ p a w5.heap.size w5 ((hp.mono hB).below B5 |>.mono hs5) (Ats.own ob.out) (Nat.le_refl _) hr).mono ?_
        rintro e w6 ⟨rfl, b6⟩
        rw [hfit.out]
        have B6 := B5.trans (b6.mono hs5)
        have hlen' : ((a.length : Int) == (p.length : Int)) = true := beq_iff_eq.2 (by have := HLN.out; omega)
        clear b6 ob
        go_wp2
        go_ret
        exact ⟨rfl, B6⟩
  · rw [fillL_n h0] at o2
    generalize fillE p l = c at *
    have h0' : (c != 0) = true := by rw [bne_iff_ne]; exact h0
    obtain ⟨A2, c2, rfl⟩ := own_form o2
    simp only [List.length_nil]
    clear o2
    go_wp2
    go_ret
    exact ⟨rfl, B2⟩
end Go.Proofs.Ytjoogocgklhgpaa
