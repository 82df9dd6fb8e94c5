/- The walk of AttrCalls. -/
import Derived.Test.YtjoogocgklhgpaaAtW
namespace Go.Proofs.Ytjoogocgklhgpaa
open Go.RowKit

theorem beqS_self (s : ByteArray) : (s.toList == s.toList) = true := by simp
theorem beqI_self (a : Int) : (a == a) = true := by simp

set_option maxRecDepth 100000 in
set_option maxHeartbeats 4000000 in
theorem attrCalls_walk (vl vm vp : Value) (l m : List At) (n x : ByteArray) (p : List Sp) (B : Nat) (w : World) (hl : Ats w B vl l) (hm : Ats w B vm m) (hp : Sps w B vp p) (hB : B ≤ w.heap.size)
    (hrl : ReachA l.length) (hrm : ReachA m.length) (hr : Reach p.length) (hx : x.size ≤ maxLen)
    (hs1 : Hid (∀ a ∈ p, a.n.size ≤ maxLen ∧ a.d.size ≤ maxLen)) (hs2 : Hid (∀ a ∈ l, a.n.size ≤ maxLen ∧ a.v.size ≤ maxLen)) :
    Calls Try.prog 5 #[vl, vm, .string n, .string x, vp] w (Yes w) := by
  obtain ⟨Al, cl, rfl⟩ := hl.form
  obtain ⟨Am, cm, rfl⟩ := hm.form
  obtain ⟨Ap, cp, rfl⟩ := hp.form
  unfold ReachA at hrl
  go_enter Try.func5, Try.ntmps5
  go_wp2_with fail
  refine (lives_any w).mono ?_
  rintro e w1 ⟨rfl, B1⟩
  go_wp2_with fail
  refine (get_any _ n l B w1 (hl.below (B1.mono hB)) (Nat.le_trans hB B1.size)).mono ?_
  rintro e w2 ⟨rfl, b2⟩
  have B2 := B1.trans (b2.mono B1.size)
  clear b2 B1
  obtain ⟨g1, hg1⟩ : ∃ g, Hid (g = (getP l n).getD .empty) := ⟨_, rfl⟩
  obtain ⟨g2, hg2⟩ : ∃ g, Hid (g = (getP l n).isSome) := ⟨_, rfl⟩
  rw [← hg1.out, ← hg2.out]
  go_wp2_with fail
  refine (refGet_any _ n l B w2 (hl.below (B2.mono hB))).mono ?_
  rintro e w3 ⟨rfl, rfl⟩
  rw [← hg1.out, ← hg2.out]
  have hs2' := B2.size
  go_wp2_with (at_builtin; refine wpList_appR _ rfl (.tmp 38) (.tmp 39) 22 29 rfl _ 2 32 Try.underlying22 infoAt rfl (by decide) w.heap.size rfl rfl (World.ownsRow_lit w2 #[] 0 hs2' (by omega) rfl) (Ats.below ((hl.mono hB).below B2) ((Below.refl _ _).alloc hs2' _)) (atC_one l) ?_ ?_ ?_ ?_)
  · unfold maxLen; omega
  · omega
  · simp; omega
  intro v3 w3 hown hg _
  have o3 : Hid (w3.ownsRow w.heap.size 29 2 v3 l.length (atC l)) := by show World.ownsRow _ _ _ _ _ _ _; simpa using hown
  have B3 : Below w.heap.size w w3 := (B2.alloc hs2' _).grown hg (by simp; omega) (by simp [Value.ownBlock]; omega)
  clear hown hg B2 hs2'
  go_wp2_with fail
  refine (set_any v3 n x l w3.heap.size w3 (Ats.own o3.out) (Nat.le_refl _)).mono ?_
  rintro e w4 ⟨v4, rfl, o4, b4⟩
  have o4 := Lib.hid o4
  have o3' := Lib.hid (own_all o3.out b4)
  have B4 := B3.trans (b4.mono B3.size)
  clear b4 B3 o3
  obtain ⟨e1, he1⟩ : ∃ g, Hid (g = setE l n x) := ⟨_, rfl⟩
  rw [← he1.out]
  go_wp2_with fail
  refine (refSet_any _ n x l B w4 (hl.below (B4.mono hB)) (Nat.le_trans hB B4.size) hs2 hx).mono ?_
  rintro e w5 ⟨v5, rfl, o5, b5⟩
  rw [← he1.out]
  have o5 := Lib.hid o5
  have o4' := Lib.hid (own_all o4.out b5)
  have o3 := Lib.hid (own_all o3'.out b5)
  have B5 := B4.trans (b5.mono B4.size)
  clear b5 B4 o3' o4
  go_wp2_with fail
  refine (fill_any _ _ p l B w5 (hp.below (B5.mono hB)) (hl.below (B5.mono hB)) (Nat.le_trans hB B5.size) hr).mono ?_
  rintro e w6 ⟨v6, rfl, o6, b6⟩
  have o6 := Lib.hid o6
  have o5' := Lib.hid (own_all o5.out b6)
  have o4 := Lib.hid (own_all o4'.out b6)
  have o3' := Lib.hid (own_all o3.out b6)
  have B6 := B5.trans (b6.mono B5.size)
  clear b6 B5 o3 o4' o5
  obtain ⟨e2, he2⟩ : ∃ g, Hid (g = fillE p l) := ⟨_, rfl⟩
  rw [← he2.out]
  go_wp2_with fail
  refine (refFill_any _ _ p l B w6 (hp.below (B6.mono hB)) (hl.below (B6.mono hB)) (Nat.le_trans hB B6.size) hr hs1 hs2).mono ?_
  rintro e w7 ⟨v7, rfl, o7, b7⟩
  rw [← he2.out]
  have o7 := Lib.hid o7
  have o6' := Lib.hid (own_all o6.out b7)
  have o5 := Lib.hid (own_all o5'.out b7)
  have o4' := Lib.hid (own_all o4.out b7)
  have o3 := Lib.hid (own_all o3'.out b7)
  have B7 := B6.trans (b7.mono B6.size)
  clear b7 B6 o3' o4 o5' o6
  have q1 := beqS_self g1
  have q2 := beqB_self g2
  have q3 := beqI_self e1
  have q4 := beqI_self e2
  go_wp2_with fail
  refine (attrs_any _ _ l l w7.heap.size w7 (Ats.own o3.out) (((hl.mono hB).below B7).mono B7.size) (Nat.le_refl _)).mono ?_
  rintro e w8 ⟨rfl, b8⟩
  rw [eqA_self]
  have o7' := Lib.hid (own_all o7.out b8)
  have o6 := Lib.hid (own_all o6'.out b8)
  have o5' := Lib.hid (own_all o5.out b8)
  have o4 := Lib.hid (own_all o4'.out b8)
  have B8 := B7.trans (b8.mono B7.size)
  clear b8 B7 o3 o4' o5 o6' o7
  go_wp2_with fail
  refine (attrs_any _ _ (setL l n x) (setL l n x) w8.heap.size w8 (Ats.own o4.out) (Ats.own o5'.out) (Nat.le_refl _)).mono ?_
  rintro e w9 ⟨rfl, b9⟩
  rw [eqA_self]
  have o7 := Lib.hid (own_all o7'.out b9)
  have o6' := Lib.hid (own_all o6.out b9)
  have B9 := B8.trans (b9.mono B8.size)
  clear b9 B8 o4 o5' o6 o7'
  go_wp2_with fail
  refine (attrs_any _ _ (fillL p l) (fillL p l) w9.heap.size w9 (Ats.own o6'.out) (Ats.own o7.out) (Nat.le_refl _)).mono ?_
  rintro e w10 ⟨rfl, b10⟩
  rw [eqA_self]
  have B10 := B9.trans (b10.mono B9.size)
  clear b10 B9 o6' o7
  obtain ⟨f, hf⟩ : ∃ g, Hid (g = fitB p l) := ⟨_, rfl⟩
  have q5 := beqB_self f
  go_wp2_with fail
  refine (fits_any _ _ p l B w10 (hp.below (B10.mono hB)) (hl.below (B10.mono hB)) (Nat.le_trans hB B10.size) hr).mono ?_
  rintro e w11 ⟨rfl, b11⟩
  rw [← hf.out]
  have B11 := B10.trans (b11.mono B10.size)
  clear b11 B10
  go_wp2_with fail
  refine (refFits_any _ _ p l B w11 (hp.below (B11.mono hB)) (hl.below (B11.mono hB)) (Nat.le_trans hB B11.size) hr hs1 hs2).mono ?_
  rintro e w12 ⟨rfl, b12⟩
  rw [← hf.out]
  have B12 := B11.trans (b12.mono B11.size)
  clear b12 B11
  obtain ⟨c, hc⟩ : ∃ g, Hid (g = cmpG l m) := ⟨_, rfl⟩
  have q6 := beqI_self c
  go_wp2_with fail
  refine (compare_any _ _ l m B w12 (hl.below (B12.mono hB)) (hm.below (B12.mono hB)) (Nat.le_trans hB B12.size) hrl hrm).mono ?_
  rintro e w13 ⟨rfl, b13⟩
  rw [← hc.out]
  have B13 := B12.trans (b13.mono B12.size)
  clear b13 B12
  go_wp2_with fail
  refine (refCompare_any _ _ l m B w13 (hl.below (B13.mono hB)) (hm.below (B13.mono hB)) (Nat.le_trans hB B13.size)).mono ?_
  rintro e w14 ⟨rfl, b14⟩
  rw [← hc.out]
  have B14 := B13.trans (b14.mono B13.size)
  go_wp2
  go_ret
  exact ⟨rfl, B14⟩
end Go.Proofs.Ytjoogocgklhgpaa
