/- WireSees: the walk. -/
import Derived.Test.YtnnimiemmgakcaaLives
import Derived.Test.YtnnimiemmgakcaaBits
namespace Go.Proofs.Ytnnimiemmgakcaa
open Go.RowKit

/-- what Pick answers: a number below m -/
def Picks (w : World) (m : Nat) (e : Ending) (w' : World) : Prop := ∃ k : Nat, e = .returned (.int .i64 (k : Int)) ∧ k < m ∧ w = w'

set_option maxRecDepth 100000 in
set_option maxHeartbeats 400000 in
theorem pick_any (n : Int) (m : Nat) (w : World) (hm : 0 < m) (hm2 : m ≤ 1000000000) :
    Calls Try.prog 25 #[.int .i64 n, .int .i64 (m : Int)] w (Picks w m) := by
  by_cases hn : 0 ≤ n
  · have hlt : n % (m : Int) < (m : Int) := Int.emod_lt_of_pos _ (by omega)
    have hge : 0 ≤ n % (m : Int) := Int.emod_nonneg _ (by omega)
    obtain ⟨k, hk⟩ : ∃ k : Nat, n % (m : Int) = (k : Int) := ⟨(n % (m : Int)).toNat, by omega⟩
    go_enter Try.func25, Try.ntmps25
    go_wp2
    go_ret
    exact ⟨k, ret_int hk, by omega, rfl⟩
  · have hneg : n = -((-n).toNat : Int) := by omega
    have ht : n.tmod (m : Int) = -((((-n).toNat % m : Nat) : Int)) := by
      rw [hneg, Int.neg_tmod, Int.tmod_eq_emod_of_nonneg (by omega)]
      simp
    have hlt := Nat.mod_lt (-n).toNat hm
    have h1 : -(m : Int) < n.tmod (m : Int) := by omega
    have h2 : n.tmod (m : Int) ≤ 0 := by omega
    have Ht := Lib.hid ht
    clear ht hneg
    by_cases h0 : n.tmod (m : Int) < 0
    · go_enter Try.func25, Try.ntmps25
      go_wp2
      go_ret
      exact ⟨(n.tmod (m : Int) + m).toNat, ret_int (by omega), by omega, rfl⟩
    · go_enter Try.func25, Try.ntmps25
      go_wp2
      go_ret
      exact ⟨0, ret_int (by omega), by omega, rfl⟩

theorem tm_odd {D : Nat} (h : D % 2 = 1) : ((D : Int).tmod 2 == 1) = true := by
  rw [Int.tmod_eq_emod_of_nonneg (by omega), beq_iff_eq]; omega
theorem tm_even {D : Nat} (h : ¬ D % 2 = 1) : ((D : Int).tmod 2 == 1) = false := by
  rw [Int.tmod_eq_emod_of_nonneg (by omega), beq_eq_false_iff_ne]; omega

theorem flip_byte (c : UInt8) (r : Nat) (hr : r < 8) : ∃ u : UInt8, u.toNat = c.toNat ^^^ 2 ^ r ∧ bits .xor .u8 (c.toNat : Int) ((2 : Int) ^ r % 256) = (u.toNat : Int) := by
  have hc := c.toNat_lt
  have hp : (2 : Nat) ^ r < 2 ^ 8 := Nat.pow_lt_pow_right (by decide) hr
  have e0 : (2 : Int) ^ r = ((2 ^ r : Nat) : Int) := by rw [Int.natCast_pow]; rfl
  rw [e0]
  generalize (2 : Nat) ^ r = p at hp
  have hx : c.toNat ^^^ p < 2 ^ 8 := Nat.xor_lt_two_pow (by omega) hp
  have ht : (UInt8.ofNat (c.toNat ^^^ p)).toNat = c.toNat ^^^ p := by rw [UInt8.toNat_ofNat']; exact Nat.mod_eq_of_lt hx
  refine ⟨UInt8.ofNat (c.toNat ^^^ p), ht, ?_⟩
  have e1 : ((p : Int) % 256) = (p : Int) := by omega
  rw [e1, u8_xor_nat _ _ (by omega) (by omega), ht]

set_option maxRecDepth 100000 in
set_option maxHeartbeats 1000000 in
theorem wireSees_walk (v : Value) (l : List UInt8) (b : Nat) (at_ : Int) (ch : Nat) (w : World) (hv : Bs w b v l) (hch : ch < 2 ^ 32) :
    Calls Try.prog 7 #[v, .int .i64 at_, .int .u32 (ch : Int)] w (Yes w) := by
  obtain ⟨A, cap, hA⟩ : ∃ A cap, v = .slice A l.length cap := by obtain ⟨A, cap, h, _⟩ := hv; exact ⟨A, cap, h⟩
  subst hA
  have Hch := Lib.hid hch
  clear hch
  go_enter Try.func7, Try.ntmps7
  go_wp2_with fail
  refine (lives_any w).mono ?_
  rintro e w1 ⟨rfl, B1⟩
  have hv := hv.all B1
  by_cases h1 : 5000 < l.length
  · go_wp2
    go_ret
    exact ⟨rfl, B1⟩
  by_cases h2 : l.length < 5
  · go_wp2
    go_ret
    exact ⟨rfl, B1⟩
  by_cases h3 : ch = 0
  · have h3' : ((ch : Int) == 0) = true := beq_iff_eq.2 (by omega)
    clear h3
    go_wp2
    go_ret
    exact ⟨rfl, B1⟩
  have h3' : ((ch : Int) == 0) = false := beq_eq_false_iff_ne.2 (by omega)
  go_wp2_with fail
  refine (own_any _ l b w1 hv (by omega)).mono ?_
  rintro e w2 ⟨v2, rfl, o2, hb⟩
  go_wp2_with fail
  have hm : (((l.length : Int) - 4) * 8) = (((l.length - 4) * 8 : Nat) : Int) := by omega
  rw [hm]
  clear hm
  refine (pick_any at_ ((l.length - 4) * 8) w2 (by omega) (by omega)).mono ?_
  rintro e w3 ⟨k, rfl, hk, rfl⟩
  have hsz := B1.size
  obtain ⟨g, c2, rfl⟩ : ∃ g c2, v2 = .slice (some ⟨g, 0, none⟩) l.length c2 := by
    rcases o2.2 with ⟨_, hn⟩ | ⟨g, c2, cur, h, _⟩
    · omega
    · exact ⟨g, c2, h⟩
  go_wp2_with fail
  go_loopw [9] (fun i wr => ∃ (j : Nat) (xs : List UInt8), j ≤ 32 ∧ i = .int .i64 j ∧ xs.length = l.length ∧ Hid (Ow wr 5 w1.heap.size (.slice (some ⟨g, 0, none⟩) l.length c2) xs) ∧ Below w1.heap.size w1 wr ∧ Hid (big xs = big l ^^^ ch % 2 ^ j * 2 ^ k)) (fun i _ => 32 - (intOf i).toNat)
  case atStart => exact ⟨0, l, by omega, rfl, rfl, o2, hb, by show _ = _; rw [Nat.pow_zero, Nat.mod_one, Nat.zero_mul, Nat.xor_zero]⟩
  case round =>
    obtain ⟨j, xs, hj, rfl, hxl, ho, hbr, hbig⟩ := hrel
    by_cases hj32 : j < 32
    · have hq : (k + j) / 8 < l.length := by omega
      have hd : ((ch : Int) / 2 ^ j) = ((ch / 2 ^ j : Nat) : Int) := by rw [Int.natCast_ediv, Int.natCast_pow]; rfl
      by_cases hodd : ch / 2 ^ j % 2 = 1
      · have ht : (((ch : Int) / 2 ^ j).tmod 2 == 1) = true := by rw [hd]; exact tm_odd hodd
        have Hd := Lib.hid hd
        obtain ⟨c, hc⟩ : ∃ c : UInt8, Hid (c = xs.getD ((k + j) / 8) 0) := ⟨_, rfl⟩
        have hcell : wr.cell? ⟨g, (k + j) / 8, none⟩ = some (.int .u8 (c.toNat : Int)) := by
          have h := World.ownsRow.cellAt (show wr.ownsRow _ _ _ (.slice (some ⟨g, 0, none⟩) l.length c2) l.length (cellsB xs) by have := ho.out; unfold Ow at this; rwa [hxl] at this) ((k + j) / 8) (by omega)
          rw [h, cellsB_get _ _ (by omega), ← hc.out]
        have hfz := World.ownsRow.frozenAt (show wr.ownsRow _ _ _ (.slice (some ⟨g, 0, none⟩) l.length c2) l.length (cellsB xs) by have := ho.out; unfold Ow at this; rwa [hxl] at this) ((k + j) / 8)
        obtain ⟨u, hu, hx⟩ := flip_byte c ((k + j) % 8) (by omega)
        have Hl := Lib.hid (low_succ ch j hodd k)
        have ho' : Hid (Ow (wr.setCell ⟨g, (k + j) / 8, none⟩ (.int .u8 (u.toNat : Int))) 5 w1.heap.size (.slice (some ⟨g, 0, none⟩) l.length c2) (xs.set ((k + j) / 8) u)) := by
          have h := (World.ownsRow.stored (show wr.ownsRow _ _ _ (.slice (some ⟨g, 0, none⟩) l.length c2) l.length (cellsB xs) by have := ho.out; unfold Ow at this; rwa [hxl] at this) ((k + j) / 8) (.int .u8 (u.toNat : Int))).1
          show Ow _ _ _ _ _
          unfold Ow
          rw [List.length_set, hxl]
          have e1 : cellsB (xs.set ((k + j) / 8) u) = (cellsB xs).set ((k + j) / 8) (.int .u8 (u.toNat : Int)) := by simp [cellsB, List.map_set]
          rw [e1]; exact h
        have hgw : w1.heap.size ≤ g := (ho.out.lt g rfl).1
        have hb' : Below w1.heap.size w1 (wr.setCell ⟨g, (k + j) / 8, none⟩ (.int .u8 (u.toNat : Int))) := hbr.setCell (p := ⟨g, (k + j) / 8, none⟩) hgw _
        have hbig' : Hid (big (xs.set ((k + j) / 8) u) = big l ^^^ ch % 2 ^ (j + 1) * 2 ^ k) := by
          show _ = _
          rw [big_set xs _ ((k + j) % 8) u (by omega) (by rw [hu, hc.out]), hbig.out, Hl.out, Nat.xor_assoc]
          congr 2; congr 1; omega
        have hl' : (xs.set ((k + j) / 8) u).length = l.length := by rw [List.length_set]; exact hxl
        have Hl' := Lib.hid hl'
        clear hd hodd hu hl'
        go_wp2
        go_roundw
        case rel => exact ⟨j + 1, _, by omega, by go_num, Hl'.out, ho', hb', hbig'⟩
        case measure => simp [intOf]; omega
      · have ht : (((ch : Int) / 2 ^ j).tmod 2 == 1) = false := by rw [hd]; exact tm_even hodd
        have Hs := Lib.hid (low_same ch j hodd)
        clear hd hodd
        go_wp2
        go_roundw
        case rel => exact ⟨j + 1, xs, by omega, by go_num, hxl, ho, hbr, by show _ = _; rw [Hs.out]; exact hbig.out⟩
        case measure => simp [intOf]; omega
    · have h32 : j = 32 := by omega
      subst h32
      have B2 := B1.trans (hbr.mono hsz)
      have hv' := hv.all hbr
      obtain ⟨cx, obx, _, _⟩ := ho.out.bs
      have hne : Hid ((((sumL xs : Nat) : Int) != ((sumL l : Nat) : Int)) = true) := by
        show _ = _
        rw [bne_iff_ne]
        have := sumL_ne (l := l) (m := xs) (ch := ch) (k := k) hxl.symm (by rw [hbig.out, Nat.mod_eq_of_lt Hch.out]) (by omega) h3 Hch.out
        omega
      go_wp2_with fail
      refine (sum_any _ xs cx wr obx (by omega)).mono ?_
      rintro e w4 ⟨rfl, hb4⟩
      have hv' := hv'.all hb4
      have B3 := B2.trans (hb4.mono B2.size)
      clear hb4 B2 hv hbr hb B1 obx ho o2
      go_wp2_with fail
      refine (own_any _ l b w4 hv' (by omega)).mono ?_
      rintro e w5 ⟨v5, rfl, o5, hb5⟩
      have B4 := B3.trans (hb5.mono B3.size)
      clear hb5 B3 hv'
      obtain ⟨c5, ob5, _, _⟩ := o5.bs
      clear o5
      go_wp2_with fail
      refine (sum_any v5 l c5 w5 ob5 (by omega)).mono ?_
      rintro e w6 ⟨rfl, hb6⟩
      have B5 := B4.trans (hb6.mono B4.size)
      clear hb6 B4 ob5
      have hne := hne.out
      go_wp2
      go_ret
      exact ⟨rfl, B5⟩
end Go.Proofs.Ytnnimiemmgakcaa
