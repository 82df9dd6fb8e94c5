/- YtjajcecenflejaaGreatCz03 -/
import Derived.Test.YtjajcecenflejaaGreatCz02
import Derived.WalkMore
import Derived.LaidEqlPtr
import Derived.Lib.SlicesMore
namespace Go.Proofs.YtjajcecenflejaaGreat
open Go.RowKit
def rdF (x i : Nat) : List UInt8 → Nat × Nat × Nat
  | [] => (0, 0, 5)
  | c :: r =>
    if i = 9 ∧ 1 < c.toNat then (0, 0, 4) else if 0 < i ∧ c.toNat = 0 then (0, 0, 4)
    else if c.toNat < 128 then (x + c.toNat % 128 * 2 ^ (7 * i), i + 1, 0) else rdF (x + c.toNat % 128 * 2 ^ (7 * i)) (i + 1) r
def Told (w : World) (r : Nat × Nat × Nat) (e : Ending) (w' : World) : Prop :=
  ∃ y s : Int, e = .returned (.tuple #[.int .u64 y, .int .i64 s, .int .i64 (r.2.2 : Nat)]) ∧ (r.2.2 = 0 → y = (r.1 : Nat) ∧ s = (r.2.1 : Nat)) ∧ w = w'
theorem acc_small (c k : Nat) (hk : k ≤ 9) (hc : c < 256) (h : k ≤ 8 ∨ c ≤ 1) : c % 128 * 2 ^ (7 * k) < 18446744073709551616 := by
  rcases h with h | h
  · have h1 : c % 128 * 2 ^ (7 * k) ≤ 127 * 2 ^ (7 * k) := Nat.mul_le_mul_right _ (by omega)
    have h2 : (2 : Nat) ^ (7 * k) ≤ 2 ^ 56 := Nat.pow_le_pow_right (by decide) (by omega)
    have h3 : (2 : Nat) ^ 56 = 72057594037927936 := rfl
    omega
  · have h1 : c % 128 * 2 ^ (7 * k) ≤ 1 * 2 ^ (7 * k) := Nat.mul_le_mul_right _ (by omega)
    have h2 : (2 : Nat) ^ (7 * k) ≤ 2 ^ 63 := Nat.pow_le_pow_right (by decide) (by omega)
    have h3 : (2 : Nat) ^ 63 = 9223372036854775808 := rfl
    omega
theorem acc_form (X k : Nat) (c : UInt8) (hX : X < 2 ^ (7 * k)) (hk : k ≤ 9) (h : k ≤ 8 ∨ c.toNat ≤ 1) :
    bits .or .u64 (X : Int) (IntKind.u64.wrap (IntKind.u64.wrap (bits .andNot .u8 (c.toNat : Int) 128) * 2 ^ (7 * k))) = ((X + c.toNat % 128 * 2 ^ (7 * k) : Nat) : Int) := by
  have hc := c.toNat_lt
  have hs := acc_small c.toNat k hk hc h
  have h0 : bits .andNot .u8 (c.toNat : Int) 128 = ((c.toNat % 128 : Nat) : Int) := by
    have := u8_andNot_nat c.toNat 128 (by omega) (by omega)
    rw [show (255 - 128 : Nat) = 127 from rfl, nat_mask7] at this
    exact this
  have h1 : IntKind.u64.wrap ((c.toNat % 128 : Nat) : Int) = ((c.toNat % 128 : Nat) : Int) := IntWalk.u64_in _ ⟨by omega, by omega⟩
  have e1 : ((c.toNat % 128 : Nat) : Int) * 2 ^ (7 * k) = ((c.toNat % 128 * 2 ^ (7 * k) : Nat) : Int) := by
    rw [Int.natCast_mul, Int.natCast_pow]; rfl
  have h2 : IntKind.u64.wrap ((c.toNat % 128 * 2 ^ (7 * k) : Nat) : Int) = ((c.toNat % 128 * 2 ^ (7 * k) : Nat) : Int) := IntWalk.u64_in _ ⟨by omega, by omega⟩
  have hX2 : X < 18446744073709551616 := by
    have h2 : (2 : Nat) ^ (7 * k) ≤ 2 ^ 63 := Nat.pow_le_pow_right (by decide) (by omega)
    have h3 : (2 : Nat) ^ 63 = 9223372036854775808 := rfl
    omega
  rw [h0, h1, e1, h2, u64_or_nat X _ hX2 hs, Nat.or_comm, nat_join (7 * k) _ _ (Nat.mul_mod_left _ _) hX, Nat.add_comm]
theorem acc_lt (X k : Nat) (c : Nat) (hX : X < 2 ^ (7 * k)) : X + c % 128 * 2 ^ (7 * k) < 2 ^ (7 * (k + 1)) := by
  have h1 : (c % 128 + 1) * 2 ^ (7 * k) ≤ 128 * 2 ^ (7 * k) := Nat.mul_le_mul_right _ (by omega)
  have h2 : (2 : Nat) ^ (7 * (k + 1)) = 128 * 2 ^ (7 * k) := by rw [show 7 * (k + 1) = 7 * k + 7 by omega, Nat.pow_add, Nat.mul_comm]
  rw [Nat.add_mul] at h1
  omega
theorem drop_cons' (l : List UInt8) (k : Nat) (hk : k < l.length) : l.drop k = l.getD k 0 :: l.drop (k + 1) := by
  rw [List.drop_eq_getElem_cons hk]; simp [List.getD, hk]
set_option maxRecDepth 100000 in
set_option maxHeartbeats 400000 in
theorem first_any (v : Value) (l : List UInt8) (b : Nat) (w : World) (hv : Bs w b v l) (hl : l.length ≤ 1000000000) :
    Calls Tryz.prog 103 #[v] w (Told w (rdF 0 0 l)) := by
  obtain ⟨A, cap, rfl, hc, hm, hcells⟩ := hv
  go_enter Tryz.func103, Tryz.ntmps103
  go_wp2
  go_step3
  go_wp2
  go_step3
  go_wp2
  go_loop [5, 6, 7, 12] (fun x sz er i => ∃ k X : Nat, k ≤ l.length ∧ k ≤ 9 ∧ i = .int .i64 k ∧ x = .int .u64 X ∧ sz = .int .i64 0 ∧ er = .int .i64 5 ∧ Hid (X < 2 ^ (7 * k)) ∧ Hid (rdF 0 0 l = rdF X k (l.drop k))) (fun _ _ _ i => l.length - (intOf i).toNat)
  case atStart => exact ⟨0, 0, Nat.zero_le _, by omega, rfl, rfl, rfl, rfl, by show _ < _; decide, rfl⟩
  case round =>
    obtain ⟨k, X, hk, hk9, rfl, rfl, rfl, rfl, hX, hr⟩ := hrel
    by_cases hlt : k < l.length
    · rcases hcells with rfl | ⟨off, rfl, _, hcell⟩
      · simp at hlt
      have hck := hcell k _ (cellsB_get l k hlt)
      obtain ⟨c, hcc⟩ : ∃ c : UInt8, l.getD k 0 = c := ⟨_, rfl⟩
      have hsn := drop_cons' l k hlt
      rw [hcc] at hsn hck
      have HS := Lib.hid hsn
      clear hcell hcc hsn
      have hcb := c.toNat_lt
      by_cases h1 : k = 9 ∧ 1 < c.toNat
      · have hf : Hid (rdF 0 0 l = (0, 0, 4)) := by show _ = _; rw [hr.out, HS.out, rdF, if_pos h1]
        obtain ⟨rfl, h1'⟩ := h1
        go_wp2
        go_ret3
        exact ⟨_, _, by rw [hf.out]; rfl, by rw [hf.out]; simp, rfl⟩
      have hacc := Lib.hid (acc_form X k c hX.out hk9 (by omega))
      by_cases h2 : 0 < k ∧ c.toNat = 0
      · have hf : Hid (rdF 0 0 l = (0, 0, 4)) := by show _ = _; rw [hr.out, HS.out, rdF, if_neg h1, if_pos h2]
        obtain ⟨h2a, h2b⟩ := h2
        have h2c : (((c.toNat : Int)) == 0) = true := beq_iff_eq.2 (by omega)
        go_wp2
        all_goals
          go_ret3
          exact ⟨_, _, by rw [hf.out]; rfl, by rw [hf.out]; simp, rfl⟩
      have h2c : 0 < k → (((c.toNat : Int)) == 0) = false := fun h => beq_eq_false_iff_ne.2 (by omega)
      by_cases h3 : c.toNat < 128
      · have hf : Hid (rdF 0 0 l = (X + c.toNat % 128 * 2 ^ (7 * k), k + 1, 0)) := by show _ = _; rw [hr.out, HS.out, rdF, if_neg h1, if_neg h2, if_pos h3]
        by_cases h9 : (k : Int) = 9
        · have hc1 : (c.toNat : Int) ≤ 1 := by omega
          have h2d := h2c (by omega)
          have hkp : 0 < k := by omega
          have h9' : ((k : Int) == 9) = true := beq_iff_eq.2 h9
          have H9 := Lib.hid h9
          clear h9 h1 h2 h2c
          go_wp2
          go_ret3
          exact ⟨_, _, by rw [hf.out]; rfl, by rw [hf.out]; exact fun _ => ⟨hacc.out, by simp⟩, rfl⟩
        · have h9' : ((k : Int) == 9) = false := beq_eq_false_iff_ne.2 h9
          by_cases hkp : 0 < k
          · have h2d := h2c (by omega)
            clear h9 h1 h2 h2c
            go_wp2
            go_ret3
            exact ⟨_, _, by rw [hf.out]; rfl, by rw [hf.out]; exact fun _ => ⟨hacc.out, by simp⟩, rfl⟩
          · clear h9 h1 h2 h2c
            go_wp2
            go_ret3
            exact ⟨_, _, by rw [hf.out]; rfl, by rw [hf.out]; exact fun _ => ⟨hacc.out, by simp⟩, rfl⟩
      · have hf : Hid (rdF 0 0 l = rdF (X + c.toNat % 128 * 2 ^ (7 * k)) (k + 1) (l.drop (k + 1))) := by show _ = _; rw [hr.out, HS.out, rdF, if_neg h1, if_neg h2, if_neg h3]
        have h9' : ((k : Int) == 9) = false := beq_eq_false_iff_ne.2 (by omega)
        have hlt' : Hid (X + c.toNat % 128 * 2 ^ (7 * k) < 2 ^ (7 * (k + 1))) := acc_lt X k c.toNat hX.out
        have hk8 : k ≤ 8 := by omega
        by_cases hkp : 0 < k
        all_goals
          have h2d := h2c
          clear h1 h2 h2c
          go_wp2
          go_round
          case rel => exact ⟨k + 1, _, by omega, by omega, by go_num, by rw [hacc.out], rfl, rfl, hlt', hf⟩
          case measure => simp [intOf]; omega
    · have hf : Hid (rdF 0 0 l = (0, 0, 5)) := by show _ = _; rw [hr.out, List.drop_eq_nil_of_le (by omega)]; rfl
      go_wp2
      go_ret3
      exact ⟨_, _, by rw [hf.out]; rfl, by rw [hf.out]; simp, rfl⟩
end Go.Proofs.YtjajcecenflejaaGreat
namespace Go.Proofs.YtjajcecenflejaaGreat
open Go.RowKit
def Rdr (w : World) (g b : Nat) (l : List UInt8) (n : Nat) : Prop :=
  ∃ v, Bk w g 159 #[.pointer (some ⟨g, 0, none⟩), v, .int .i64 (n : Int)] ∧ Bs w b v l ∧ b ≠ g
theorem Rdr.all {w w' : World} {g b : Nat} {l : List UInt8} {n : Nat} (h : Rdr w g b l n) (hb : Below w.heap.size w w') : Rdr w' g b l n := by
  obtain ⟨v, h1, h2, h3⟩ := h
  exact ⟨v, h1.all hb, h2.all hb, h3⟩
theorem Rdr.other {w w' : World} {g b k : Nat} {l : List UInt8} {n : Nat} (h : Rdr w g b l n) (hg : w.grownBy w' (some k)) (h1 : g ≠ k) (h2 : b ≠ k ∨ l = []) : Rdr w' g b l n := by
  obtain ⟨v, h3, h4, h5⟩ := h
  exact ⟨v, h3.grown hg (by simpa using h1), h4.grown hg (h2.imp (by simp) id), h5⟩
theorem Rdr.lt {w : World} {g b : Nat} {l : List UInt8} {n : Nat} (h : Rdr w g b l n) : g < w.heap.size := by
  obtain ⟨v, h1, _⟩ := h
  exact h1.lt
set_option maxRecDepth 100000 in
set_option maxHeartbeats 400000 in
theorem clone_any (v : Value) (l : List UInt8) (b : Nat) (w : World) (hv : Bs w b v l) (hl : l.length ≤ 1000000000) :
    Calls Tryz.prog 45 #[v] w (Makes 5 w l) := by
  have hv' := hv
  obtain ⟨A, cap, rfl, hc, hm, hcells⟩ := hv
  have hn := fun w => Lib.run_eql_slice_nil (P := Tryz.prog) w 36 5 A l.length cap 0 0 Tryz.underlying36
  go_enter Tryz.func45, Tryz.ntmps45
  have hown : Ow (w.alloc (.cells #[] 5)) 5 w.heap.size (.slice (some ⟨w.heap.size, 0, none⟩) 0 0) [] := Ow.lit w _ _ [] #[] 0 (Nat.le_refl _) rfl (by omega) rfl
  cases A with
  | none =>
    have : l = [] := by
      rcases hcells with h | ⟨_, h, _⟩
      · exact h
      · cases h
    subst this
    simp only [List.length_nil] at hn ⊢
    clear hown
    go_wp2
    go_ret
    exact ⟨_, rfl, Ow.nil _ _ _, Below.refl _ _⟩
  | some ad =>
    go_wp2_with (at_builtin; refine wpList_app _ rfl _ _ _ _ rfl Tryz.underlying36 infoB w.heap.size rfl rfl hown (hv'.alloc _) ?_ ?_ ?_)
    · simp; omega
    · simp
    intro v3 w3 ho3 hg3 _
    have hb3 : Below w.heap.size w w3 := ((Below.refl _ w).alloc (Nat.le_refl _) _).grown hg3 (by simp) (fun k hk => (hown.lt k hk).1)
    clear hg3 hown hv' hcells hn
    go_wp2
    go_ret
    exact ⟨_, rfl, ho3, hb3⟩
theorem infoR : ∃ j, Tryz.prog.info? 159 = some j := by
  have h : (Tryz.prog.info? 159).isSome = true := by kernel_rfl
  exact Option.isSome_iff_exists.1 h
set_option maxRecDepth 100000 in
set_option maxHeartbeats 400000 in
theorem made_any (g b : Nat) (l : List UInt8) (n : Nat) (w : World) (h : Rdr w g b l n) :
    Calls Tryz.prog 102 #[.pointer (some ⟨g, 0, none⟩)] w fun e w' => e = .returned (.bool true) ∧ w = w' := by
  obtain ⟨v, h1, h2, h3⟩ := h
  obtain ⟨j, hj⟩ := infoR
  have hc := h1.cell 0
  simp at hc
  have he := run_eql_ptr_same (P := Tryz.prog) w ⟨g, 0, none⟩ Tryz.underlying107 hj
  go_enter Tryz.func102, Tryz.ntmps102
  go_wp2
  go_ret
  exact ⟨rfl, rfl⟩
set_option maxRecDepth 100000 in
set_option maxHeartbeats 400000 in
theorem err_any (g b : Nat) (l : List UInt8) (n : Nat) (w : World) (h : Rdr w g b l n) :
    Calls Tryz.prog 87 #[.pointer (some ⟨g, 0, none⟩)] w fun e w' => e = .returned (.int .i64 (n : Int)) ∧ w = w' := by
  have hh := h
  obtain ⟨v, h1, h2, h3⟩ := h
  have hc := h1.cell 2
  simp at hc
  go_enter Tryz.func87, Tryz.ntmps87
  go_wp2_with fail
  refine (made_any g b l n w hh).mono ?_
  rintro e w' ⟨rfl, rfl⟩
  go_wp2
  go_ret
  exact ⟨rfl, rfl⟩
set_option maxRecDepth 100000 in
set_option maxHeartbeats 400000 in
theorem end_any (g b : Nat) (l : List UInt8) (n : Nat) (w : World) (h : Rdr w g b l n) :
    Calls Tryz.prog 83 #[.pointer (some ⟨g, 0, none⟩)] w fun e w' => e = .returned (.int .i64 (if n ≠ 0 then (n : Int) else if 0 < l.length then 4 else 0)) ∧ w = w' := by
  have hh := h
  obtain ⟨v, h1, h2, h3⟩ := h
  obtain ⟨A, cap, rfl, hc, hm, hcells⟩ := h2
  have hc := h1.cell 1
  simp at hc
  go_enter Tryz.func83, Tryz.ntmps83
  go_wp2_with fail
  refine (err_any g b l n w hh).mono ?_
  rintro e w' ⟨rfl, rfl⟩
  by_cases h0 : n = 0
  · subst h0
    by_cases hl : 0 < l.length
    · go_wp2
      go_ret
      exact ⟨by simp, rfl⟩
    · go_wp2
      go_ret
      exact ⟨by simp, rfl⟩
  · have hb : ((n : Int) != 0) = true := by rw [bne_iff_ne]; omega
    go_wp2
    go_ret
    exact ⟨by simp, rfl⟩
def NewR (w : World) (l : List UInt8) (e : Ending) (w' : World) : Prop := ∃ g b, e = .returned (.pointer (some ⟨g, 0, none⟩)) ∧ Rdr w' g b l 0 ∧ Below w.heap.size w w' ∧ w.heap.size ≤ g ∧ w.heap.size ≤ b ∧ (b < w'.heap.size ∨ l = [])
set_option maxRecDepth 100000 in
set_option maxHeartbeats 400000 in
theorem new_any (v : Value) (l : List UInt8) (b : Nat) (w : World) (hv : Bs w b v l) (hl : l.length ≤ 1000000000) :
    Calls Tryz.prog 47 #[v] w (NewR w l) := by
  go_enter Tryz.func47, Tryz.ntmps47
  go_wp2_with fail
  refine (clone_any v l b w hv hl).mono ?_
  rintro e w1 ⟨v1, rfl, ho, hb⟩
  obtain ⟨b1, hb1, hge, hblk⟩ := ho.bs
  have hne : l = [] ∨ b1 < w1.heap.size := by
    obtain ⟨A, cap, _, _, _, h⟩ := hb1
    rcases h with h | ⟨_, _, h, _⟩
    · exact .inl h
    · exact .inr h
  obtain ⟨A, cap, rfl⟩ := ho.form
  have hsz := hb.size
  clear ho
  go_wp2
  go_ret
  have hbk : Bk (w1.alloc (.cells #[.pointer (some ⟨w1.heap.size, 0, none⟩), .slice A l.length cap, .int .i64 0] 159)) w1.heap.size 159 #[.pointer (some ⟨w1.heap.size, 0, none⟩), .slice A l.length cap, .int .i64 0] := Bk.new _ _ _
  rcases hne with rfl | hlt
  · exact ⟨_, w1.heap.size + 1, rfl, ⟨_, hbk, ((hb1.alloc _).grown (row := none) (World.grownBy.refl _ _) (.inr rfl)).empty _, by omega⟩, hb.alloc hsz _, hsz, by omega, .inr rfl⟩
  · exact ⟨_, b1, rfl, ⟨_, hbk, hb1.alloc _, by omega⟩, hb.alloc hsz _, hsz, hge, .inl (by simp; omega)⟩
end Go.Proofs.YtjajcecenflejaaGreat
namespace Go.Proofs.YtjajcecenflejaaGreat
open Go.RowKit
theorem rdF_ok : ∀ (l : List UInt8) (x i : Nat), x < 2 ^ (7 * i) → i ≤ 9 → (rdF x i l).2.2 = 0 → i < (rdF x i l).2.1 ∧ (rdF x i l).2.1 ≤ i + l.length ∧ U64 (rdF x i l).1
  | [], _, _, _, _, h => by simp [rdF] at h
  | c :: r, x, i, hx, hi, h => by
    rw [rdF] at h ⊢
    by_cases h1 : i = 9 ∧ 1 < c.toNat
    · rw [if_pos h1] at h; simp at h
    by_cases h2 : 0 < i ∧ c.toNat = 0
    · rw [if_neg h1, if_pos h2] at h; simp at h
    by_cases h3 : c.toNat < 128
    · rw [if_neg h1, if_neg h2, if_pos h3]
      refine ⟨by simp, by simp, ?_⟩
      have hc := c.toNat_lt
      have hs := acc_small c.toNat i hi hc (by omega)
      have hl := acc_lt x i c.toNat hx
      unfold U64
      by_cases h8 : i ≤ 8
      · have : (2 : Nat) ^ (7 * (i + 1)) ≤ 2 ^ 63 := Nat.pow_le_pow_right (by decide) (by omega)
        have h3 : (2 : Nat) ^ 63 = 9223372036854775808 := rfl
        show x + c.toNat % 128 * 2 ^ (7 * i) < _
        omega
      · obtain rfl : i = 9 := by omega
        have h3 : (2 : Nat) ^ (7 * 9) = 9223372036854775808 := rfl
        show x + c.toNat % 128 * 2 ^ (7 * 9) < _
        rw [h3] at hx ⊢
        have : c.toNat % 128 ≤ 1 := by omega
        omega
    · rw [if_neg h1, if_neg h2, if_neg h3] at h ⊢
      have ih := rdF_ok r _ (i + 1) (acc_lt x i c.toNat hx) (by omega) h
      exact ⟨by omega, by simp; omega, ih.2.2⟩
def rdP (l : List UInt8) : List UInt8 × Nat × Nat :=
  if (rdF 0 0 l).2.2 ≠ 0 then ([], 0, (rdF 0 0 l).2.2) else if 1048576 < (rdF 0 0 l).1 then ([], 0, 3)
  else if l.length < (rdF 0 0 l).2.1 + (rdF 0 0 l).1 then ([], 0, 5) else ((l.drop (rdF 0 0 l).2.1).take (rdF 0 0 l).1, (rdF 0 0 l).2.1 + (rdF 0 0 l).1, 0)
def ToldP (w : World) (r : List UInt8 × Nat × Nat) (e : Ending) (w' : World) : Prop :=
  e = .returned (.tuple #[.string ⟨r.1.toArray⟩, .int .i64 (r.2.1 : Nat), .int .i64 (r.2.2 : Nat)]) ∧ w = w'
set_option maxRecDepth 100000 in
set_option maxHeartbeats 400000 in
theorem piece_rd (v : Value) (l : List UInt8) (b : Nat) (w : World) (hv : Bs w b v l) (hl : l.length ≤ 1000000000) :
    Calls Tryz.prog 88 #[v] w (ToldP w (rdP l)) := by
  have hv' := hv
  obtain ⟨A, cap, rfl, hc, hm, hcells⟩ := hv
  have hok := rdF_ok l 0 0 (by decide) (by decide)
  have hP : rdP l = if (rdF 0 0 l).2.2 ≠ 0 then ([], 0, (rdF 0 0 l).2.2) else if 1048576 < (rdF 0 0 l).1 then ([], 0, 3)
    else if l.length < (rdF 0 0 l).2.1 + (rdF 0 0 l).1 then ([], 0, 5) else ((l.drop (rdF 0 0 l).2.1).take (rdF 0 0 l).1, (rdF 0 0 l).2.1 + (rdF 0 0 l).1, 0) := rfl
  have hfa := first_any _ l b w hv' hl
  obtain ⟨⟨n, s, er⟩, hr⟩ : ∃ r : Nat × Nat × Nat, r = rdF 0 0 l := ⟨_, rfl⟩
  rw [← hr] at hok hP hfa
  simp only at hok hP
  obtain ⟨R, hR⟩ : ∃ R, R = rdP l := ⟨_, rfl⟩
  rw [← hR] at hP ⊢
  clear hr hR
  have HP := Lib.hid hP
  have Hok := Lib.hid hok
  clear hP hok
  go_enter Tryz.func88, Tryz.ntmps88
  go_wp2_with fail
  refine hfa.mono ?_
  rintro e w' ⟨y, z, rfl, hyz, rfl⟩
  simp only at hyz
  by_cases he : er = 0
  · subst he
    obtain ⟨rfl, rfl⟩ := hyz rfl
    obtain ⟨hs1, hs2, hn⟩ := Hok.out rfl
    by_cases h1 : 1048576 < n
    · go_wp2
      go_ret3
      exact ⟨by rw [HP.out]; simp [h1], rfl⟩
    · have hw : IntKind.i64.wrap (n : Int) = (n : Int) := IntWalk.i64_in _ ⟨by omega, by omega⟩
      by_cases h2 : l.length < s + n
      · go_wp2
        go_ret3
        exact ⟨by rw [HP.out]; simp [h1, h2], rfl⟩
      · have hfin : Hid (R = ((l.drop s).take n, s + n, 0)) := by show _ = _; rw [HP.out]; simp [h1, h2]
        by_cases hcs : cap = s
        · have hrun := run_str (P := Tryz.prog) w 36 9 5 Tryz.underlying36 Tryz.underlying5 Tryz.underlying9 (hv'.cut0 s n (by omega) hcs)
          have Hcs := Lib.hid hcs
          clear hv' hcells HP Hok hyz hfa
          go_wp2
          go_ret3
          exact ⟨by rw [hfin.out]; simp, rfl⟩
        · have hrun := run_str (P := Tryz.prog) w 36 9 5 Tryz.underlying36 Tryz.underlying5 Tryz.underlying9 (hv'.cut s n (by omega))
          clear hv' hcells HP Hok hyz hfa
          go_wp2
          go_ret3
          exact ⟨by rw [hfin.out]; simp, rfl⟩
  · have hb : ((er : Int) != 0) = true := by rw [bne_iff_ne]; omega
    go_wp2
    go_ret3
    exact ⟨by rw [HP.out]; simp [he], rfl⟩
def rdNum (l : List UInt8) (n : Nat) : Nat × List UInt8 × Nat :=
  if n ≠ 0 then (0, l, n) else if (rdF 0 0 l).2.2 ≠ 0 then (0, l, (rdF 0 0 l).2.2) else ((rdF 0 0 l).1, l.drop (rdF 0 0 l).2.1, 0)
def rdPiece (l : List UInt8) (n : Nat) : List UInt8 × List UInt8 × Nat :=
  if n ≠ 0 then ([], l, n) else if (rdP l).2.2 ≠ 0 then ([], l, (rdP l).2.2) else ((rdP l).1, l.drop (rdP l).2.1, 0)
def NumR (w : World) (g b : Nat) (r : Nat × List UInt8 × Nat) (e : Ending) (w' : World) : Prop :=
  e = .returned (.int .u64 (r.1 : Nat)) ∧ Rdr w' g b r.2.1 r.2.2 ∧ w.grownBy w' (some g)
def PieceR (w : World) (g b : Nat) (r : List UInt8 × List UInt8 × Nat) (e : Ending) (w' : World) : Prop :=
  e = .returned (.string ⟨r.1.toArray⟩) ∧ Rdr w' g b r.2.1 r.2.2 ∧ w.grownBy w' (some g)
theorem grownBy_set {w : World} {g : Nat} (i : Nat) (u : Value) : w.grownBy (w.setCell ⟨g, i, none⟩ u) (some g) :=
  ⟨rfl, rfl, rfl, by simp [World.setCell], fun k _ hne => Below.heap_setCell w _ u k (by intro e; exact hne (by rw [e]))⟩
theorem Rdr.move {w : World} {g b : Nat} {v u : Value} {m : List UInt8} {n : Nat} (h1 : Bk w g 159 #[.pointer (some ⟨g, 0, none⟩), v, .int .i64 (n : Int)]) (h2 : Bs w b u m) (h3 : b ≠ g) :
    Rdr (w.setCell ⟨g, 1, none⟩ u) g b m n :=
  ⟨u, by simpa using h1.set 1 u, h2.grown (grownBy_set 1 _) (.inl (by simpa using h3)), h3⟩
theorem Rdr.fail {w : World} {g b : Nat} {v : Value} {m : List UInt8} {n : Nat} (k : Nat) (h1 : Bk w g 159 #[.pointer (some ⟨g, 0, none⟩), v, .int .i64 (n : Int)]) (h2 : Bs w b v m) (h3 : b ≠ g) :
    Rdr (w.setCell ⟨g, 2, none⟩ (.int .i64 (k : Int))) g b m k :=
  ⟨v, by simpa using h1.set 2 (.int .i64 (k : Int)), h2.grown (grownBy_set 2 _) (.inl (by simpa using h3)), h3⟩
theorem Bs.rest {w : World} {b : Nat} {A : Option Addr} {cap : Nat} {l : List UInt8} (h : Bs w b (.slice A l.length cap) l) (s : Nat) (hsn : s ≤ l.length) :
    Bs w b (.slice (A.map (fun x => x.add s)) (l.length - s) (cap - s)) (l.drop s) := by
  have := h.cut s (l.length - s) (by omega)
  rwa [List.take_of_length_le (by simp)] at this
theorem Bs.rest0 {w : World} {b : Nat} {A : Option Addr} {cap : Nat} {l : List UInt8} (h : Bs w b (.slice A l.length cap) l) (s : Nat) (hsn : s ≤ l.length) (hcs : cap = s) :
    Bs w b (.slice A (l.length - s) 0) (l.drop s) := by
  have := h.cut0 s (l.length - s) (by omega) hcs
  rwa [List.take_of_length_le (by simp)] at this
set_option maxRecDepth 100000 in
set_option maxHeartbeats 400000 in
theorem num_any (g b : Nat) (l : List UInt8) (n : Nat) (w : World) (h : Rdr w g b l n) (hl : l.length ≤ 1000000000) :
    Calls Tryz.prog 101 #[.pointer (some ⟨g, 0, none⟩)] w (NumR w g b (rdNum l n)) := by
  have hh := h
  obtain ⟨v, h1, h2, h3⟩ := h
  have hP : rdNum l n = if n ≠ 0 then (0, l, n) else if (rdF 0 0 l).2.2 ≠ 0 then (0, l, (rdF 0 0 l).2.2) else ((rdF 0 0 l).1, l.drop (rdF 0 0 l).2.1, 0) := rfl
  have hok := rdF_ok l 0 0 (by decide) (by decide)
  have hfa := first_any v l b w h2 hl
  obtain ⟨⟨x, s, er⟩, hr⟩ : ∃ r : Nat × Nat × Nat, r = rdF 0 0 l := ⟨_, rfl⟩
  rw [← hr] at hok hP hfa
  simp only at hok hP
  obtain ⟨R, hR⟩ : ∃ R, R = rdNum l n := ⟨_, rfl⟩
  rw [← hR] at hP ⊢
  clear hr hR
  have HP := Lib.hid hP
  have Hok := Lib.hid hok
  clear hP hok
  have hc1 := h1.cell 1
  have hc2 := h1.cell 2
  simp at hc1 hc2
  have hz1 := h1.frozen 1
  have hz2 := h1.frozen 2
  go_enter Tryz.func101, Tryz.ntmps101
  go_wp2_with fail
  refine (err_any g b l n w hh).mono ?_
  rintro e w' ⟨rfl, rfl⟩
  by_cases hn : n = 0
  · subst hn
    go_wp2_with fail
    refine hfa.mono ?_
    rintro e w' ⟨y, z, rfl, hyz, rfl⟩
    simp only at hyz
    by_cases he : er = 0
    · subst he
      obtain ⟨rfl, rfl⟩ := hyz rfl
      obtain ⟨hs1, hs2, hu⟩ := Hok.out rfl
      have h2' := h2
      obtain ⟨A, cap, rfl, hcl, hm, hcells⟩ := h2
      have hfin : Hid (R = (x, l.drop s, 0)) := by show _ = _; rw [HP.out]; simp
      by_cases hcs : cap = s
      · have hB := h2'.rest0 s (by omega) hcs
        have hsz : l.length - s = 0 := by omega
        have Hcs := Lib.hid hcs
        have Hsz := Lib.hid hsz
        clear hcs hsz
        go_wp2
        all_goals
          go_ret
          refine ⟨by rw [hfin.out]; rfl, ?_, grownBy_set 1 _⟩
          rw [hfin.out]
          first | exact Rdr.move h1 hB h3 | (have := Rdr.move h1 hB h3; simpa using this)
      · have hB := h2'.rest s (by omega)
        go_wp2
        go_ret
        refine ⟨by rw [hfin.out]; rfl, ?_, grownBy_set 1 _⟩
        rw [hfin.out]
        exact Rdr.move h1 hB h3
    · have hb : ((er : Int) != 0) = true := by rw [bne_iff_ne]; omega
      have hfin : Hid (R = (0, l, er)) := by show _ = _; rw [HP.out]; simp [he]
      go_wp2
      go_ret
      refine ⟨by rw [hfin.out]; rfl, ?_, grownBy_set 2 _⟩
      rw [hfin.out]
      exact Rdr.fail er h1 h2 h3
  · have hb : ((n : Int) != 0) = true := by rw [bne_iff_ne]; omega
    have hfin : Hid (R = (0, l, n)) := by show _ = _; rw [HP.out]; simp [hn]
    go_wp2
    go_ret
    refine ⟨by rw [hfin.out]; rfl, ?_, World.grownBy.refl _ _⟩
    rw [hfin.out]
    exact hh
theorem rdP_ok (l : List UInt8) (h : (rdP l).2.2 = 0) : 0 < (rdP l).2.1 ∧ (rdP l).2.1 ≤ l.length := by
  have hok := rdF_ok l 0 0 (by decide) (by decide)
  unfold rdP at h ⊢
  by_cases h0 : (rdF 0 0 l).2.2 ≠ 0
  · rw [if_pos h0] at h; exact absurd h h0
  · have h0' : (rdF 0 0 l).2.2 = 0 := by omega
    have := hok h0'
    rw [if_neg h0] at h ⊢
    by_cases h1 : 1048576 < (rdF 0 0 l).1
    · rw [if_pos h1] at h; simp at h
    · rw [if_neg h1] at h ⊢
      by_cases h2 : l.length < (rdF 0 0 l).2.1 + (rdF 0 0 l).1
      · rw [if_pos h2] at h; simp at h
      · rw [if_neg h2]
        show 0 < _ + _ ∧ _ + _ ≤ _
        omega
set_option maxRecDepth 100000 in
set_option maxHeartbeats 400000 in
theorem pce_any (g b : Nat) (l : List UInt8) (n : Nat) (w : World) (h : Rdr w g b l n) (hl : l.length ≤ 1000000000) :
    Calls Tryz.prog 59 #[.pointer (some ⟨g, 0, none⟩)] w (PieceR w g b (rdPiece l n)) := by
  have hh := h
  obtain ⟨v, h1, h2, h3⟩ := h
  have hP : rdPiece l n = if n ≠ 0 then ([], l, n) else if (rdP l).2.2 ≠ 0 then ([], l, (rdP l).2.2) else ((rdP l).1, l.drop (rdP l).2.1, 0) := rfl
  have hok := rdP_ok l
  have hfa := piece_rd v l b w h2 hl
  obtain ⟨⟨x, s, er⟩, hr⟩ : ∃ r : List UInt8 × Nat × Nat, r = rdP l := ⟨_, rfl⟩
  rw [← hr] at hok hP hfa
  simp only at hok hP
  obtain ⟨R, hR⟩ : ∃ R, R = rdPiece l n := ⟨_, rfl⟩
  rw [← hR] at hP ⊢
  clear hr hR
  have HP := Lib.hid hP
  have Hok := Lib.hid hok
  clear hP hok
  have hc1 := h1.cell 1
  have hc2 := h1.cell 2
  simp at hc1 hc2
  have hz1 := h1.frozen 1
  have hz2 := h1.frozen 2
  go_enter Tryz.func59, Tryz.ntmps59
  go_wp2_with fail
  refine (err_any g b l n w hh).mono ?_
  rintro e w' ⟨rfl, rfl⟩
  by_cases hn : n = 0
  · subst hn
    go_wp2_with fail
    refine hfa.mono ?_
    rintro e w' ⟨rfl, rfl⟩
    by_cases he : er = 0
    · subst he
      obtain ⟨hs1, hs2⟩ := Hok.out rfl
      have h2' := h2
      obtain ⟨A, cap, rfl, hcl, hm, hcells⟩ := h2
      have hfin : Hid (R = (x, l.drop s, 0)) := by show _ = _; rw [HP.out]; simp
      by_cases hcs : cap = s
      · have hB := h2'.rest0 s (by omega) hcs
        have hsz : l.length - s = 0 := by omega
        have Hcs := Lib.hid hcs
        have Hsz := Lib.hid hsz
        clear hcs hsz
        go_wp2
        all_goals
          go_ret
          refine ⟨by rw [hfin.out]; rfl, ?_, grownBy_set 1 _⟩
          rw [hfin.out]
          first | exact Rdr.move h1 hB h3 | (have := Rdr.move h1 hB h3; simpa using this)
      · have hB := h2'.rest s (by omega)
        go_wp2
        go_ret
        refine ⟨by rw [hfin.out]; rfl, ?_, grownBy_set 1 _⟩
        rw [hfin.out]
        exact Rdr.move h1 hB h3
    · have hb : ((er : Int) != 0) = true := by rw [bne_iff_ne]; omega
      have hfin : Hid (R = ([], l, er)) := by show _ = _; rw [HP.out]; simp [he]
      go_wp2
      go_ret
      refine ⟨by rw [hfin.out]; rfl, ?_, grownBy_set 2 _⟩
      rw [hfin.out]
      exact Rdr.fail er h1 h2 h3
  · have hb : ((n : Int) != 0) = true := by rw [bne_iff_ne]; omega
    have hfin : Hid (R = ([], l, n)) := by show _ = _; rw [HP.out]; simp [hn]
    go_wp2
    go_ret
    refine ⟨by rw [hfin.out]; rfl, ?_, World.grownBy.refl _ _⟩
    rw [hfin.out]
    exact hh
end Go.Proofs.YtjajcecenflejaaGreat
namespace Go.Proofs.YtjajcecenflejaaGreat
theorem rdF_uv : ∀ (n : Nat) (x i : Nat) (rest : List UInt8), i ≤ 9 → n * 2 ^ (7 * i) < 18446744073709551616 → (0 < i → 0 < n) → rdF x i (Lib.uvarint n ++ rest) = (x + n * 2 ^ (7 * i), i + szN n, 0) := by
  intro n
  induction n using Nat.strongRecOn with
  | ind n ih =>
    intro x i rest hi hlt hpos
    have hp : 0 < 2 ^ (7 * i) := Nat.pow_pos (by decide)
    by_cases hs : n < 128
    · rw [Lib.uvarint_small hs, szN_small hs]
      show rdF x i (n.toUInt8 :: rest) = _
      have hc : (n.toUInt8).toNat = n := by simp [Nat.toUInt8]; omega
      rw [rdF, hc]
      have h1 : ¬ (i = 9 ∧ 1 < n) := by
        rintro ⟨rfl, h⟩
        have h2 : (2 : Nat) ^ (7 * 9) = 9223372036854775808 := rfl
        rw [h2] at hlt
        omega
      have h2 : ¬ (0 < i ∧ n = 0) := by rintro ⟨h, rfl⟩; exact absurd (hpos h) (by omega)
      rw [if_neg h1, if_neg h2, if_pos hs, Nat.mod_eq_of_lt hs]
    · have hb : 128 ≤ n := by omega
      rw [Lib.uvarint_big hb, szN_big hb]
      show rdF x i ((n % 128 + 128).toUInt8 :: (Lib.uvarint (n / 128) ++ rest)) = _
      have hc : ((n % 128 + 128).toUInt8).toNat = n % 128 + 128 := by simp [Nat.toUInt8]; omega
      rw [rdF, hc]
      have hi8 : i ≤ 8 := by
        by_cases h9 : i = 9
        · subst h9
          have h2 : (2 : Nat) ^ (7 * 9) = 9223372036854775808 := rfl
          rw [h2] at hlt
          omega
        · omega
      rw [if_neg (by omega), if_neg (by omega), if_neg (by omega)]
      have e1 : (2 : Nat) ^ (7 * (i + 1)) = 128 * 2 ^ (7 * i) := by rw [show 7 * (i + 1) = 7 * i + 7 by omega, Nat.pow_add, Nat.mul_comm]
      have e2 : n / 128 * (128 * 2 ^ (7 * i)) + n % 128 * 2 ^ (7 * i) = n * 2 ^ (7 * i) := by
        rw [← Nat.mul_assoc, ← Nat.add_mul]; congr 1; omega
      rw [ih (n / 128) (by omega) _ (i + 1) rest (by omega) (by rw [e1]; omega) (fun _ => by omega), e1]
      have e3 : (n % 128 + 128) % 128 = n % 128 := by omega
      rw [e3]
      simp only [Prod.mk.injEq, and_true]
      exact ⟨by omega, by omega⟩
theorem rdNum_uv {n : Nat} (h : U64 n) (rest : List UInt8) : rdNum (Lib.uvarint n ++ rest) 0 = (n, rest, 0) := by
  unfold U64 at h
  have := rdF_uv n 0 0 rest (by decide) (by simpa using h) (by simp)
  simp only [Nat.zero_add, Nat.mul_zero, Nat.pow_zero, Nat.mul_one] at this
  unfold rdNum
  rw [this]
  simp [szN]
end Go.Proofs.YtjajcecenflejaaGreat
