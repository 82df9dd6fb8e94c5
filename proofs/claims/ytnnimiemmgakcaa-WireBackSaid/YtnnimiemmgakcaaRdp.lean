/- Contracts of package wire's piece, and the reader's Number and Piece. -/
import Derived.Test.YtnnimiemmgakcaaRdr
namespace Go.Proofs.Ytnnimiemmgakcaa
open Go.RowKit

theorem rdF_ok : ∀ (l : List UInt8) (x i : Nat), x < 2 ^ (7 * i) → i ≤ 9 → (rdF x i l).2.2 = 0 → i < (rdF x i l).2.1 ∧ (rdF x i l).2.1 ≤ i + l.length ∧ U64 (rdF x i l).1
  | [], _, _, _, _, h => by simp [rdF] at h
  | c :: r, x, i, hx, hi, h => by
    rw [rdF] at h ⊢
    by_cases h1 : i = 9 ∧ 1 < c.toNat
    · rw [if_pos h1] at h; simp at h
    by_cases h2 : 0 < i ∧ c.toNat = 0
    · rw [if_neg h1, if_pos h2] at h; simp at h
    by_cases h3 : c.toNat < 128
    · rw [if_neg h1, if_neg h2, if_pos h3]
      refine ⟨by simp, by simp, ?_⟩
      have hc := c.toNat_lt
      have hs := acc_small c.toNat i hi hc (by omega)
      have hl := acc_lt x i c.toNat hx
      unfold U64
      by_cases h8 : i ≤ 8
      · have : (2 : Nat) ^ (7 * (i + 1)) ≤ 2 ^ 63 := Nat.pow_le_pow_right (by decide) (by omega)
        have h3 : (2 : Nat) ^ 63 = 9223372036854775808 := rfl
        show x + c.toNat % 128 * 2 ^ (7 * i) < _
        omega
      · obtain rfl : i = 9 := by omega
        have h3 : (2 : Nat) ^ (7 * 9) = 9223372036854775808 := rfl
        show x + c.toNat % 128 * 2 ^ (7 * 9) < _
        rw [h3] at hx ⊢
        have : c.toNat % 128 ≤ 1 := by omega
        omega
    · rw [if_neg h1, if_neg h2, if_neg h3] at h ⊢
      have ih := rdF_ok r _ (i + 1) (acc_lt x i c.toNat hx) (by omega) h
      exact ⟨by omega, by simp; omega, ih.2.2⟩

/-- what 'piece' reads of l: the bytes, how many are gone over, the error -/
def rdP (l : List UInt8) : List UInt8 × Nat × Nat :=
  if (rdF 0 0 l).2.2 ≠ 0 then ([], 0, (rdF 0 0 l).2.2) else if 1048576 < (rdF 0 0 l).1 then ([], 0, 3)
  else if l.length < (rdF 0 0 l).2.1 + (rdF 0 0 l).1 then ([], 0, 5) else ((l.drop (rdF 0 0 l).2.1).take (rdF 0 0 l).1, (rdF 0 0 l).2.1 + (rdF 0 0 l).1, 0)

def ToldP (w : World) (r : List UInt8 × Nat × Nat) (e : Ending) (w' : World) : Prop :=
  e = .returned (.tuple #[.string ⟨r.1.toArray⟩, .int .i64 (r.2.1 : Nat), .int .i64 (r.2.2 : Nat)]) ∧ w = w'

set_option maxRecDepth 100000 in
set_option maxHeartbeats 400000 in
theorem piece_rd (v : Value) (l : List UInt8) (b : Nat) (w : World) (hv : Bs w b v l) (hl : l.length ≤ 1000000000) :
    Calls Try.prog 27 #[v] w (ToldP w (rdP l)) := by
  have hv' := hv
  obtain ⟨A, cap, rfl, hc, hm, hcells⟩ := hv
  have hok := rdF_ok l 0 0 (by decide) (by decide)
  have hP : rdP l = if (rdF 0 0 l).2.2 ≠ 0 then ([], 0, (rdF 0 0 l).2.2) else if 1048576 < (rdF 0 0 l).1 then ([], 0, 3)
    else if l.length < (rdF 0 0 l).2.1 + (rdF 0 0 l).1 then ([], 0, 5) else ((l.drop (rdF 0 0 l).2.1).take (rdF 0 0 l).1, (rdF 0 0 l).2.1 + (rdF 0 0 l).1, 0) := rfl
  have hfa := first_any _ l b w hv' hl
  obtain ⟨⟨n, s, er⟩, hr⟩ : ∃ r : Nat × Nat × Nat, r = rdF 0 0 l := ⟨_, rfl⟩
  rw [← hr] at hok hP hfa
  simp only at hok hP
  obtain ⟨R, hR⟩ : ∃ R, R = rdP l := ⟨_, rfl⟩
  rw [← hR] at hP ⊢
  clear hr hR
  have HP := Lib.hid hP
  have Hok := Lib.hid hok
  clear hP hok
  go_enter Try.func27, Try.ntmps27
  go_wp2_with fail
  refine hfa.mono ?_
  rintro e w' ⟨y, z, rfl, hyz, rfl⟩
  simp only at hyz
  by_cases he : er = 0
  · subst he
    obtain ⟨rfl, rfl⟩ := hyz rfl
    obtain ⟨hs1, hs2, hn⟩ := Hok.out rfl
    by_cases h1 : 1048576 < n
    · go_wp2
      go_ret3
      exact ⟨by rw [HP.out]; simp [h1], rfl⟩
    · have hw : IntKind.i64.wrap (n : Int) = (n : Int) := IntWalk.i64_in _ ⟨by omega, by omega⟩
      by_cases h2 : l.length < s + n
      · go_wp2
        go_ret3
        exact ⟨by rw [HP.out]; simp [h1, h2], rfl⟩
      · have hfin : Hid (R = ((l.drop s).take n, s + n, 0)) := by show _ = _; rw [HP.out]; simp [h1, h2]
        by_cases hcs : cap = s
        · have hrun := run_str (P := Try.prog) w 22 9 5 Try.underlying22 Try.underlying5 Try.underlying9 (hv'.cut0 s n (by omega) hcs)
          have Hcs := Lib.hid hcs
          clear hv' hcells HP Hok hyz hfa
          go_wp2
          go_ret3
          exact ⟨by rw [hfin.out]; simp, rfl⟩
        · have hrun := run_str (P := Try.prog) w 22 9 5 Try.underlying22 Try.underlying5 Try.underlying9 (hv'.cut s n (by omega))
          clear hv' hcells HP Hok hyz hfa
          go_wp2
          go_ret3
          exact ⟨by rw [hfin.out]; simp, rfl⟩
  · have hb : ((er : Int) != 0) = true := by rw [bne_iff_ne]; omega
    go_wp2
    go_ret3
    exact ⟨by rw [HP.out]; simp [he], rfl⟩

/-- what a call of Number tells of a reader that has l left and the error n: the number, what is left then, the error then -/
def rdNum (l : List UInt8) (n : Nat) : Nat × List UInt8 × Nat :=
  if n ≠ 0 then (0, l, n) else if (rdF 0 0 l).2.2 ≠ 0 then (0, l, (rdF 0 0 l).2.2) else ((rdF 0 0 l).1, l.drop (rdF 0 0 l).2.1, 0)
def rdPiece (l : List UInt8) (n : Nat) : List UInt8 × List UInt8 × Nat :=
  if n ≠ 0 then ([], l, n) else if (rdP l).2.2 ≠ 0 then ([], l, (rdP l).2.2) else ((rdP l).1, l.drop (rdP l).2.1, 0)

def NumR (w : World) (g b : Nat) (r : Nat × List UInt8 × Nat) (e : Ending) (w' : World) : Prop :=
  e = .returned (.int .u64 (r.1 : Nat)) ∧ Rdr w' g b r.2.1 r.2.2 ∧ w.grownBy w' (some g)
def PieceR (w : World) (g b : Nat) (r : List UInt8 × List UInt8 × Nat) (e : Ending) (w' : World) : Prop :=
  e = .returned (.string ⟨r.1.toArray⟩) ∧ Rdr w' g b r.2.1 r.2.2 ∧ w.grownBy w' (some g)

theorem grownBy_set {w : World} {g : Nat} (i : Nat) (u : Value) : w.grownBy (w.setCell ⟨g, i, none⟩ u) (some g) :=
  ⟨rfl, rfl, rfl, by simp [World.setCell], fun k _ hne => Below.heap_setCell w _ u k (by intro e; exact hne (by rw [e]))⟩

theorem Rdr.move {w : World} {g b : Nat} {v u : Value} {m : List UInt8} {n : Nat} (h1 : Bk w g 37 #[.pointer (some ⟨g, 0, none⟩), v, .int .i64 (n : Int)]) (h2 : Bs w b u m) (h3 : b ≠ g) :
    Rdr (w.setCell ⟨g, 1, none⟩ u) g b m n :=
  ⟨u, by simpa using h1.set 1 u, h2.grown (grownBy_set 1 _) (.inl (by simpa using h3)), h3⟩
theorem Rdr.fail {w : World} {g b : Nat} {v : Value} {m : List UInt8} {n : Nat} (k : Nat) (h1 : Bk w g 37 #[.pointer (some ⟨g, 0, none⟩), v, .int .i64 (n : Int)]) (h2 : Bs w b v m) (h3 : b ≠ g) :
    Rdr (w.setCell ⟨g, 2, none⟩ (.int .i64 (k : Int))) g b m k :=
  ⟨v, by simpa using h1.set 2 (.int .i64 (k : Int)), h2.grown (grownBy_set 2 _) (.inl (by simpa using h3)), h3⟩
theorem Bs.rest {w : World} {b : Nat} {A : Option Addr} {cap : Nat} {l : List UInt8} (h : Bs w b (.slice A l.length cap) l) (s : Nat) (hsn : s ≤ l.length) :
    Bs w b (.slice (A.map (fun x => x.add s)) (l.length - s) (cap - s)) (l.drop s) := by
  have := h.cut s (l.length - s) (by omega)
  rwa [List.take_of_length_le (by simp)] at this
theorem Bs.rest0 {w : World} {b : Nat} {A : Option Addr} {cap : Nat} {l : List UInt8} (h : Bs w b (.slice A l.length cap) l) (s : Nat) (hsn : s ≤ l.length) (hcs : cap = s) :
    Bs w b (.slice A (l.length - s) 0) (l.drop s) := by
  have := h.cut0 s (l.length - s) (by omega) hcs
  rwa [List.take_of_length_le (by simp)] at this

set_option maxRecDepth 100000 in
set_option maxHeartbeats 400000 in
theorem num_any (g b : Nat) (l : List UInt8) (n : Nat) (w : World) (h : Rdr w g b l n) (hl : l.length ≤ 1000000000) :
    Calls Try.prog 19 #[.pointer (some ⟨g, 0, none⟩)] w (NumR w g b (rdNum l n)) := by
  have hh := h
  obtain ⟨v, h1, h2, h3⟩ := h
  have hP : rdNum l n = if n ≠ 0 then (0, l, n) else if (rdF 0 0 l).2.2 ≠ 0 then (0, l, (rdF 0 0 l).2.2) else ((rdF 0 0 l).1, l.drop (rdF 0 0 l).2.1, 0) := rfl
  have hok := rdF_ok l 0 0 (by decide) (by decide)
  have hfa := first_any v l b w h2 hl
  obtain ⟨⟨x, s, er⟩, hr⟩ : ∃ r : Nat × Nat × Nat, r = rdF 0 0 l := ⟨_, rfl⟩
  rw [← hr] at hok hP hfa
  simp only at hok hP
  obtain ⟨R, hR⟩ : ∃ R, R = rdNum l n := ⟨_, rfl⟩
  rw [← hR] at hP ⊢
  clear hr hR
  have HP := Lib.hid hP
  have Hok := Lib.hid hok
  clear hP hok
  have hc1 := h1.cell 1
  have hc2 := h1.cell 2
  simp at hc1 hc2
  have hz1 := h1.frozen 1
  have hz2 := h1.frozen 2
  go_enter Try.func19, Try.ntmps19
  go_wp2_with fail
  refine (err_any g b l n w hh).mono ?_
  rintro e w' ⟨rfl, rfl⟩
  by_cases hn : n = 0
  · subst hn
    go_wp2_with fail
    refine hfa.mono ?_
    rintro e w' ⟨y, z, rfl, hyz, rfl⟩
    simp only at hyz
    by_cases he : er = 0
    · subst he
      obtain ⟨rfl, rfl⟩ := hyz rfl
      obtain ⟨hs1, hs2, hu⟩ := Hok.out rfl
      have h2' := h2
      obtain ⟨A, cap, rfl, hcl, hm, hcells⟩ := h2
      have hfin : Hid (R = (x, l.drop s, 0)) := by show _ = _; rw [HP.out]; simp
      by_cases hcs : cap = s
      · have hB := h2'.rest0 s (by omega) hcs
        have hsz : l.length - s = 0 := by omega
        have Hcs := Lib.hid hcs
        have Hsz := Lib.hid hsz
        clear hcs hsz
        go_wp2
        all_goals
          go_ret
          refine ⟨by rw [hfin.out]; rfl, ?_, grownBy_set 1 _⟩
          rw [hfin.out]
          first | exact Rdr.move h1 hB h3 | (have := Rdr.move h1 hB h3; simpa using this)
      · have hB := h2'.rest s (by omega)
        go_wp2
        go_ret
        refine ⟨by rw [hfin.out]; rfl, ?_, grownBy_set 1 _⟩
        rw [hfin.out]
        exact Rdr.move h1 hB h3
    · have hb : ((er : Int) != 0) = true := by rw [bne_iff_ne]; omega
      have hfin : Hid (R = (0, l, er)) := by show _ = _; rw [HP.out]; simp [he]
      go_wp2
      go_ret
      refine ⟨by rw [hfin.out]; rfl, ?_, grownBy_set 2 _⟩
      rw [hfin.out]
      exact Rdr.fail er h1 h2 h3
  · have hb : ((n : Int) != 0) = true := by rw [bne_iff_ne]; omega
    have hfin : Hid (R = (0, l, n)) := by show _ = _; rw [HP.out]; simp [hn]
    go_wp2
    go_ret
    refine ⟨by rw [hfin.out]; rfl, ?_, World.grownBy.refl _ _⟩
    rw [hfin.out]
    exact hh
theorem rdP_ok (l : List UInt8) (h : (rdP l).2.2 = 0) : 0 < (rdP l).2.1 ∧ (rdP l).2.1 ≤ l.length := by
  have hok := rdF_ok l 0 0 (by decide) (by decide)
  unfold rdP at h ⊢
  by_cases h0 : (rdF 0 0 l).2.2 ≠ 0
  · rw [if_pos h0] at h; exact absurd h h0
  · have h0' : (rdF 0 0 l).2.2 = 0 := by omega
    have := hok h0'
    rw [if_neg h0] at h ⊢
    by_cases h1 : 1048576 < (rdF 0 0 l).1
    · rw [if_pos h1] at h; simp at h
    · rw [if_neg h1] at h ⊢
      by_cases h2 : l.length < (rdF 0 0 l).2.1 + (rdF 0 0 l).1
      · rw [if_pos h2] at h; simp at h
      · rw [if_neg h2]
        show 0 < _ + _ ∧ _ + _ ≤ _
        omega

set_option maxRecDepth 100000 in
set_option maxHeartbeats 400000 in
theorem pce_any (g b : Nat) (l : List UInt8) (n : Nat) (w : World) (h : Rdr w g b l n) (hl : l.length ≤ 1000000000) :
    Calls Try.prog 20 #[.pointer (some ⟨g, 0, none⟩)] w (PieceR w g b (rdPiece l n)) := by
  have hh := h
  obtain ⟨v, h1, h2, h3⟩ := h
  have hP : rdPiece l n = if n ≠ 0 then ([], l, n) else if (rdP l).2.2 ≠ 0 then ([], l, (rdP l).2.2) else ((rdP l).1, l.drop (rdP l).2.1, 0) := rfl
  have hok := rdP_ok l
  have hfa := piece_rd v l b w h2 hl
  obtain ⟨⟨x, s, er⟩, hr⟩ : ∃ r : List UInt8 × Nat × Nat, r = rdP l := ⟨_, rfl⟩
  rw [← hr] at hok hP hfa
  simp only at hok hP
  obtain ⟨R, hR⟩ : ∃ R, R = rdPiece l n := ⟨_, rfl⟩
  rw [← hR] at hP ⊢
  clear hr hR
  have HP := Lib.hid hP
  have Hok := Lib.hid hok
  clear hP hok
  have hc1 := h1.cell 1
  have hc2 := h1.cell 2
  simp at hc1 hc2
  have hz1 := h1.frozen 1
  have hz2 := h1.frozen 2
  go_enter Try.func20, Try.ntmps20
  go_wp2_with fail
  refine (err_any g b l n w hh).mono ?_
  rintro e w' ⟨rfl, rfl⟩
  by_cases hn : n = 0
  · subst hn
    go_wp2_with fail
    refine hfa.mono ?_
    rintro e w' ⟨rfl, rfl⟩
    by_cases he : er = 0
    · subst he
      obtain ⟨hs1, hs2⟩ := Hok.out rfl
      have h2' := h2
      obtain ⟨A, cap, rfl, hcl, hm, hcells⟩ := h2
      have hfin : Hid (R = (x, l.drop s, 0)) := by show _ = _; rw [HP.out]; simp
      by_cases hcs : cap = s
      · have hB := h2'.rest0 s (by omega) hcs
        have hsz : l.length - s = 0 := by omega
        have Hcs := Lib.hid hcs
        have Hsz := Lib.hid hsz
        clear hcs hsz
        go_wp2
        all_goals
          go_ret
          refine ⟨by rw [hfin.out]; rfl, ?_, grownBy_set 1 _⟩
          rw [hfin.out]
          first | exact Rdr.move h1 hB h3 | (have := Rdr.move h1 hB h3; simpa using this)
      · have hB := h2'.rest s (by omega)
        go_wp2
        go_ret
        refine ⟨by rw [hfin.out]; rfl, ?_, grownBy_set 1 _⟩
        rw [hfin.out]
        exact Rdr.move h1 hB h3
    · have hb : ((er : Int) != 0) = true := by rw [bne_iff_ne]; omega
      have hfin : Hid (R = ([], l, er)) := by show _ = _; rw [HP.out]; simp [he]
      go_wp2
      go_ret
      refine ⟨by rw [hfin.out]; rfl, ?_, grownBy_set 2 _⟩
      rw [hfin.out]
      exact Rdr.fail er h1 h2 h3
  · have hb : ((n : Int) != 0) = true := by rw [bne_iff_ne]; omega
    have hfin : Hid (R = ([], l, n)) := by show _ = _; rw [HP.out]; simp [hn]
    go_wp2
    go_ret
    refine ⟨by rw [hfin.out]; rfl, ?_, World.grownBy.refl _ _⟩
    rw [hfin.out]
    exact hh
end Go.Proofs.Ytnnimiemmgakcaa
