/- expr: the reader: next, take, run, back, number, upper, braces. -/
import Derived.Test.YtfbcafapnagjfaaDoorExM
import Derived.Test.YtfbcafapnagjfaaDoorWords
import Derived.Deep.DeepCutAuto
namespace Go.Proofs.YtfbcafapnagjfaaDoor
open Go.RowKit

/-- below block B, but for block g, all is as it was -/
structure Bg (B g : Nat) (w w' : World) : Prop where
  os : w'.os = w.os
  tape : w'.tape = w.tape
  output : w'.output = w.output
  size : w.heap.size ≤ w'.heap.size
  block : ∀ k, k < B → k ≠ g → w'.heap[k]? = w.heap[k]?
section
variable {B B' g : Nat} {a w w' : World}
theorem Bg.refl (B g : Nat) (w : World) : Bg B g w w := ⟨rfl, rfl, rfl, Nat.le_refl _, fun _ _ _ => rfl⟩
theorem Bg.trans (h : Bg B g a w) (k : Bg B g w w') : Bg B g a w' := ⟨k.os.trans h.os, k.tape.trans h.tape, k.output.trans h.output, Nat.le_trans h.size k.size, fun i hi hn => (k.block i hi hn).trans (h.block i hi hn)⟩
theorem Bg.mono (h : Bg B g w w') (hB : B' ≤ B) : Bg B' g w w' := ⟨h.os, h.tape, h.output, h.size, fun k hk => h.block k (by omega)⟩
theorem Bg.below (h : Bg B g a w) (k : Below B w w') : Bg B g a w' := ⟨k.os.trans h.os, k.tape.trans h.tape, k.output.trans h.output, Nat.le_trans h.size k.size, fun i hi hn => (k.block i hi).trans (h.block i hi hn)⟩
theorem Bg.drew (h : Bg B g a w) : Bg B g a w.drew := ⟨h.os, h.tape, h.output, h.size, h.block⟩
theorem Bg.drewN (h : Bg B g a w) (n : Nat) : Bg B g a (w.drewN n) := ⟨h.os, h.tape, h.output, h.size, h.block⟩
theorem Bg.alloc (h : Bg B g a w) (hB : B ≤ w.heap.size) (o : Obj) : Bg B g a (w.alloc o) := h.below ((Below.refl _ _).alloc hB _)
theorem Bg.set (h : Bg B g a w) (i : Nat) (u : Value) : Bg B g a (w.setCell ⟨g, i, none⟩ u) :=
  ⟨h.os, h.tape, h.output, by rw [World.size_setCell]; exact h.size, fun k hk hn => (Below.heap_setCell w _ u k hn).trans (h.block k hk hn)⟩
theorem Bg.setNew (h : Bg B g a w) {p : Addr} (hp : B ≤ p.block) (u : Value) : Bg B g a (w.setCell p u) := h.below ((Below.refl _ _).setCell hp _)
theorem Bg.cell (h : Bg B g w w') {p : Addr} (hp : p.block < B) (hn : p.block ≠ g) : w'.cell? p = w.cell? p := World.cell?_of_block (w := w) (h.block p.block hp hn)
theorem Bg.frozen (h : Bg B g w w') {p : Addr} (hp : p.block < B) (hn : p.block ≠ g) : w'.frozen? p = w.frozen? p := World.frozen?_of_block (w := w) (h.block p.block hp hn)
theorem Bg.of (h : Below B w w') (g : Nat) : Bg B g w w' := (Bg.refl _ _ _).below h
end

/-- block g holds a reader over s, at place i -/
def Rp (w : World) (g : Nat) (s : ByteArray) (i : Nat) : Prop := Bk w g 35 #[.string s, .int .i64 (i : Int)]
theorem Rp.drew {w : World} {g : Nat} {s : ByteArray} {i : Nat} (h : Rp w g s i) : Rp w.drew g s i := h
theorem Rp.drewN {w : World} {g : Nat} {s : ByteArray} {i : Nat} (h : Rp w g s i) (n : Nat) : Rp (w.drewN n) g s i := h
theorem Rp.lt {w : World} {g : Nat} {s : ByteArray} {i : Nat} (h : Rp w g s i) : g < w.heap.size := Bk.lt h
theorem Rp.to {w : World} {g : Nat} {s : ByteArray} {i : Nat} (h : Rp w g s i) (j : Nat) : Rp (w.setCell ⟨g, 1, none⟩ (.int .i64 (j : Int))) g s j := by
  have := Bk.set h 1 (.int .i64 (j : Int)); simpa [Rp] using this
theorem Rp.all {w w' : World} {g : Nat} {s : ByteArray} {i : Nat} (h : Rp w g s i) (hb : Below w.heap.size w w') : Rp w' g s i := Bk.all h hb
theorem Rp.alloc {w : World} {g : Nat} {s : ByteArray} {i : Nat} (h : Rp w g s i) (o : Obj) : Rp (w.alloc o) g s i := Bk.alloc h o
theorem Rp.c0 {w : World} {g : Nat} {s : ByteArray} {i : Nat} (h : Rp w g s i) : w.cell? ⟨g, 0, none⟩ = some (.string s) := Bk.cell h 0
theorem Rp.c1 {w : World} {g : Nat} {s : ByteArray} {i : Nat} (h : Rp w g s i) : w.cell? ⟨g, 1, none⟩ = some (.int .i64 (i : Int)) := Bk.cell h 1

theorem Rp.f1 {w : World} {g : Nat} {s : ByteArray} {i : Nat} (h : Rp w g s i) : w.frozen? ⟨g, 1, none⟩ = false := Bk.frozen h 1

/-- what a method of the reader leaves: a value, the place, nothing else turned -/
def Rds (w : World) (g : Nat) (s : ByteArray) (v : Value) (j : Nat) (e : Ending) (w' : World) : Prop := e = .returned v ∧ Rp w' g s j ∧ Bg w.heap.size g w w'

theorem peek_ba (s : ByteArray) (k : Nat) (hk : k < s.size) : peek s.data.toList k = s[k] := by
  unfold peek; rw [ba_getD s k (by rw [ba_len]; exact hk)]; rfl

set_option maxRecDepth 100000 in
set_option maxHeartbeats 400000 in
theorem next_any (g : Nat) (s : ByteArray) (i : Nat) (w : World) (h : Rp w g s i) (hi : i ≤ s.size) (hs : s.size ≤ 1000000000000) :
    Calls Tryd.prog 19 #[.pointer (some ⟨g, 0, none⟩)] w (Rds w g s (.int .u8 ((peek s.data.toList (skipN s.data.toList i)).toNat : Int)) (skipN s.data.toList i)) := by
  obtain ⟨J, HJ⟩ : ∃ J, Hid (J = skipN s.data.toList i) := ⟨_, rfl⟩
  rw [← HJ.out]
  go_enter Tryd.func19, Tryd.ntmps19
  go_wp2_with fail
  go_loopg [24] (s.size - i) (fun n _ wr => ∃ k : Nat, k ≤ s.size ∧ n = s.size - k ∧ Hid (skipN s.data.toList k = J) ∧ Hid (Rp wr g s k) ∧ Bg w.heap.size g w wr)
  case atStart => exact ⟨i, hi, rfl, HJ.out.symm, h, Bg.refl _ _ _⟩
  case round =>
    obtain ⟨k, hk, hn, HK, hr, hb⟩ := hrel
    have HN := Lib.hid hn
    clear hn
    have hc0 := hr.out.c0
    have hc1 := hr.out.c1
    have hz1 := hr.out.f1
    have hl := ba_len s
    have HL := Lib.hid hl
    clear hl
    by_cases hlt : k < s.size
    · have HP := Lib.hid (peek_ba s k hlt)
      by_cases h32 : s[k] = 32
      · have hb1 : ((s[k].toNat : Int) == 32) = true := by rw [h32]; rfl
        have HK2 : Hid (skipN s.data.toList (k + 1) = J) := by show _ = _; rw [skip_step (by rw [HL.out]; exact hlt) (by rw [HP.out]; exact h32)]; exact HK.out
        have hr2 : Hid (Rp ((wr).setCell ⟨g, 1, none⟩ (.int .i64 ((k : Int) + 1))) g s (k + 1)) := hr.out.to (k + 1)
        clear HK h32
        go_wp2_with fail
        go_quiet (fail)
        go_wp2_with fail
        go_roundg (s.size - (k + 1))
        case rel => exact ⟨k + 1, by omega, rfl, HK2, hr2, (hb.drewN _).set _ _⟩
        case measure => have := HN.out; omega
      · have hb1 : ((s[k].toNat : Int) == 32) = false := by
          rw [beq_eq_false_iff_ne]; intro h
          exact h32 (UInt8.toNat_inj.1 (by have : (32 : UInt8).toNat = 32 := rfl; omega))
        have hJ : J = k := by rw [← HK.out]; exact skip_stop fun _ => by rw [HP.out]; exact h32
        have HF : Hid (peek s.data.toList J = s[k]) := by show _ = _; rw [hJ]; exact HP.out
        have HR : Hid (Rp wr g s J) := by rw [hJ]; exact hr.out
        have hne : ((k : Int) == (s.size : Int)) = false := by rw [beq_eq_false_iff_ne]; omega
        clear HK h32 hJ
        go_wp2_with fail
        go_quiet (fail)
        go_wp2_with fail
        go_quiet (fail)
        go_wp2_with fail
        go_quiet (fail)
        go_wp2_with fail
        go_ret
        exact ⟨by rw [HF.out]; rfl, HR.out, ((hb.drewN _).drewN _).drewN _⟩
    · obtain rfl : k = s.size := by omega
      have hJ : J = s.size := by rw [← HK.out]; exact skip_stop fun h => by rw [HL.out] at h; omega
      have HF : Hid (peek s.data.toList J = 0) := by show _ = _; exact peek_end (by rw [HL.out]; omega)
      have HR : Hid (Rp wr g s J) := by rw [hJ]; exact hr.out
      clear HK hJ
      go_wp2_with fail
      go_quiet (fail)
      go_wp2_with fail
      go_quiet (fail)
      go_wp2_with fail
      go_ret
      exact ⟨by rw [HF.out]; rfl, HR.out, (hb.drewN _).drewN _⟩

theorem beq_u8 {c d : UInt8} : ((c.toNat : Int) == (d.toNat : Int)) = decide (c = d) := by
  rw [Bool.eq_iff_iff, beq_iff_eq, decide_eq_true_iff]
  exact ⟨fun h => UInt8.toNat_inj.1 (by omega), fun h => by rw [h]⟩
theorem skip_skip (t : List UInt8) (i : Nat) : skipN t (skipN t i) = skipN t i := by
  refine skip_stop fun h hc => ?_
  unfold skipN at h hc
  generalize hm : ((t.drop i).takeWhile fun c => c == 32).length = m at h hc
  have h1 : (t.drop i).takeWhile (fun c => c == 32) = (t.drop i).take m := by rw [← hm]; exact List.prefix_iff_eq_take.1 (List.takeWhile_prefix _)
  have h2 : (t.drop i)[m]? = some 32 := by
    rw [List.getElem?_drop, List.getElem?_eq_getElem h]
    unfold peek at hc; rw [List.getD_eq_getElem?_getD, List.getElem?_eq_getElem h] at hc
    simpa using hc
  have h3 : (t.drop i).takeWhile (fun c => c == 32) = (t.drop i).take (m + 1) ∨ m + 1 ≤ ((t.drop i).takeWhile fun c => c == 32).length := by
    right
    have hlt : m < (t.drop i).length := (List.getElem?_eq_some_iff.1 h2).1
    have e : t.drop i = (t.drop i).take m ++ 32 :: (t.drop i).drop (m + 1) := by
      conv => lhs; rw [← List.take_append_drop m (t.drop i), List.drop_eq_getElem_cons hlt]
      rw [(List.getElem?_eq_some_iff.1 h2).2]
    have hall : ∀ x ∈ (t.drop i).take m, (fun c : UInt8 => c == 32) x = true := by
      rw [← h1]; intro x hx; exact List.all_eq_true.1 List.all_takeWhile x hx
    rw [e, List.takeWhile_append_of_pos hall, List.takeWhile_cons_of_pos (by rfl)]
    simp; omega
  rcases h3 with h3 | h3
  · rw [h3] at hm; simp at hm
    have hlt : m < (t.drop i).length := (List.getElem?_eq_some_iff.1 h2).1
    rw [List.length_drop] at hlt; omega
  · omega
theorem take_le {c : UInt8} (hc : c ≠ 0) {t : List UInt8} {i : Nat} (h : i ≤ t.length) : (takeP c t i).2 ≤ t.length := by
  unfold takeP
  simp only
  split
  · rename_i h2
    have := peek_lt (t := t) (k := skipN t i) (by rw [h2]; exact hc)
    simp only; omega
  · exact skip_le h

set_option maxRecDepth 100000 in
set_option maxHeartbeats 400000 in
theorem take_any (g : Nat) (s : ByteArray) (i : Nat) (c : UInt8) (w : World) (h : Rp w g s i) (hi : i ≤ s.size) (hs : s.size ≤ 1000000000000) :
    Calls Tryd.prog 37 #[.pointer (some ⟨g, 0, none⟩), .int .u8 (c.toNat : Int)] w (Rds w g s (.bool (takeP c s.data.toList i).1) (takeP c s.data.toList i).2) := by
  have hn := Lib.hid (next_any g s i w h hi hs)
  have hle : skipN s.data.toList i ≤ s.size := by have := skip_le (t := s.data.toList) (k := i) (by rw [ba_len]; exact hi); rwa [ba_len] at this
  obtain ⟨R, HR⟩ : ∃ R, Hid (R = takeP c s.data.toList i) := ⟨_, rfl⟩
  obtain ⟨J, HJ⟩ : ∃ J, Hid (J = skipN s.data.toList i) := ⟨_, rfl⟩
  obtain ⟨d, HD⟩ : ∃ d, Hid (d = peek s.data.toList J) := ⟨_, rfl⟩
  have hR : Hid (R = if d = c then (true, J + 1) else (false, J)) := by show _ = _; rw [HR.out, HD.out, HJ.out]; rfl
  rw [← HJ.out, ← HD.out] at hn
  rw [← HJ.out] at hle
  rw [← HR.out]
  clear HR HJ HD h
  by_cases hdc : d = c
  · have hR2 : Hid (R = (true, J + 1)) := by show _ = _; rw [hR.out, if_pos hdc]
    subst hdc
    clear hR
    go_enter Tryd.func37, Tryd.ntmps37
    go_wp2_with fail
    refine (hn.out).mono ?_
    clear hn
    rintro e w1 ⟨rfl, hr, hb⟩
    have hc1 := hr.c1
    have hz1 := hr.f1
    have HR2 := Lib.hid (hr.to (J + 1))
    go_wp2_with fail
    go_ret
    exact ⟨by rw [hR2.out]; rfl, by rw [hR2.out]; exact HR2.out, hb.set _ _⟩
  · have hR2 : Hid (R = (false, J)) := by show _ = _; rw [hR.out, if_neg hdc]
    have hne : ((d.toNat : Int) != (c.toNat : Int)) = true := by rw [bne, beq_u8]; simp [hdc]
    clear hR hdc
    go_enter Tryd.func37, Tryd.ntmps37
    go_wp2_with fail
    refine (hn.out).mono ?_
    clear hn
    rintro e w1 ⟨rfl, hr, hb⟩
    have HR2 := Lib.hid hr
    clear hr
    go_wp2_with fail
    go_ret
    exact ⟨by rw [hR2.out]; rfl, by rw [hR2.out]; exact HR2.out, hb⟩

theorem letter_any (c : UInt8) (w : World) : Calls Tryd.prog 44 #[.int .u8 (c.toNat : Int)] w fun e w' => e = .returned (.bool (letB c)) ∧ w = w' := by
  have hl : letB c = (decide (97 ≤ c.toNat) && decide (c.toNat ≤ 122)) := by
    unfold letB inC; rw [Bool.eq_iff_iff]; simp [UInt8.le_iff_toNat_le]
  have HL := Lib.hid hl
  clear hl
  go_enter Tryd.func44, Tryd.ntmps44
  go_wp2_with fail
  all_goals
    go_ret
    exact ⟨ret_bool (by rw [HL.out, Bool.eq_iff_iff]; simp <;> omega), rfl⟩

set_option maxRecDepth 100000 in
theorem back_any (g : Nat) (s : ByteArray) (i : Nat) (m : ByteArray) (w : World) (h : Rp w g s i) (hi : i ≤ 1000000000000) (hm : m.size ≤ i) :
    Calls Tryd.prog 56 #[.pointer (some ⟨g, 0, none⟩), .string m] w (Rds w g s (.tuple #[]) (i - m.size)) := by
  have hc1 := h.c1
  have hz1 := h.f1
  have hsub : ((i : Int) - (m.size : Int)) = ((i - m.size : Nat) : Int) := by omega
  have HR2 := Lib.hid (h.to (i - m.size))
  have HS := Lib.hid hsub
  clear h hsub
  go_enter Tryd.func56, Tryd.ntmps56
  go_wp2_with fail
  rw [HS.out]
  go_end0
  exact ⟨rfl, HR2.out, (Bg.refl _ _ _).set _ _⟩

theorem ext_run (lo hi : UInt8) (s : ByteArray) (j k : Nat) (hk : k = j + (runL lo hi s.data.toList j).length) : s.extract j k = baOf (runL lo hi s.data.toList j) := by
  apply toList_inj
  rw [ba_toList, ba_toList, ByteArray.data_extract, Array.toList_extract, List.extract_eq_take_drop, hk, Nat.add_sub_cancel_left, run_take]
  simp [baOf]

set_option maxRecDepth 100000 in
set_option maxHeartbeats 800000 in
theorem run_any (g : Nat) (s : ByteArray) (i : Nat) (lo hi : UInt8) (w : World) (h : Rp w g s i) (hi' : i ≤ s.size) (hs : s.size ≤ 1000000000000) :
    Calls Tryd.prog 55 #[.pointer (some ⟨g, 0, none⟩), .int .u8 (lo.toNat : Int), .int .u8 (hi.toNat : Int)] w
      (Rds w g s (.string (baOf (runL lo hi s.data.toList (skipN s.data.toList i)))) (skipN s.data.toList i + (runL lo hi s.data.toList (skipN s.data.toList i)).length)) := by
  have hn := Lib.hid (next_any g s i w h hi' hs)
  have hle : skipN s.data.toList i ≤ s.size := by have := skip_le (t := s.data.toList) (k := i) (by rw [ba_len]; exact hi'); rwa [ba_len] at this
  obtain ⟨J, HJ⟩ : ∃ J, Hid (J = skipN s.data.toList i) := ⟨_, rfl⟩
  rw [← HJ.out] at hn
  rw [← HJ.out] at hle
  rw [← HJ.out]
  obtain ⟨L, HL⟩ : ∃ L, Hid (L = (runL lo hi s.data.toList J).length) := ⟨_, rfl⟩
  rw [← HL.out]
  obtain ⟨M, HM⟩ : ∃ M, Hid (M = baOf (runL lo hi s.data.toList J)) := ⟨_, rfl⟩
  rw [← HM.out]
  have HE : Hid (s.extract J (J + L) = M) := by show _ = _; rw [HM.out]; exact ext_run lo hi s J _ (by rw [HL.out])
  clear h HJ HM
  go_enter Tryd.func55, Tryd.ntmps55
  go_wp2_with fail
  refine (hn.out).mono ?_
  clear hn
  rintro e w1 ⟨rfl, hr1, hb1⟩
  have hc1 := hr1.c1
  have Hr1 := Lib.hid hr1
  clear hr1
  go_wp2_with fail
  clear hc1
  go_loopg [49] (s.size - J) (fun n _ wr => ∃ k : Nat, k ≤ s.size ∧ J ≤ k ∧ n = s.size - k ∧ Hid (k + (runL lo hi s.data.toList k).length = J + L) ∧ Hid (Rp wr g s k) ∧ Bg w.heap.size g w wr)
  case atStart => exact ⟨J, hle, Nat.le_refl _, rfl, by show _ = _; rw [HL.out], Hr1.out, hb1⟩
  case round =>
    obtain ⟨k, hk, hJk, hn, HK, hr, hb⟩ := hrel
    have HN := Lib.hid hn
    clear hn
    have hc0 := hr.out.c0
    have hc1 := hr.out.c1
    have hz1 := hr.out.f1
    have HLen := Lib.hid (ba_len s)
    by_cases hlt : k < s.size
    · have HP := Lib.hid (peek_ba s k hlt)
      obtain ⟨c, HC⟩ : ∃ c, Hid (c = s[k]) := ⟨s[k], Lib.hid rfl⟩
      by_cases hin : lo.toNat ≤ s[k].toNat ∧ s[k].toNat ≤ hi.toNat
      · have h1 : decide (lo.toNat ≤ s[k].toNat) = true := by simp; omega
        have h2 : decide (s[k].toNat ≤ hi.toNat) = true := by simp; omega
        have HK2 : Hid (k + 1 + (runL lo hi s.data.toList (k + 1)).length = J + L) := by
          have := run_step (lo := lo) (hi := hi) (t := s.data.toList) (k := k) (by rw [HLen.out]; exact hlt) (by rw [HP.out]; simp [inC, UInt8.le_iff_toNat_le, hin])
          have hl := congrArg List.length this
          rw [List.length_cons] at hl
          have := HK.out
          show _ = _; omega
        have hr2 : Hid (Rp ((wr).setCell ⟨g, 1, none⟩ (.int .i64 ((k : Int) + 1))) g s (k + 1)) := hr.out.to (k + 1)
        clear HK hin
        go_wp2_with fail
        go_quiet (fail)
        go_wp2_with fail
        go_roundg (s.size - (k + 1))
        case rel => exact ⟨k + 1, by omega, by omega, rfl, HK2, hr2, (hb.drewN _).set _ _⟩
        case measure => have := HN.out; omega
      · have hk2 : k = J + L := by
          have := run_stop (lo := lo) (hi := hi) (t := s.data.toList) (k := k) fun _ => by rw [HP.out]; simp [inC, UInt8.le_iff_toNat_le]; omega
          have h2 := HK.out
          rw [this] at h2; simpa using h2
        have HE2 : Hid (s.extract J k = M) := by show _ = _; rw [hk2]; exact HE.out
        have HR : Hid (Rp wr g s (J + L)) := by rw [← hk2]; exact hr.out
        clear HK hk2
        have hcase : decide (lo.toNat ≤ s[k].toNat) = false ∨ (decide (lo.toNat ≤ s[k].toNat) = true ∧ decide (s[k].toNat ≤ hi.toNat) = false) := by simp; omega
        rcases hcase with h1 | ⟨h1, h2⟩
        all_goals
          clear hin
          go_wp2_with fail
          go_quiet (fail)
          go_wp2_with fail
          go_quiet (fail)
          go_wp2_with fail
          go_ret
          exact ⟨by rw [← HE2.out]; rfl, HR.out, (hb.drewN _).drewN _⟩
    · obtain rfl : k = s.size := by omega
      have hk2 : s.size = J + L := by
        have := run_stop (lo := lo) (hi := hi) (t := s.data.toList) (k := s.size) fun h => by rw [HLen.out] at h; omega
        have h2 := HK.out
        rw [this] at h2; simpa using h2
      have HE2 : Hid (s.extract J s.size = M) := by show _ = _; rw [hk2]; exact HE.out
      have HR : Hid (Rp wr g s (J + L)) := by rw [← hk2]; exact hr.out
      clear HK hk2
      go_wp2_with fail
      go_quiet (fail)
      go_wp2_with fail
      go_quiet (fail)
      go_wp2_with fail
      go_ret
      exact ⟨by rw [← HE2.out]; rfl, HR.out, (hb.drewN _).drewN _⟩
end Go.Proofs.YtfbcafapnagjfaaDoor
