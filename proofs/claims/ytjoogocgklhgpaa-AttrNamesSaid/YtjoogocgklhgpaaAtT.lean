/- attr: the document's own Compare; the kit's Attrs; the chapter's specs. -/
import Derived.Test.YtjoogocgklhgpaaAtJ
namespace Go.Proofs.Ytjoogocgklhgpaa
open Go.RowKit

set_option maxRecDepth 100000 in
theorem texts_any (a b : ByteArray) (w : World) : Calls Try.prog 44 #[.string a, .string b] w fun e w' => e = .returned (.int .i64 (cmpS a b)) ∧ w = w' := by
  go_enter Try.func44, Try.ntmps44
  go_wp2
  · rename_i h
    go_ret
    exact ⟨ret_int (by simp [cmpS, ltS, h]), rfl⟩
  · rename_i k
    have h : Op.bytesLess a.toList b.toList = false := by assumption
    go_ret
    exact ⟨ret_int (by unfold cmpS ltS; rw [if_neg (by simp [h]), if_pos]; simpa [ltS] using lt_of_ne h k), rfl⟩
  · rename_i h k
    have e : a = b := (eqS_iff a b).1 (by simpa using k)
    subst e
    go_ret
    exact ⟨ret_int (by simp [cmpS, ltS_irr]), rfl⟩

theorem quiet_add_same' {P : Program} {f : FuncId} {args : Array Value} {w : World} {a n : Nat} {v : Value} (h : Calls P f args (w.drewN (a + n)) fun e w' => e = .returned v ∧ w' = w.drewN (a + n)) :
    Calls P f args (w.drewN (a + n)) fun e w'' => e = .returned v ∧ ∃ m, w'' = w.drewN (a + m) :=
  h.mono fun _ _ ⟨he, hm⟩ => ⟨he, n, hm⟩
theorem sgns_at (l m : List At) (n k : Nat) (hk : k < n) (h : ∀ j, j < k → orP (sgn l m j) = 0) (h0 : orP (sgn l m k) ≠ 0) (r : List Int) : orP (sgns l m n ++ r) = orP (sgn l m k) := by
  have hz : ∀ j, j ≤ k → orP (sgns l m j) = 0 := by
    intro j
    induction j with
    | zero => intro _; rfl
    | succ j ih => intro hj; rw [sgns_succ, orP_app, if_pos (ih (by omega)), h j (by omega)]
  have hs : ∀ d, orP (sgns l m (k + 1 + d)) = orP (sgn l m k) := by
    intro d
    induction d with
    | zero => rw [Nat.add_zero, sgns_succ, orP_app, if_pos (hz k (Nat.le_refl _))]
    | succ d ih => rw [show k + 1 + (d + 1) = k + 1 + d + 1 by omega, sgns_succ, orP_app, ih, if_neg h0]
  have := hs (n - (k + 1))
  rw [show k + 1 + (n - (k + 1)) = n by omega] at this
  rw [orP_app, this, if_neg h0]
theorem sgns_zero (l m : List At) (n : Nat) (h : ∀ j, j < n → orP (sgn l m j) = 0) (r : List Int) : orP (sgns l m n ++ r) = orP r := by
  have hz : ∀ j, j ≤ n → orP (sgns l m j) = 0 := by
    intro j
    induction j with
    | zero => intro _; rfl
    | succ j ih => intro hj; rw [sgns_succ, orP_app, if_pos (ih (by omega)), h j (by omega)]
  rw [orP_app, if_pos (hz n (Nat.le_refl _))]
theorem cmpG_at {l m : List At} {k : Nat} (hl : k < l.length) (hm : k < m.length) (h : ∀ j, j < k → orP (sgn l m j) = 0) (h0 : orP (sgn l m k) ≠ 0) : cmpG l m = orP (sgn l m k) := by
  unfold cmpG; exact sgns_at l m _ k (by omega) h h0 _
theorem cmpG_end {l m : List At} (h : ∀ j, j < l.length → j < m.length → orP (sgn l m j) = 0) : cmpG l m = cmpI l.length m.length := by
  unfold cmpG; rw [sgns_zero l m _ (fun j hj => h j (by omega) (by omega))]
  unfold orP; by_cases h : cmpI l.length m.length = 0
  · rw [if_pos h]; unfold orP; exact h.symm
  · rw [if_neg h]
theorem sgn_eq {l m : List At} {k : Nat} (hl : k < l.length) (hm : k < m.length) : orP (sgn l m k) = if cmpS l[k].n m[k].n = 0 then cmpS l[k].v m[k].v else cmpS l[k].n m[k].n := by
  unfold sgn; rw [or2, gA_get l k hl, gA_get m k hm]

set_option maxRecDepth 100000 in
set_option maxHeartbeats 2000000 in
theorem refCompare_any (va vb : Value) (l m : List At) (B : Nat) (w : World) (hl : Ats w B va l) (hm : Ats w B vb m) (hB : B ≤ w.heap.size) :
    Calls Try.prog 28 #[va, vb] w fun e w' => e = .returned (.int .i64 (cmpG l m)) ∧ Below w.heap.size w w' := by
  obtain ⟨Al, cl, rfl⟩ := hl.form
  obtain ⟨Am, cm, rfl⟩ := hm.form
  have hml := hl.max
  have hmm := hm.max
  unfold maxLen at hml hmm
  go_enter Try.func28, Try.ntmps28
  go_wp2
  go_loopg [5] l.length (fun g s5 wr => ∃ k : Nat, k ≤ l.length ∧ k ≤ m.length ∧ g = l.length - k ∧ s5 = .int .i64 k ∧ Hid (∀ j, j < k → orP (sgn l m j) = 0) ∧ Below w.heap.size w wr)
  case atStart => exact ⟨0, Nat.zero_le _, Nat.zero_le _, by omega, rfl, fun j hj => by omega, Below.refl _ _⟩
  case round =>
    obtain ⟨k, hkl, hkm, hg, rfl, hall, hb⟩ := hrel
    have HG := Lib.hid hg
    clear hg
    have hsz := hb.size
    by_cases hlt : k < l.length ∧ k < m.length
    · obtain ⟨hltl, hltm⟩ := hlt
      obtain ⟨bl, offl, rfl, hblB, hcll, hl0, hl1⟩ := (hl.below (hb.mono hB)).at hltl
      obtain ⟨bm, offm, rfl, hbmB, hcmm, hm0, hm1⟩ := (hm.below (hb.mono hB)).at hltm
      have hs := Lib.hid (sgn_eq hltl hltm)
      have hi1 : (k : Int) < (l.length : Int) := by omega
      have hi2 : (k : Int) < (m.length : Int) := by omega
      have hi0 : (0 : Int) ≤ (k : Int) := by omega
      obtain ⟨x, hx⟩ : ∃ x, Hid (x = cmpS l[k].n m[k].n) := ⟨cmpS l[k].n m[k].n, rfl⟩
      obtain ⟨y, hy⟩ : ∃ y, Hid (y = cmpS l[k].v m[k].v) := ⟨cmpS l[k].v m[k].v, rfl⟩
      have HN : Hid (∀ W, Calls Try.prog 44 #[.string l[k].n, .string m[k].n] W fun e w' => e = .returned (.int .i64 x) ∧ w' = W) := fun W => (texts_any _ _ W).mono fun _ _ ⟨a, b⟩ => ⟨by rw [a, hx.out], b.symm⟩
      have HV : Hid (∀ W, Calls Try.prog 44 #[.string l[k].v, .string m[k].v] W fun e w' => e = .returned (.int .i64 y) ∧ w' = W) := fun W => (texts_any _ _ W).mono fun _ _ ⟨a, b⟩ => ⟨by rw [a, hy.out], b.symm⟩
      by_cases hx0 : x = 0
      · have hsx : Hid (orP (sgn l m k) = y) := by show _ = _; rw [hs.out, ← hx.out, if_pos hx0, hy.out]
        subst hx0
        by_cases hy0 : y = 0
        · have hall' : Hid (∀ j, j < k + 1 → orP (sgn l m j) = 0) := by
            show ∀ j, _
            intro j hj
            by_cases e : j = k
            · subst e; exact hsx.out.trans hy0
            · exact hall.out j (by omega)
          subst hy0
          go_wp2
          go_quiet ((go_at_call 44; exact Calls.quiet_of_same (HN.out _)))
          go_wp2
          go_quiet ((go_at_call 44; exact quiet_add_same' (HV.out _)))
          go_wp2
          go_roundg (l.length - (k + 1))
          case measure => have := HG.out; omega
          case rel => exact ⟨k + 1, by omega, by omega, rfl, by go_num, hall', blN hb _⟩
        · have hf : Hid (cmpG l m = y) := by show _ = _; rw [cmpG_at hltl hltm hall.out (by rw [hsx.out]; exact hy0), hsx.out]
          have hy1 : (y != 0) = true := by rw [bne_iff_ne]; exact hy0
          clear hy0
          go_wp2
          go_quiet ((go_at_call 44; exact Calls.quiet_of_same (HN.out _)))
          go_wp2
          go_quiet ((go_at_call 44; exact quiet_add_same' (HV.out _)))
          go_wp2
          go_ret
          exact ⟨ret_int hf.out.symm, blN hb _⟩
      · have hsx : Hid (orP (sgn l m k) = x) := by show _ = _; rw [hs.out, ← hx.out, if_neg hx0]
        have hf : Hid (cmpG l m = x) := by show _ = _; rw [cmpG_at hltl hltm hall.out (by rw [hsx.out]; exact hx0), hsx.out]
        have hx1 : (x != 0) = true := by rw [bne_iff_ne]; exact hx0
        have hx2 : (x == 0) = false := beq_eq_false_iff_ne.2 hx0
        clear hx0
        go_wp2
        go_quiet ((go_at_call 44; exact Calls.quiet_of_same (HN.out _)))
        go_wp2
        go_ret
        exact ⟨ret_int hf.out.symm, blN hb _⟩
    · have hf : Hid (cmpG l m = cmpI l.length m.length) := cmpG_end fun j hj hj2 => hall.out j (by omega)
      by_cases h1 : l.length < m.length
      · have hf2 : Hid (cmpI l.length m.length = -1) := by show _ = _; unfold cmpI; rw [if_pos (by omega)]
        have hk1 : ¬ k < l.length := by omega
        clear hlt
        go_wp2
        go_ret
        exact ⟨ret_int (by rw [hf.out, hf2.out]), hb⟩
      · by_cases h2 : m.length < l.length
        · have hf2 : Hid (cmpI l.length m.length = 1) := by show _ = _; unfold cmpI; rw [if_neg (by omega), if_pos (by omega)]
          by_cases hk1 : k < l.length
          · have hk2 : ¬ k < m.length := by omega
            clear hlt
            go_wp2
            go_ret
            exact ⟨ret_int (by rw [hf.out, hf2.out]), hb⟩
          · omega
        · have hf2 : Hid (cmpI l.length m.length = 0) := by show _ = _; unfold cmpI; rw [if_neg (by omega), if_neg (by omega)]
          have hk1 : ¬ k < l.length := by omega
          clear hlt
          go_wp2
          go_ret
          exact ⟨ret_int (by rw [hf.out, hf2.out]), hb⟩
end Go.Proofs.Ytjoogocgklhgpaa
