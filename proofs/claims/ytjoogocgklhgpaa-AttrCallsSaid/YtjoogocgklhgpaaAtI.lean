/- attr: Fits and the document's own. -/
import Derived.Test.YtjoogocgklhgpaaAtH
namespace Go.Proofs.Ytjoogocgklhgpaa
open Go.RowKit

def Sp.z : Sp := ⟨.empty, .empty, false⟩
def gS (p : List Sp) (k : Nat) : Sp := p.getD k Sp.z
theorem gS_get (l : List Sp) (k : Nat) (hk : k < l.length) : gS l k = l[k] := by unfold gS List.getD; rw [List.getElem?_eq_getElem hk]; rfl
def nmK (p : List Sp) (l : List At) (k : Nat) : Bool := (gS p k).n.toList == (gA l k).n.toList
def eqN (p : List Sp) (l : List At) : Bool := decide (p.length = l.length) && (List.range l.length).all (nmK p l)
theorem eqN_yes {p : List Sp} {l : List At} (h : p.length = l.length) (hk : ∀ k, k < l.length → nmK p l k = true) : eqN p l = true := by
  unfold eqN; simp only [h, decide_true, Bool.true_and, List.all_eq_true]; intro k hm; exact hk k (List.mem_range.1 hm)
theorem eqN_no {p : List Sp} {l : List At} {k : Nat} (hk : k < l.length) (h : nmK p l k = false) : eqN p l = false := by
  unfold eqN; rw [Bool.and_eq_false_iff]; right; rw [← Bool.not_eq_true, List.all_eq_true]; intro hall; rw [hall k (List.mem_range.2 hk)] at h; cases h
theorem eqN_len {p : List Sp} {l : List At} (h : p.length ≠ l.length) : eqN p l = false := by unfold eqN; simp [h]
def fitB (p : List Sp) (l : List At) : Bool := decide (specN p = 0) && decide (checkN l = 0) && eqN p l

set_option maxRecDepth 100000 in
theorem equalFunc_any (vp vl : Value) (p : List Sp) (l : List At) (B : Nat) (w : World) (hp : Sps w B vp p) (hl : Ats w B vl l) (hB : B ≤ w.heap.size) :
    Calls Try.prog 39 #[vp, vl, .func (.func 40) #[] #[]] w fun e w' => e = .returned (.bool (eqN p l)) ∧ Below w.heap.size w w' := by
  obtain ⟨Ap, cp, rfl⟩ := hp.form
  obtain ⟨Al, cl, rfl⟩ := hl.form
  have hm := hl.max
  have hm2 := hp.max
  unfold maxLen at hm hm2
  by_cases hlen : p.length = l.length
  · have hlen' : ((p.length : Int) != (l.length : Int)) = false := by simp; omega
    have HL := Lib.hid hlen
    clear hlen
    go_enter Try.func39, Try.ntmps39
    go_wp2
    go_loopw [17] (fun i wr => ∃ k : Nat, k ≤ l.length ∧ i = .int .i64 k ∧ Below w.heap.size w wr ∧ Hid (∀ j, j < k → nmK p l j = true)) (fun i _ => l.length - (intOf i).toNat)
    case atStart => exact ⟨0, Nat.zero_le _, rfl, Below.refl _ _, fun j hj => by omega⟩
    case round =>
      obtain ⟨k, hk, rfl, hb, hall⟩ := hrel
      by_cases hlt : k < l.length
      · have hlp : k < p.length := by have := HL.out; omega
        obtain ⟨bp, offp, rfl, hbpB, hcpp, hp0, hp1, hp2⟩ := (hp.below (hb.mono hB)).at hlp
        obtain ⟨bl, offl, rfl, hblB, hcll, hl0, hl1⟩ := (hl.below (hb.mono hB)).at hlt
        have hsz := hb.size
        have hpb : bp < wr.heap.size := by omega
        have hlb : bl < wr.heap.size := by omega
        have e1 : Hid (nmK p l k = (p[k].n.toList == l[k].n.toList)) := by show _ = _; unfold nmK; rw [gS_get p k hlp, gA_get l k hlt]
        go_wp2_with fail
        refine (named_any p[k] l[k] _).mono ?_
        rintro e w5 ⟨rfl, hb5⟩
        have hb6 := ((hb.alloc hsz (.cells #[.string p[k].n, .string p[k].d, .bool p[k].m] 45)).alloc (by simp; omega) (.cells #[.string l[k].n, .string l[k].v] 29)).trans (hb5.mono (by simp; omega))
        clear hb5
        cases h : (p[k].n.toList == l[k].n.toList)
        · have hf : Hid (eqN p l = false) := eqN_no hlt (e1.out.trans h)
          clear h
          go_wp2
          go_ret
          exact ⟨ret_bool hf.out.symm, hb6⟩
        · have hall' : Hid (∀ j, j < k + 1 → nmK p l j = true) := by
            show ∀ j, _
            intro j hj
            by_cases e : j = k
            · subst e; exact e1.out.trans h
            · exact hall.out j (by omega)
          clear h
          go_wp2
          go_roundw
          case rel => exact ⟨k + 1, by omega, by go_num, hb6, hall'⟩
          case measure => simp [intOf]; omega
      · have hf : Hid (eqN p l = true) := eqN_yes HL.out fun k hk => hall.out k (by omega)
        have hlp : ¬ k < p.length := by have := HL.out; omega
        go_wp2
        go_ret
        exact ⟨ret_bool hf.out.symm, hb⟩
  · have hf : Hid (eqN p l = false) := eqN_len hlen
    have hlen' : ((p.length : Int) != (l.length : Int)) = true := by rw [bne_iff_ne]; omega
    clear hlen
    go_enter Try.func39, Try.ntmps39
    go_wp2
    go_ret
    exact ⟨ret_bool hf.out.symm, Below.refl _ _⟩

set_option maxRecDepth 100000 in
theorem fits_any (vp vl : Value) (p : List Sp) (l : List At) (B : Nat) (w : World) (hp : Sps w B vp p) (hl : Ats w B vl l) (hB : B ≤ w.heap.size) (hr : Reach p.length) :
    Calls Try.prog 25 #[vp, vl] w fun e w' => e = .returned (.bool (fitB p l)) ∧ Below w.heap.size w w' := by
  obtain ⟨Ap, cp, rfl⟩ := hp.form
  obtain ⟨Al, cl, rfl⟩ := hl.form
  by_cases h1 : specN p = 0
  · have H1 := Lib.hid h1
    by_cases h2 : checkN l = 0
    · have H2 := Lib.hid h2
      have hf : Hid (fitB p l = eqN p l) := by show _ = _; unfold fitB; simp [h1, h2]
      clear h1 h2
      go_enter Try.func25, Try.ntmps25
      go_wp2_with fail
      refine (checkSpecs_any _ p B w hp hB hr).mono ?_
      rintro e w1 ⟨rfl, b1⟩
      rw [H1.out]
      go_wp2_with fail
      refine (check_any _ l B w1 (hl.below (b1.mono hB)) (Nat.le_trans hB b1.size)).mono ?_
      rintro e w2 ⟨rfl, b2⟩
      rw [H2.out]
      have b4 := b1.trans (b2.mono b1.size)
      clear b1 b2
      go_wp2_with fail
      refine (equalFunc_any _ _ p l B w2 (hp.below (b4.mono hB)) (hl.below (b4.mono hB)) (Nat.le_trans hB b4.size)).mono ?_
      rintro e w3 ⟨rfl, b3⟩
      go_wp2
      go_ret
      exact ⟨ret_bool hf.out.symm, b4.trans (b3.mono b4.size)⟩
    · have hf : Hid (fitB p l = false) := by show _ = _; unfold fitB; simp [h2]
      obtain ⟨c, hc⟩ : ∃ c, Hid (c = checkN l) := ⟨checkN l, rfl⟩
      rw [← hc.out] at h2
      have h0' : (c == 0) = false := beq_eq_false_iff_ne.2 h2
      clear h1
      go_enter Try.func25, Try.ntmps25
      go_wp2_with fail
      refine (checkSpecs_any _ p B w hp hB hr).mono ?_
      rintro e w1 ⟨rfl, b1⟩
      rw [H1.out]
      go_wp2_with fail
      refine (check_any _ l B w1 (hl.below (b1.mono hB)) (Nat.le_trans hB b1.size)).mono ?_
      rintro e w2 ⟨rfl, b2⟩
      rw [← hc.out]
      have b4 := b1.trans (b2.mono b1.size)
      go_wp2
      go_ret
      exact ⟨ret_bool hf.out.symm, b4⟩
  · have hf : Hid (fitB p l = false) := by show _ = _; unfold fitB; simp [h1]
    obtain ⟨c, hc⟩ : ∃ c, Hid (c = specN p) := ⟨specN p, rfl⟩
    rw [← hc.out] at h1
    have h0' : (c == 0) = false := beq_eq_false_iff_ne.2 h1
    go_enter Try.func25, Try.ntmps25
    go_wp2_with fail
    refine (checkSpecs_any _ p B w hp hB hr).mono ?_
    rintro e w1 ⟨rfl, b1⟩
    rw [← hc.out]
    go_wp2
    go_ret
    exact ⟨ret_bool hf.out.symm, b1⟩

set_option maxRecDepth 100000 in
theorem refFits_any (vp vl : Value) (p : List Sp) (l : List At) (B : Nat) (w : World) (hp : Sps w B vp p) (hl : Ats w B vl l) (hB : B ≤ w.heap.size) (hr : Reach p.length)
    (hs1 : Hid (∀ a ∈ p, a.n.size ≤ maxLen ∧ a.d.size ≤ maxLen)) (hs2 : Hid (∀ a ∈ l, a.n.size ≤ maxLen ∧ a.v.size ≤ maxLen)) :
    Calls Try.prog 26 #[vp, vl] w fun e w' => e = .returned (.bool (fitB p l)) ∧ Below w.heap.size w w' := by
  obtain ⟨Ap, cp, rfl⟩ := hp.form
  obtain ⟨Al, cl, rfl⟩ := hl.form
  by_cases h1 : specN p = 0
  · have H1 := Lib.hid h1
    by_cases h2 : checkN l = 0
    · have H2 := Lib.hid h2
      have hf : Hid (fitB p l = eqN p l) := by show _ = _; unfold fitB; simp [h1, h2]
      have hl8 := checkN_len h2
      by_cases hlen : p.length = l.length
      · have hlen' : ((p.length : Int) != (l.length : Int)) = false := by simp; omega
        have HL := Lib.hid hlen
        clear hlen h1 h2
        go_enter Try.func26, Try.ntmps26
        go_wp2_with fail
        refine (refCheckSpecs_any _ p B w hp hB hr hs1).mono ?_
        rintro e w1 ⟨rfl, b1⟩
        rw [H1.out]
        go_wp2_with fail
        refine (refCheck_any _ l B w1 (hl.below (b1.mono hB)) (Nat.le_trans hB b1.size) hs2).mono ?_
        rintro e w2 ⟨rfl, b2⟩
        rw [H2.out]
        have b4 := b1.trans (b2.mono b1.size)
        clear b1 b2
        go_wp2
        go_loopw [5] (fun i wr => ∃ k : Nat, k ≤ l.length ∧ i = .int .i64 k ∧ Below w.heap.size w wr ∧ Hid (∀ j, j < k → nmK p l j = true)) (fun i _ => l.length - (intOf i).toNat)
        case atStart => exact ⟨0, Nat.zero_le _, rfl, b4, fun j hj => by omega⟩
        case round =>
          obtain ⟨k, hk, rfl, hb, hall⟩ := hrel
          by_cases hlt : k < l.length
          · have hlp : k < p.length := by have := HL.out; omega
            obtain ⟨bp, offp, rfl, hbpB, hcpp, hp0, hp1, hp2⟩ := (hp.below (hb.mono hB)).at hlp
            obtain ⟨bl, offl, rfl, hblB, hcll, hl0, hl1⟩ := (hl.below (hb.mono hB)).at hlt
            have hi1 : (k : Int) < (l.length : Int) := by omega
            have hi2 : (k : Int) < (p.length : Int) := by omega
            have hi3 : (0 : Int) ≤ (k : Int) := by omega
            have e1 : Hid (nmK p l k = (l[k].n.toList == p[k].n.toList)) := by show _ = _; unfold nmK; rw [gS_get p k hlp, gA_get l k hlt, Bool.eq_iff_iff, eqS_iff, eqS_iff]; exact eq_comm
            cases h : (l[k].n.toList == p[k].n.toList)
            · have hf2 : Hid (eqN p l = false) := eqN_no hlt (e1.out.trans h)
              go_wp2
              go_quiet (fail)
              go_wp2
              go_ret
              exact ⟨ret_bool (by rw [hf.out, hf2.out]), blN hb _⟩
            · have hall' : Hid (∀ j, j < k + 1 → nmK p l j = true) := by
                show ∀ j, _
                intro j hj
                by_cases e : j = k
                · subst e; exact e1.out.trans h
                · exact hall.out j (by omega)
              go_wp2
              go_quiet (fail)
              go_wp2
              go_roundw
              case rel => exact ⟨k + 1, by omega, by go_num, blN hb _, hall'⟩
              case measure => simp [intOf]; omega
          · have hf2 : Hid (eqN p l = true) := eqN_yes HL.out fun k hk => hall.out k (by omega)
            go_wp2
            go_ret
            exact ⟨ret_bool (by rw [hf.out, hf2.out]), hb⟩
      · have hf2 : Hid (eqN p l = false) := eqN_len hlen
        have hlen' : ((p.length : Int) != (l.length : Int)) = true := by rw [bne_iff_ne]; omega
        clear hlen h1 h2
        go_enter Try.func26, Try.ntmps26
        go_wp2_with fail
        refine (refCheckSpecs_any _ p B w hp hB hr hs1).mono ?_
        rintro e w1 ⟨rfl, b1⟩
        rw [H1.out]
        go_wp2_with fail
        refine (refCheck_any _ l B w1 (hl.below (b1.mono hB)) (Nat.le_trans hB b1.size) hs2).mono ?_
        rintro e w2 ⟨rfl, b2⟩
        rw [H2.out]
        have b4 := b1.trans (b2.mono b1.size)
        go_wp2
        go_ret
        exact ⟨ret_bool (by rw [hf.out, hf2.out]), b4⟩
    · have hf : Hid (fitB p l = false) := by show _ = _; unfold fitB; simp [h2]
      obtain ⟨c, hc⟩ : ∃ c, Hid (c = checkN l) := ⟨checkN l, rfl⟩
      rw [← hc.out] at h2
      have h0' : (c != 0) = true := by rw [bne_iff_ne]; exact h2
      clear h1
      go_enter Try.func26, Try.ntmps26
      go_wp2_with fail
      refine (refCheckSpecs_any _ p B w hp hB hr hs1).mono ?_
      rintro e w1 ⟨rfl, b1⟩
      rw [H1.out]
      go_wp2_with fail
      refine (refCheck_any _ l B w1 (hl.below (b1.mono hB)) (Nat.le_trans hB b1.size) hs2).mono ?_
      rintro e w2 ⟨rfl, b2⟩
      rw [← hc.out]
      have b4 := b1.trans (b2.mono b1.size)
      go_wp2
      go_ret
      exact ⟨ret_bool hf.out.symm, b4⟩
  · have hf : Hid (fitB p l = false) := by show _ = _; unfold fitB; simp [h1]
    obtain ⟨c, hc⟩ : ∃ c, Hid (c = specN p) := ⟨specN p, rfl⟩
    rw [← hc.out] at h1
    have h0' : (c != 0) = true := by rw [bne_iff_ne]; exact h1
    go_enter Try.func26, Try.ntmps26
    go_wp2_with fail
    refine (refCheckSpecs_any _ p B w hp hB hr hs1).mono ?_
    rintro e w1 ⟨rfl, b1⟩
    rw [← hc.out]
    go_wp2
    go_ret
    exact ⟨ret_bool hf.out.symm, b1⟩
end Go.Proofs.Ytjoogocgklhgpaa
