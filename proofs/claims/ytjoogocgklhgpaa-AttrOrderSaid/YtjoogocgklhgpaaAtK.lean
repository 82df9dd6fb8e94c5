/- attr: Check. -/
import Derived.Test.YtjoogocgklhgpaaAtC
namespace Go.Proofs.Ytjoogocgklhgpaa
open Go.RowKit
def At.z : At := ⟨.empty, .empty⟩
def gA (l : List At) (k : Nat) : At := l.getD k At.z
theorem gA_get (l : List At) (k : Nat) (hk : k < l.length) : gA l k = l[k] := by unfold gA List.getD; rw [List.getElem?_eq_getElem hk]; rfl
def riseB (l : List At) (k : Nat) : Bool := decide (k = 0) || ltS (gA l (k - 1)).n (gA l k).n
def okK (l : List At) (k : Nat) : Bool := riseB l k && nameB (gA l k).n && valueB (gA l k).v
def okL (l : List At) : Bool := (List.range l.length).all (okK l)
def checkN (l : List At) : Int := if 8 < l.length ∨ l.any longB = true then 3 else if okL l = true then 0 else 2
theorem okL_yes {l : List At} (h : ∀ k, k < l.length → okK l k = true) : okL l = true := by
  unfold okL; rw [List.all_eq_true]; intro k hk; exact h k (List.mem_range.1 hk)
theorem okL_no {l : List At} {k : Nat} (hk : k < l.length) (h : okK l k = false) : okL l = false := by
  unfold okL; rw [← Bool.not_eq_true, List.all_eq_true]; intro hall; rw [hall k (List.mem_range.2 hk)] at h; cases h
theorem okL_at {l : List At} (h : okL l = true) {k : Nat} (hk : k < l.length) : okK l k = true := by
  unfold okL at h; rw [List.all_eq_true] at h; exact h k (List.mem_range.2 hk)
theorem blN {B : Nat} {a w : World} (h : Below B a w) (n : Nat) : Below B a (w.drewN n) := ⟨h.os, h.tape, h.output, h.size, h.block⟩

set_option maxRecDepth 100000 in
theorem check_any (v : Value) (l : List At) (B : Nat) (w : World) (hv : Ats w B v l) (hB : B ≤ w.heap.size) :
    Calls Try.prog 11 #[v] w fun e w' => e = .returned (.int .i64 (checkN l)) ∧ Below w.heap.size w w' := by
  obtain ⟨A, cap, rfl⟩ := hv.form
  by_cases h1 : 8 < l.length
  · have hfin : Hid (checkN l = 3) := by show _ = _; unfold checkN; rw [if_pos (.inl h1)]
    go_enter Try.func11, Try.ntmps11
    go_wp2
    go_ret
    exact ⟨ret_int hfin.out.symm, Below.refl _ _⟩
  by_cases h2 : l.any longB = true
  · have hfin : Hid (checkN l = 3) := by show _ = _; unfold checkN; rw [if_pos (.inr h2)]
    have h2 := Lib.hid h2
    go_enter Try.func11, Try.ntmps11
    go_wp2_with fail
    refine (contLong_any _ l B w hv hB).mono ?_
    rintro e w1 ⟨rfl, B1⟩
    rw [h2.out]
    go_wp2
    go_ret
    exact ⟨ret_int hfin.out.symm, B1⟩
  · have h2' : Hid (l.any longB = false) := by show _ = _; simpa using h2
    have hfin : Hid (checkN l = if okL l = true then 0 else 2) := by show _ = _; unfold checkN; rw [if_neg (by rintro (h | h); exact h1 h; exact h2 h)]
    clear h2
    go_enter Try.func11, Try.ntmps11
    go_wp2_with fail
    refine (contLong_any _ l B w hv hB).mono ?_
    rintro e w1 ⟨rfl, B1⟩
    rw [h2'.out]
    go_wp2
    go_loopw [15] (fun i wr => ∃ k : Nat, k ≤ l.length ∧ i = .int .i64 k ∧ Below w.heap.size w wr ∧ Hid (∀ j, j < k → okK l j = true)) (fun i _ => l.length - (intOf i).toNat)
    case atStart => exact ⟨0, Nat.zero_le _, rfl, B1, fun j hj => by omega⟩
    case round =>
      obtain ⟨k, hk, rfl, hb, hall⟩ := hrel
      by_cases hlt : k < l.length
      · have hv1 := hv.below (hb.mono hB)
        obtain ⟨b, off, rfl, hbB, hcap, hc0, hc1⟩ := hv1.at hlt
        have hsz := hb.size
        have hbw : b < wr.heap.size := by omega
        by_cases hk0 : k = 0
        · subst hk0
          simp only [Nat.zero_mul, Nat.add_zero] at hc0 hc1
          have hri : Hid (riseB l 0 = true) := rfl
          go_wp2
          go_quiet (fail)
          go_wp2_with fail
          refine (name_any l[0].n _).mono ?_
          rintro e w2 ⟨rfl, hb2⟩
          have hcv : w2.cell? ⟨wr.heap.size, 1, none⟩ = some (.string l[0].v) := (hb2.cell (by simp)).trans (by go_simp)
          have hb3 : Below w.heap.size w w2 := (blN (hb.alloc hsz _) _).trans (hb2.mono (by simp; omega))
          have hs3 := hb3.size
          clear hb2
          by_cases hn : nameB l[0].n = true
          · rw [hn]
            have hn := Lib.hid hn
            go_wp2_with fail
            refine (value_any l[0].v _).mono ?_
            rintro e w3 ⟨rfl, hb4⟩
            have hb5 := hb3.trans (hb4.mono hs3)
            clear hb4
            by_cases hva : valueB l[0].v = true
            · have hok : Hid (∀ j, j < 0 + 1 → okK l j = true) := by
                show ∀ j, _
                intro j hj
                by_cases e : j = 0
                · subst e; unfold okK; rw [gA_get l _ hlt, hri.out, hn.out, hva]; rfl
                · exact hall.out j (by omega)
              rw [hva]
              clear hva
              go_wp2
              go_roundw
              case rel => exact ⟨0 + 1, by omega, by go_num, hb5, hok⟩
              case measure => simp [intOf]; omega
            · have hbad : Hid (okL l = false) := okL_no hlt (by unfold okK; rw [gA_get l _ hlt, show valueB l[0].v = false by simpa using hva]; simp)
              rw [show valueB l[0].v = false by simpa using hva]
              clear hva
              go_wp2
              go_ret
              exact ⟨ret_int (by rw [hfin.out, hbad.out]; rfl), hb5⟩
          · have hbad : Hid (okL l = false) := okL_no hlt (by unfold okK; rw [gA_get l _ hlt, show nameB l[0].n = false by simpa using hn]; simp)
            rw [show nameB l[0].n = false by simpa using hn]
            clear hn
            go_wp2
            go_ret
            exact ⟨ret_int (by rw [hfin.out, hbad.out]; rfl), hb3⟩
        · obtain ⟨m, rfl⟩ : ∃ m, k = m + 1 := ⟨k - 1, by omega⟩
          obtain ⟨_, _, he, _, _, hd0, hd1⟩ := hv1.at (k := m) (by omega)
          cases he
          have hw1 : IntKind.i64.wrap (m : Int) = (m : Int) := IntWalk.i64_in _ (by omega)
          have hw2 : (m : Int) < l.length := by omega
          have hz : (((m : Int) + 1) == 0) = false := beq_eq_false_iff_ne.2 (by omega)
          have hre : Hid (riseB l (m + 1) = Op.bytesLess l[m].n.toList l[m + 1].n.toList) := by
            show _ = _
            unfold riseB
            rw [gA_get l _ hlt, show m + 1 - 1 = m by omega, gA_get l m (by omega)]
            simp [ltS]
          by_cases hr : Op.bytesLess l[m].n.toList l[m + 1].n.toList = true
          · have hri : Hid (riseB l (m + 1) = true) := hre.out.trans hr
            go_wp2
            go_quiet (fail)
            clear hw1 hz
            go_wp2_with fail
            refine (name_any l[m + 1].n _).mono ?_
            rintro e w2 ⟨rfl, hb2⟩
            have hcv : w2.cell? ⟨wr.heap.size, 1, none⟩ = some (.string l[m + 1].v) := (hb2.cell (by simp)).trans (by go_simp)
            have hb3 : Below w.heap.size w w2 := (blN (hb.alloc hsz _) _).trans (hb2.mono (by simp; omega))
            have hs3 := hb3.size
            clear hb2
            by_cases hn : nameB l[m + 1].n = true
            · rw [hn]
              have hn := Lib.hid hn
              go_wp2_with fail
              refine (value_any l[m + 1].v _).mono ?_
              rintro e w3 ⟨rfl, hb4⟩
              have hb5 := hb3.trans (hb4.mono hs3)
              clear hb4
              by_cases hva : valueB l[m + 1].v = true
              · have hok : Hid (∀ j, j < m + 1 + 1 → okK l j = true) := by
                  show ∀ j, _
                  intro j hj
                  by_cases e : j = m + 1
                  · subst e; unfold okK; rw [gA_get l _ hlt, hri.out, hn.out, hva]; rfl
                  · exact hall.out j (by omega)
                rw [hva]
                clear hva
                go_wp2
                go_roundw
                case rel => exact ⟨m + 1 + 1, by omega, by go_num, hb5, hok⟩
                case measure => simp [intOf]; omega
              · have hbad : Hid (okL l = false) := okL_no hlt (by unfold okK; rw [gA_get l _ hlt, show valueB l[m + 1].v = false by simpa using hva]; simp)
                rw [show valueB l[m + 1].v = false by simpa using hva]
                clear hva
                go_wp2
                go_ret
                exact ⟨ret_int (by rw [hfin.out, hbad.out]; rfl), hb5⟩
            · have hbad : Hid (okL l = false) := okL_no hlt (by unfold okK; rw [gA_get l _ hlt, show nameB l[m + 1].n = false by simpa using hn]; simp)
              rw [show nameB l[m + 1].n = false by simpa using hn]
              clear hn
              go_wp2
              go_ret
              exact ⟨ret_int (by rw [hfin.out, hbad.out]; rfl), hb3⟩
          · have hr' : Op.bytesLess l[m].n.toList l[m + 1].n.toList = false := by simpa using hr
            have hbad : Hid (okL l = false) := okL_no hlt (by unfold okK; rw [hre.out, hr']; rfl)
            clear hr
            go_wp2
            go_quiet (fail)
            go_wp2
            go_ret
            exact ⟨ret_int (by rw [hfin.out, hbad.out]; rfl), blN (hb.alloc hsz _) _⟩
      · have hyes : Hid (okL l = true) := okL_yes fun j hj => hall.out j (by omega)
        go_wp2
        go_ret
        exact ⟨ret_int (by rw [hfin.out, hyes.out]; rfl), hb⟩
end Go.Proofs.Ytjoogocgklhgpaa
