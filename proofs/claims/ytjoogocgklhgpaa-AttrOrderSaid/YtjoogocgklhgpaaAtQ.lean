/- attr: CheckSpecs, and the document's own CheckSpecs. -/
import Derived.Test.YtjoogocgklhgpaaAtP
namespace Go.Proofs.Ytjoogocgklhgpaa
open Go.RowKit

def specN (l : List Sp) : Int := if checkN (l.map fillOf) = 0 then (if l.any needlessB = true then 2 else 0) else checkN (l.map fillOf)

set_option maxRecDepth 100000 in
theorem checkSpecs_any (v : Value) (l : List Sp) (B : Nat) (w : World) (hv : Sps w B v l) (hB : B ≤ w.heap.size) (hl : Reach l.length) :
    Calls Try.prog 17 #[v] w fun e w' => e = .returned (.int .i64 (specN l)) ∧ Below w.heap.size w w' := by
  obtain ⟨A, cap, rfl⟩ := hv.form
  go_enter Try.func17, Try.ntmps17
  go_wp2_with fail
  refine (defaults_any _ l B w hv hB hl).mono ?_
  rintro e w1 ⟨v1, rfl, o1, b1⟩
  have hs1 := b1.size
  go_wp2_with fail
  refine (check_any _ (l.map fillOf) w1.heap.size w1 (Ats.own o1) (Nat.le_refl _)).mono ?_
  rintro e w2 ⟨rfl, b2⟩
  have hb := b1.trans (b2.mono hs1)
  clear b2 o1
  by_cases h0 : checkN (l.map fillOf) = 0
  · have hfin : Hid (specN l = if l.any needlessB = true then 2 else 0) := by show _ = _; unfold specN; rw [if_pos h0]
    rw [h0]
    clear h0
    go_wp2_with fail
    refine (contNeed_any _ l B w2 (hv.below (hb.mono hB)) (Nat.le_trans hB hb.size)).mono ?_
    rintro e w3 ⟨rfl, b3⟩
    have hb' := hb.trans (b3.mono hb.size)
    cases hn : l.any needlessB
    · have hf : Hid (specN l = 0) := by show _ = _; rw [hfin.out, hn]; rfl
      clear hn
      go_wp2
      go_ret
      exact ⟨ret_int hf.out.symm, hb'⟩
    · have hf : Hid (specN l = 2) := by show _ = _; rw [hfin.out, hn]; rfl
      clear hn
      go_wp2
      go_ret
      exact ⟨ret_int hf.out.symm, hb'⟩
  · have hfin : Hid (specN l = checkN (l.map fillOf)) := by show _ = _; unfold specN; rw [if_neg h0]
    generalize checkN (l.map fillOf) = c at *
    have h0' : (c != 0) = true := by rw [bne_iff_ne]; exact h0
    go_wp2
    go_ret
    exact ⟨ret_int hfin.out.symm, hb⟩

set_option maxRecDepth 100000 in
theorem refCheckSpecs_any (v : Value) (l : List Sp) (B : Nat) (w : World) (hv : Sps w B v l) (hB : B ≤ w.heap.size) (hl : Reach l.length) (hs : Hid (∀ a ∈ l, a.n.size ≤ maxLen ∧ a.d.size ≤ maxLen)) :
    Calls Try.prog 18 #[v] w fun e w' => e = .returned (.int .i64 (specN l)) ∧ Below w.heap.size w w' := by
  obtain ⟨A, cap, rfl⟩ := hv.form
  unfold Reach at hl
  go_enter Try.func18, Try.ntmps18
  go_wp2
  go_loopg [3, 4, 5] l.length (fun g s3 s4 s5 wr => ∃ k : Nat, k ≤ l.length ∧ g = l.length - k ∧ s5 = .int .i64 k ∧ Hid (wr.ownsRow w.heap.size 29 2 s3 k (atC ((l.take k).map fillOf))) ∧ s4 = .bool ((l.take k).any needlessB) ∧ Below w.heap.size w wr)
  case atStart => exact ⟨0, Nat.zero_le _, by omega, rfl, World.ownsRow_nil w _ _ 2, by simp, Below.refl _ _⟩
  case round =>
    obtain ⟨k, hk, hg, rfl, ho, rfl, hb⟩ := hrel
    have HG := Lib.hid hg
    clear hg
    by_cases hlt : k < l.length
    · obtain ⟨b, off, rfl, hbB, hcap, hc0, hc1, hc2⟩ := (hv.below (hb.mono hB)).at hlt
      have hsz := hb.size
      obtain ⟨b4, h4⟩ : ∃ b, b = (l.take k).any needlessB := ⟨_, rfl⟩
      rw [← h4]
      have H4 := Lib.hid h4.symm
      clear h4
      have hbw : b < wr.heap.size := by omega
      have hc0' : (wr.drew).cell? ⟨b, off + k * 3, none⟩ = some (.string l[k].n) := hc0
      have hc1' : (wr.drew).cell? ⟨b, off + k * 3 + 1, none⟩ = some (.string l[k].d) := hc1
      have hne : some b ≠ u3.ownBlock := fun h => by have := (ho.out.lt b h.symm).1; omega
      have hc0a : (wr.alloc (.cells #[.string l[k].n, .string l[k].d] 29)).drew.cell? ⟨b, off + k * 3, none⟩ = some (.string l[k].n) := by go_simp
      have hc1a : (wr.alloc (.cells #[.string l[k].n, .string l[k].d] 29)).drew.cell? ⟨b, off + k * 3 + 1, none⟩ = some (.string l[k].d) := by go_simp
      have o1 := Lib.hid ((World.ownsRow.alloc (w := wr.drew) ho.out (.cells #[.string l[k].n, .string l[k].d] 29)))
      go_wp2_with fail
      go_region_held3 (fun w' => w'.cell? ⟨b, off + k * 3, none⟩ = some (.string l[k].n) ∧ w'.cell? ⟨b, off + k * 3 + 1, none⟩ = some (.string l[k].d))
        (first
          | exact ⟨hc0', hc1'⟩
          | exact ⟨hc0a, hc1a⟩
          | exact ⟨(hg3.cell_far ⟨b, off + k * 3, none⟩ (by simp; omega) hne).trans hc0a, (hg3.cell_far ⟨b, off + k * 3 + 1, none⟩ (by simp; omega) hne).trans hc1a⟩)
        ((refine step_appR _ (by rfl) (.tmp 13) (.tmp 25) 22 29 (by rfl) _ 2 32 Try.underlying22 infoAt (by rfl) (by decide) w.heap.size (by rfl) (by rfl) o1.out (Rd.lit wr.drew 29 2 1 #[.string l[k].n, .string l[k].d] (0, 0) rfl (by omega)) (by simp [Value.oneCell']) (by unfold maxLen; omega) (by omega) (by simp; omega) ?_; intro v' w3 hown' hg3 hat))
      have hc2b : w3.cell? ⟨b, off + k * 3 + 1 + 1, none⟩ = some (.bool l[k].m) := (hg3.cell_far ⟨b, off + k * 3 + 1 + 1, none⟩ (by simp; omega) hne).trans (by go_simp)
      have hc1b : w3.cell? ⟨b, off + k * 3 + 1, none⟩ = some (.string l[k].d) := (hg3.cell_far ⟨b, off + k * 3 + 1, none⟩ (by simp; omega) hne).trans hc1a
      have hb4 : Below w.heap.size w w3 := ((hb.alloc hsz _).drew).grown hg3 (by simp; omega) fun g hg => (ho.out.lt g hg).1
      have hown2 : Hid (w3.ownsRow w.heap.size 29 2 v' (k + 1) (atC ((l.take (k + 1)).map fillOf))) := by
        have e1 : atC ((l.take (k + 1)).map fillOf) = atC ((l.take k).map fillOf) ++ [.string l[k].n, .string l[k].d] := by
          rw [List.take_succ_eq_append_getElem hlt, List.map_append, atC_app]; rfl
        show World.ownsRow _ _ _ _ _ _ _
        rw [e1]; exact hown'
      have e4 : Hid ((l.take (k + 1)).any needlessB = (b4 || needlessB l[k])) := by
        show _ = _
        rw [List.take_succ_eq_append_getElem hlt, List.any_append]; simp [H4.out]
      clear hg3 hat ho hown' hc0a hc1a hc0' hc1' o1 hc0 hc1 hc2 hne
      cases b4
      · cases hm : l[k].m
        · have e5 : Hid (needlessB l[k] = false) := by show _ = _; unfold needlessB; rw [hm]; rfl
          rw [hm] at hc2b
          clear hm
          go_wp2
          go_roundg (l.length - (k + 1))
          case measure => have := HG.out; omega
          case rel => exact ⟨k + 1, by omega, rfl, by go_num, hown2, congrArg Value.bool (by rw [e4.out, e5.out]; rfl), hb4⟩
        · have e5 : Hid (needlessB l[k] = !l[k].d.toList.isEmpty) := by show _ = _; unfold needlessB; rw [hm]; rfl
          rw [hm] at hc2b
          clear hm
          go_wp2
          go_roundg (l.length - (k + 1))
          case measure => have := HG.out; omega
          case rel => exact ⟨k + 1, by omega, rfl, by go_num, hown2, congrArg Value.bool (by rw [e4.out, e5.out]; rfl), hb4⟩
      · go_wp2
        go_roundg (l.length - (k + 1))
        case measure => have := HG.out; omega
        case rel => exact ⟨k + 1, by omega, rfl, by go_num, hown2, congrArg Value.bool (by rw [e4.out]; rfl), hb4⟩
    · have e : k = l.length := by omega
      subst e
      have ho1 : Hid (Ats wr wr.heap.size u3 (l.map fillOf)) := by
        have := ho.out
        rw [List.take_length] at this
        refine Ats.own (e := 29) (base := w.heap.size) ?_
        rw [List.length_map]
        exact this
      rw [List.take_length]
      have hsz := hb.size
      go_wp2_with fail
      refine (refCheck_any _ (l.map fillOf) wr.heap.size wr ho1.out (Nat.le_refl _) (fun a ha => by obtain ⟨s, hs', rfl⟩ := List.mem_map.1 ha; exact hs.out s hs')).mono ?_
      rintro e w4 ⟨rfl, hb4⟩
      have hb5 := hb.trans (hb4.mono hsz)
      by_cases h0 : checkN (l.map fillOf) = 0
      · cases hn : l.any needlessB
        · have hf : Hid (specN l = 0) := by show _ = _; unfold specN; rw [if_pos h0, hn]; rfl
          rw [h0]
          clear h0 hn
          go_wp2
          go_ret
          exact ⟨ret_int hf.out.symm, hb5⟩
        · have hf : Hid (specN l = 2) := by show _ = _; unfold specN; rw [if_pos h0, hn]; rfl
          rw [h0]
          clear h0 hn
          go_wp2
          go_ret
          exact ⟨ret_int hf.out.symm, hb5⟩
      · have hfin : Hid (specN l = checkN (l.map fillOf)) := by show _ = _; unfold specN; rw [if_neg h0]
        generalize checkN (l.map fillOf) = c at *
        have h0' : (c == 0) = false := beq_eq_false_iff_ne.2 h0
        go_wp2
        go_ret
        exact ⟨ret_int hfin.out.symm, hb5⟩
end Go.Proofs.Ytjoogocgklhgpaa
