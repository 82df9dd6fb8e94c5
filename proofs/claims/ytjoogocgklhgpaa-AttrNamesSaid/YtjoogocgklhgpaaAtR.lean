/- attr: the document's own Check and CheckSpecs. -/
import Derived.Test.YtjoogocgklhgpaaAtK
import Derived.Deep.LoopGhost
import Derived.Deep.DeepCutAuto
import Derived.Deep.RegionHeld3
namespace Go.Proofs.Ytjoogocgklhgpaa
open Go.RowKit

def lgB (l : List At) (k : Nat) : Bool := decide (8 < l.length) || (l.take k).any longB
def oddB (l : List At) (k : Nat) : Bool := (List.range k).any fun j => !okK l j
theorem lgB_succ (l : List At) (k : Nat) (hk : k < l.length) : lgB l (k + 1) = (lgB l k || longB l[k]) := by
  unfold lgB; rw [List.take_succ_eq_append_getElem hk, List.any_append]; simp [Bool.or_assoc]
theorem oddB_succ (l : List At) (k : Nat) : oddB l (k + 1) = (oddB l k || !okK l k) := by
  unfold oddB; rw [List.range_succ]; simp
theorem oddB_all (l : List At) : oddB l l.length = !okL l := by
  unfold oddB okL; rw [List.not_all_eq_any_not]
theorem checkN_eq (l : List At) : checkN l = if lgB l l.length = true then 3 else if oddB l l.length = true then 2 else 0 := by
  rw [oddB_all]; unfold checkN lgB; rw [List.take_length]
  cases okL l <;> by_cases h : 8 < l.length <;> simp [h]

set_option maxRecDepth 100000 in
theorem refCheck_any (v : Value) (l : List At) (B : Nat) (w : World) (hv : Ats w B v l) (hB : B ≤ w.heap.size) (hs : Hid (∀ a ∈ l, a.n.size ≤ maxLen ∧ a.v.size ≤ maxLen)) :
    Calls Try.prog 16 #[v] w fun e w' => e = .returned (.int .i64 (checkN l)) ∧ Below w.heap.size w w' := by
  obtain ⟨A, cap, rfl⟩ := hv.form
  have hm := hv.max
  unfold maxLen at hm
  have hfin := Lib.hid (checkN_eq l)
  go_enter Try.func16, Try.ntmps16
  go_wp2
  go_loopg [3, 4, 5] l.length (fun g s3 s4 s5 wr => ∃ k : Nat, k ≤ l.length ∧ g = l.length - k ∧ s5 = .int .i64 k ∧ s3 = .bool (lgB l k) ∧ s4 = .bool (oddB l k) ∧ Below w.heap.size w wr)
  case atStart => exact ⟨0, Nat.zero_le _, by omega, rfl, congrArg Value.bool (by unfold lgB; rw [Bool.eq_iff_iff]; simp; omega), by simp [oddB], Below.refl _ _⟩
  case round =>
    obtain ⟨k, hk, hg, rfl, rfl, rfl, hb⟩ := hrel
    have HG := Lib.hid hg
    clear hg
    by_cases hlt : k < l.length
    · obtain ⟨b, off, rfl, hbB, hcap, hc0, hc1⟩ := (hv.below (hb.mono hB)).at hlt
      have HL := Lib.hid (lgB_succ l k hlt)
      have HO := Lib.hid (oddB_succ l k)
      generalize lgB l k = b3 at *
      generalize oddB l k = b4 at *
      obtain ⟨b5, h5⟩ : ∃ b, Hid (b = lgB l (k + 1)) := ⟨_, rfl⟩
      go_upto_region 5 with fail
      go_cut [3] (fun s3 wx => s3 = .bool b5 ∧ wr = wx)
      case first =>
        cases b3
        · by_cases h16 : 16 < l[k].n.size
          · have e1 : Hid (longB l[k] = true) := by show _ = _; unfold longB; simp [h16]
            go_wp2
            go_meet
            exact ⟨congrArg Value.bool (by rw [h5.out, HL.out, e1.out]; rfl), rfl⟩
          · have e1 : Hid (longB l[k] = decide (64 < l[k].v.size)) := by show _ = _; unfold longB; simp [h16]
            by_cases h64 : 64 < l[k].v.size
            · go_wp2
              go_meet
              exact ⟨congrArg Value.bool (by rw [h5.out, HL.out, e1.out, Bool.eq_iff_iff]; simp; omega), rfl⟩
            · go_wp2
              go_meet
              exact ⟨congrArg Value.bool (by rw [h5.out, HL.out, e1.out, Bool.eq_iff_iff]; simp; omega), rfl⟩
        · go_wp2
          go_meet
          exact ⟨congrArg Value.bool (by rw [h5.out, HL.out]; rfl), rfl⟩
      case rest =>
        obtain ⟨rfl, rfl⟩ := hcut
        go_upto_region 6 with fail
        have hsn := hs.out _ (List.getElem_mem hlt)
        have hga := gA_get l k hlt
        cases b4
        · cases hn : nameB l[k].n
          · have HX : Hid (okK l k = false) := by show _ = _; unfold okK; rw [hga, hn]; simp
            have HN : Hid (∀ W, Calls Try.prog 13 #[.string l[k].n] W fun e w' => e = .returned (.bool false) ∧ w' = W) := fun W => (refName_any _ W hsn.1).mono fun _ _ ⟨a, b⟩ => ⟨by rw [a, hn], b.symm⟩
            clear hn hga hsn
            go_quiet ((go_at_call 13; exact Calls.quiet_of_same (HN.out _)))
            go_wp2
            go_roundg (l.length - (k + 1))
            case measure => have := HG.out; omega
            case rel => exact ⟨k + 1, by omega, rfl, by go_num, congrArg Value.bool h5.out, congrArg Value.bool (by rw [HO.out, HX.out]; rfl), blN hb _⟩
          · have HN : Hid (∀ W, Calls Try.prog 13 #[.string l[k].n] W fun e w' => e = .returned (.bool true) ∧ w' = W) := fun W => (refName_any _ W hsn.1).mono fun _ _ ⟨a, b⟩ => ⟨by rw [a, hn], b.symm⟩
            cases hva : valueB l[k].v
            · have HX : Hid (okK l k = false) := by show _ = _; unfold okK; rw [hga, hva]; simp
              have HV : Hid (∀ W, Calls Try.prog 15 #[.string l[k].v] W fun e w' => e = .returned (.bool false) ∧ w' = W) := fun W => (refValue_any _ W hsn.2).mono fun _ _ ⟨a, b⟩ => ⟨by rw [a, hva], b.symm⟩
              clear hn hga hsn hva
              go_quiet ((first | (go_at_call 13; exact Calls.quiet_of_same (HN.out _)) | (go_at_call 15; exact Calls.quiet_of_same (HV.out _))))
              go_wp2
              go_roundg (l.length - (k + 1))
              case measure => have := HG.out; omega
              case rel => exact ⟨k + 1, by omega, rfl, by go_num, congrArg Value.bool h5.out, congrArg Value.bool (by rw [HO.out, HX.out]; rfl), blN hb _⟩
            · have HV : Hid (∀ W, Calls Try.prog 15 #[.string l[k].v] W fun e w' => e = .returned (.bool true) ∧ w' = W) := fun W => (refValue_any _ W hsn.2).mono fun _ _ ⟨a, b⟩ => ⟨by rw [a, hva], b.symm⟩
              have HX : Hid (okK l k = riseB l k) := by show _ = _; unfold okK; rw [hga, hn, hva]; simp
              clear hn hga hsn hva
              by_cases hk0 : k = 0
              · subst hk0
                simp only [Nat.zero_mul, Nat.add_zero] at hc0 hc1
                go_quiet ((first | (go_at_call 13; exact Calls.quiet_of_same (HN.out _)) | (go_at_call 15; exact Calls.quiet_of_same (HV.out _))))
                go_wp2
                go_roundg (l.length - (0 + 1))
                case measure => have := HG.out; omega
                case rel => exact ⟨0 + 1, by omega, rfl, by go_num, congrArg Value.bool h5.out, congrArg Value.bool (by rw [HO.out, HX.out]; rfl), blN hb _⟩
              · obtain ⟨m, rfl⟩ : ∃ m, k = m + 1 := ⟨k - 1, by omega⟩
                obtain ⟨_, _, he, _, _, hd0, hd1⟩ := (hv.below (hb.mono hB)).at (k := m) (by omega)
                cases he
                have hre : Hid (riseB l (m + 1) = Op.bytesLess l[m].n.toList l[m + 1].n.toList) := by
                  show _ = _
                  unfold riseB
                  rw [gA_get l _ hlt, show m + 1 - 1 = m by omega, gA_get l m (by omega)]
                  simp [ltS]
                have hw1 : IntKind.i64.wrap (m : Int) = (m : Int) := IntWalk.i64_in _ (by omega)
                have hw2 : (m : Int) < l.length := by omega
                have hz : decide ((0 : Int) < (m : Int) + 1) = true := by simp
                have hz2 : (0 : Int) < (m : Int) + 1 := by omega
                go_quiet ((first | (go_at_call 13; exact Calls.quiet_of_same (HN.out _)) | (go_at_call 15; exact Calls.quiet_of_same (HV.out _))))
                go_wp2
                go_roundg (l.length - (m + 1 + 1))
                case measure => have := HG.out; omega
                case rel => exact ⟨m + 1 + 1, by omega, rfl, by go_num, congrArg Value.bool h5.out, congrArg Value.bool (by rw [HO.out, HX.out, hre.out]; rfl), blN hb _⟩
        · go_quiet (fail)
          go_wp2
          go_roundg (l.length - (k + 1))
          case measure => have := HG.out; omega
          case rel => exact ⟨k + 1, by omega, rfl, by go_num, congrArg Value.bool h5.out, congrArg Value.bool (by rw [HO.out]; rfl), blN hb _⟩
    · have e : k = l.length := by omega
      subst e
      cases h3 : lgB l l.length
      · cases h4 : oddB l l.length
        · have hf : Hid (checkN l = 0) := by show _ = _; rw [hfin.out, h3, h4]; rfl
          clear h3 h4
          go_wp2
          go_ret
          exact ⟨ret_int hf.out.symm, hb⟩
        · have hf : Hid (checkN l = 2) := by show _ = _; rw [hfin.out, h3, h4]; rfl
          clear h3 h4
          go_wp2
          go_ret
          exact ⟨ret_int hf.out.symm, hb⟩
      · have hf : Hid (checkN l = 3) := by show _ = _; rw [hfin.out, h3]; rfl
        clear h3
        go_wp2
        go_ret
        exact ⟨ret_int hf.out.symm, hb⟩
end Go.Proofs.Ytjoogocgklhgpaa
