/- MatchLeast: are edges the same. -/
import Derived.Test.YtkbileabkfccgaaGreatDoorCz08

namespace Go.Proofs.YtkbileabkfccgaaGreatDoor
open Go.RowKit

set_option maxRecDepth 100000 in
set_option maxHeartbeats 800000 in
theorem sameEdges_any (va vb : Value) (l m : List Ed) (B : Nat) (w : World) (hl : Eds w B va l) (hm : Eds w B vb m) (hB : B ≤ w.heap.size) :
    Calls Tryz.prog 10 #[va, vb] w (RetB (decide (l = m)) w) := by
  obtain ⟨Al, cl, rfl⟩ := hl.form
  obtain ⟨Am, cm, rfl⟩ := hm.form
  have hml := hl.max
  have hmm := hm.max
  unfold maxLen at hml hmm
  by_cases hlen : l.length = m.length
  · have hlen' : ((l.length : Int) != (m.length : Int)) = false := by simp; omega
    have HL := Lib.hid hlen
    obtain ⟨c, HC⟩ : ∃ c, Hid (c = decide (l = m)) := ⟨_, rfl⟩
    rw [← HC.out]
    clear hlen
    go_enter Tryz.func10, Tryz.ntmps10
    go_wp2
    go_loopw [5] (fun i wr => ∃ k : Nat, k ≤ l.length ∧ i = .int .i64 k ∧ Below w.heap.size w wr ∧ Hid (∀ j (h1 : j < l.length) (h2 : j < m.length), j < k → l[j] = m[j])) (fun i _ => l.length - (intOf i).toNat)
    case atStart => exact ⟨0, Nat.zero_le _, rfl, Below.refl _ _, fun j _ _ hj => by omega⟩
    case round =>
      obtain ⟨k, hk, rfl, hb, hall⟩ := hrel
      by_cases hlt : k < l.length
      · have hltm : k < m.length := by have := HL.out; omega
        obtain ⟨bl, offl, rfl, hblB, hcll, hl0, hl1⟩ := (hl.below (hb.mono hB)).at hlt
        obtain ⟨bm, offm, rfl, hbmB, hcmm, hm0, hm1⟩ := (hm.below (hb.mono hB)).at hltm
        have hs := Lib.hid (eqEd_iff l[k] m[k])
        have hi1 : (k : Int) < (l.length : Int) := by omega
        have hi2 : (k : Int) < (m.length : Int) := by omega
        have hi0 : (0 : Int) ≤ (k : Int) := by omega
        have hq := neqEdge_run l[k].t m[k].t l[k].n m[k].n
        have hgd : Tryz.prog.eqGuardType Tryz.prog.depth 53 = false := by kernel_rfl
        cases he : ((l[k].t.toList == m[k].t.toList) && (l[k].n == m[k].n))
        · have hf : Hid (c = false) := by
            show _ = _; rw [HC.out]; exact eqL_no k hlt hltm fun e => by
              have h2 := hs.out.2 e; unfold eqEd at h2; rw [he] at h2; cases h2
          rw [he] at hq
          clear he
          go_wp2
          go_quiet (fail)
          go_wp2
          go_ret
          exact retB hf.out.symm (beN hb _)
        · have hall' : Hid (∀ j (h1 : j < l.length) (h2 : j < m.length), j < k + 1 → l[j] = m[j]) := by
            show ∀ j, _
            intro j h1 h2 hj
            by_cases e : j = k
            · subst e; exact hs.out.1 he
            · exact hall.out j h1 h2 (by omega)
          rw [he] at hq
          clear he
          go_wp2
          go_quiet (fail)
          go_wp2
          go_roundw
          case rel => exact ⟨k + 1, by omega, by go_num, beN hb _, hall'⟩
          case measure => simp [intOf]; omega
      · have hf : Hid (c = true) := by show _ = _; rw [HC.out]; exact eqL_yes HL.out fun k h1 h2 => hall.out k h1 h2 (by omega)
        go_wp2
        go_ret
        exact retB hf.out.symm hb
  · have hf : Hid (decide (l = m) = false) := eqL_len hlen
    rw [hf.out]
    have hlen' : ((l.length : Int) != (m.length : Int)) = true := by rw [bne_iff_ne]; omega
    clear hlen
    go_enter Tryz.func10, Tryz.ntmps10
    go_wp2
    go_ret
    exact retB rfl (Below.refl _ _)
end Go.Proofs.YtkbileabkfccgaaGreatDoor
