/- attr: Fill. -/
import Derived.Test.YtjoogocgklhgpaaAtO
namespace Go.Proofs.Ytjoogocgklhgpaa
open Go.RowKit

theorem own_drewN {w : World} {e : TypeId} {base sz n : Nat} {v : Value} {cs : List Value} (h : w.ownsRow base e sz v n cs) (k : Nat) : (w.drewN k).ownsRow base e sz v n cs := h
theorem or2 (a b : Int) : orP [a, b] = if a = 0 then b else a := by
  unfold orP
  by_cases h : a = 0
  · rw [if_pos h, if_pos h]; simp [orP]; intro h; exact h.symm
  · rw [if_neg h, if_neg h]
theorem fillE_a {p : List Sp} {l : List At} (h : ¬ (specN p = 0 ∧ checkN l = 0)) : fillE p l = orP [specN p, checkN l] ∧ fillL p l = [] ∧ orP [specN p, checkN l] ≠ 0 := by
  have e : fillE p l = orP [specN p, checkN l] := by
    unfold fillE; rw [or2]
    by_cases h1 : specN p = 0
    · have h2 : checkN l ≠ 0 := fun h2 => h ⟨h1, h2⟩
      rw [if_pos h1, if_pos h1, if_neg h2]
    · rw [if_neg h1, if_neg h1]
  have n0 : orP [specN p, checkN l] ≠ 0 := by
    rw [or2]; split
    · intro h2; exact h ⟨by assumption, h2⟩
    · assumption
  exact ⟨e, by unfold fillL; rw [e, if_neg n0], n0⟩
theorem fillE_6 {p : List Sp} {l : List At} (h1 : specN p = 0) (h2 : checkN l = 0) (h : p.any (miss l) = true ∨ p.countP (hit l) < l.length) : fillE p l = 6 ∧ fillL p l = [] := by
  have e : fillE p l = 6 := by unfold fillE; rw [if_pos h1, if_pos h2, if_pos h]
  exact ⟨e, by unfold fillL; rw [e]; rfl⟩
theorem fillE_0 {p : List Sp} {l : List At} (h1 : specN p = 0) (h2 : checkN l = 0) (h3 : p.any (miss l) = false) (h4 : l.length ≤ p.countP (hit l)) : fillE p l = 0 ∧ fillL p l = p.map (one l) := by
  have e : fillE p l = 0 := by unfold fillE; rw [if_pos h1, if_pos h2, if_neg]; rintro (h | h); rw [h3] at h; cases h; omega
  exact ⟨e, by unfold fillL; rw [e]; rfl⟩

set_option maxRecDepth 100000 in
set_option maxHeartbeats 4000000 in
theorem fill_any (vp vl : Value) (p : List Sp) (l : List At) (B : Nat) (w : World) (hp : Sps w B vp p) (hl : Ats w B vl l) (hB : B ≤ w.heap.size) (hr : Reach p.length) :
    Calls Try.prog 8 #[vp, vl] w (Pair w (fillL p l) (fillE p l)) := by
  obtain ⟨Ap, cp, rfl⟩ := hp.form
  obtain ⟨Al, cl, rfl⟩ := hl.form
  go_enter Try.func8, Try.ntmps8
  go_wp2_with fail
  go_step3
  go_wp2_with fail
  refine (checkSpecs_any _ p B w hp hB hr).mono ?_
  rintro e w1 ⟨rfl, b1⟩
  go_wp2_with fail
  refine (check_any _ l B w1 (hl.below (b1.mono hB)) (Nat.le_trans hB b1.size)).mono ?_
  rintro e w2 ⟨rfl, b2⟩
  have b12 := b1.trans (b2.mono b1.size)
  clear b1 b2
  have hs2 := b12.size
  go_wp2_with fail
  refine (orE_any _ [specN p, checkN l] _ _ (Rd.lit w2 23 1 2 #[.int .i64 (specN p), .int .i64 (checkN l)] (0, 0) rfl (by omega))).mono ?_
  rintro e w3 ⟨rfl, rfl⟩
  have b3 := b12.alloc hs2 (.cells #[.int .i64 (specN p), .int .i64 (checkN l)] 23)
  clear b12
  by_cases h12 : specN p = 0 ∧ checkN l = 0
  · have h0 : orP [specN p, checkN l] = 0 := by rw [or2, h12.1, h12.2]; rfl
    rw [h0]
    have H12 := Lib.hid h12
    have hp8 := specN_len h12.1
    have hl8 := checkN_len h12.2
    clear h0 h12
    generalize hw3 : w2.alloc (.cells #[.int .i64 (specN p), .int .i64 (checkN l)] 23) = w3 at *
    clear hw3 hs2
    have hs3 := b3.size
    obtain ⟨i0, hi, hz0, hz1, hz2⟩ := info_parts infoAt
    go_wp2_with (at_make; refine wpList_make_own _ rfl _ _ 22 rfl w.heap.size 29 i0 _ 2 Try.underlying22 hi hz0 hz1 _ _ _ p.length rfl rfl ?_ ?_ ?_ ?_ ?_)
    · rfl
    · rw [hz2]; omega
    · unfold maxLen; omega
    · exact hs3
    intro w4 hown hg4
    have b4 : Below w.heap.size w w4 := b3.grown hg4 hs3 (by simp)
    have hown := Lib.hid hown
    clear hz0 hz1 hz2 hi hg4 b3
    go_wp2
    go_step3
    go_wp2
    go_loopg [7, 8, 9, 10] p.length (fun g s7 s8 s9 s10 wr => ∃ i j n : Nat, i ≤ p.length ∧ g = p.length - i ∧ s9 = .int .i64 i ∧ s10 = .int .i64 j ∧ s8 = .int .i64 n ∧ Hid (n = (p.take i).countP (hit l)) ∧ n ≤ i ∧
      Hid (wr.ownsRow w.heap.size 29 2 s7 i (atC ((p.take i).map (one l)))) ∧ Hid (Past p l i j) ∧ j ≤ l.length ∧ Hid ((p.take i).any (miss l) = false) ∧ Below w.heap.size w wr)
    case atStart => exact ⟨0, 0, 0, Nat.zero_le _, by omega, rfl, rfl, rfl, by show _ = _; simp, Nat.le_refl _, hown, ⟨Nat.zero_le _, fun k _ hk => by omega⟩, Nat.zero_le _, by show _ = _; simp, b4⟩
    case round =>
      obtain ⟨i, j, n, hi, hg, rfl, rfl, rfl, hn, hni, ho, hpast, hjl, hmiss, hb⟩ := hrel
      have HG := Lib.hid hg
      clear hg
      obtain ⟨wo, rfl⟩ : ∃ wo : World, wo = wr := ⟨_, rfl⟩
      by_cases hlt : i < p.length
      · have hso := hb.size
        have hii : (i : Int) < (p.length : Int) := by omega
        have hii0 : (0 : Int) ≤ (i : Int) := by omega
        go_wp2
        go_loopg [7, 8, 10] l.length (fun g s7 s8 s10 wx => s7 = u7 ∧ s8 = .int .i64 n ∧ ∃ jj : Nat, l.length - jj ≤ g ∧ s10 = .int .i64 jj ∧ jj ≤ l.length ∧ Hid (Past p l i jj) ∧ Below wo.heap.size wo wx)
        case atStart => exact ⟨rfl, rfl, j, by omega, rfl, hjl, hpast, Below.refl _ _⟩
        case round =>
          obtain ⟨wx, rfl⟩ : ∃ wx : World, wx = wr := ⟨_, rfl⟩
          obtain ⟨rfl, rfl, jj, hg, rfl, hjj', hpj, hbx⟩ := hrel
          have HG2 := Lib.hid hg
          clear hg
          have hbx1 := hb.trans (hbx.mono hso)
          have hsx := hbx1.size
          obtain ⟨bp, offp, hAp, hbpB, hcpp, hp0, hp1, hp2⟩ := (hp.below (hbx1.mono hB)).at hlt
          subst hAp
          have hpb : bp < wx.heap.size := by omega
          by_cases hjj : jj < l.length
          · obtain ⟨bl, offl, hAl, hblB, hcll, hl0, hl1⟩ := (hl.below (hbx1.mono hB)).at hjj
            subst hAl
            have hlb : bl < wx.heap.size := by omega
            have hji : (jj : Int) < (l.length : Int) := by omega
            have hji0 : (0 : Int) ≤ (jj : Int) := by omega
            cases hlt2 : ltS l[jj].n p[i].n
            · cases heq : (l[jj].n.toList == p[i].n.toList)
              · have hgt : Hid (ltS p[i].n l[jj].n = true) := lt_of_ne hlt2 (by rw [heq]; rfl)
                have hg1 : Hid (getP l p[i].n = none) := hpj.out.none H12.out.2 hlt (fun _ => hgt.out)
                have hlt3 : Op.bytesLess l[jj].n.toList p[i].n.toList = false := hlt2
                clear hlt2
                have hoz := Lib.hid (own_all ho.out hbx)
                clear hbx ho
                cases hm : p[i].m
                · have hmiss' : Hid ((p.take (i + 1)).any (miss l) = false) := by
                    show _ = _
                    rw [List.take_succ_eq_append_getElem hlt, List.any_append, hmiss.out]
                    simp [miss, hm]
                  have hcnt : Hid (n = (p.take (i + 1)).countP (hit l)) := by
                    show _ = _
                    rw [List.take_succ_eq_append_getElem hlt, List.countP_append, ← hn.out]
                    simp [hit, hg1.out]
                  have hone : Hid (one l p[i] = ⟨p[i].n, p[i].d⟩) := by show _ = _; unfold one; rw [hg1.out]; rfl
                  rw [hm] at hp2
                  clear hm
                  go_wp2
                  go_quiet (fail)
                  go_wp2_with fail
                  refine (filled_any ⟨p[i].n, p[i].d, false⟩ _).mono ?_
                  rintro e w5 ⟨rfl, hb5⟩
                  have ho5 := Lib.hid (own_all (own_drewN hoz.out _) hb5)
                  have hb6 := (blN hbx1 _).trans (hb5.mono hsx)
                  have hs6 := hb6.size
                  clear hb5 hoz
                  go_wp2_with (at_builtin; refine wpList_appR _ rfl (.tmp 73) (.tmp 79) 22 29 rfl _ 2 32 Try.underlying22 infoAt rfl (by decide) w.heap.size rfl rfl (World.ownsRow.alloc ho5.out _) (Rd.lit w5 29 2 1 #[.string p[i].n, .string p[i].d] (0, 0) rfl (by omega)) ?_ ?_ ?_ ?_ ?_)
                  · exact ⟨rfl, rfl⟩
                  · unfold maxLen; omega
                  · omega
                  · simp; omega
                  intro v' w6 hown' hg6 hat
                  have hb7 : Below w.heap.size w w6 := (hb6.alloc hs6 _).grown hg6 (by simp; omega) fun g hg => (ho5.out.lt g hg).1
                  have hown2 : Hid (w6.ownsRow w.heap.size 29 2 v' (i + 1) (atC ((p.take (i + 1)).map (one l)))) := by
                    have e1 : atC ((p.take (i + 1)).map (one l)) = atC (List.take i (p.map (one l))) ++ [.string p[i].n, .string p[i].d] := by
                      rw [List.take_succ_eq_append_getElem hlt, List.map_append, atC_app, List.map_take]
                      simp only [List.map_cons, List.map_nil, hone.out]
                      rfl
                    show World.ownsRow _ _ _ _ _ _ _
                    rw [e1]; exact hown'
                  clear hg6 hat ho5 hown'
                  go_wp2
                  go_roundg (p.length - (i + 1))
                  case measure => have := HG.out; omega
                  case rel => exact ⟨i + 1, jj, n, by omega, rfl, by go_num, rfl, rfl, hcnt, by omega, hown2, hpj.out.next, hpj.out.1, hmiss', hb7⟩
                  
                · have HF := Lib.hid (fillE_6 H12.out.1 H12.out.2 (.inl (List.any_eq_true.2 ⟨p[i], List.getElem_mem hlt, by simp [miss, hm, hit, hg1.out]⟩)))
                  rw [hm] at hp2
                  clear hm
                  go_wp2
                  go_quiet (fail)
                  go_wp2
                  rw [Exit.noGoto_ret]
                  go_ret2
                  rw [HF.out.1, HF.out.2]
                  exact Pair.nil (blN hbx1 _)
                  
              · have hlt3 : Op.bytesLess l[jj].n.toList p[i].n.toList = false := hlt2
                have HS := Lib.hid (hpj.out.some hlt hjj heq)
                clear hlt2
                have hmiss' : Hid ((p.take (i + 1)).any (miss l) = false) := by
                  show _ = _
                  rw [List.take_succ_eq_append_getElem hlt, List.any_append, hmiss.out]
                  simp [miss, hit, HS.out.1]
                have hcnt : Hid (n + 1 = (p.take (i + 1)).countP (hit l)) := by
                  show _ = _
                  rw [List.take_succ_eq_append_getElem hlt, List.countP_append, ← hn.out]
                  simp [hit, HS.out.1]
                have hoz := Lib.hid (own_all ho.out hbx)
                clear hbx ho
                go_wp2
                go_quiet (fail)
                go_wp2
                go_quiet (fail)
                go_wp2_with (at_builtin; refine wpList_appR _ rfl (.tmp 59) (.tmp 64) 22 29 rfl _ 2 32 Try.underlying22 infoAt rfl (by decide) w.heap.size rfl rfl (World.ownsRow.alloc (own_drewN hoz.out _) _) (Rd.lit _ 29 2 1 #[.string l[jj].n, .string l[jj].v] (0, 0) rfl (by omega)) ?_ ?_ ?_ ?_ ?_)
                · exact ⟨rfl, rfl⟩
                · unfold maxLen; omega
                · omega
                · simp; omega
                intro v' w6 hown' hg6 hat
                have hb7 : Below w.heap.size w w6 := ((blN hbx1 _).alloc hsx _).grown hg6 (by simp; omega) fun g hg => (hoz.out.lt g hg).1
                have hown2 : Hid (w6.ownsRow w.heap.size 29 2 v' (i + 1) (atC ((p.take (i + 1)).map (one l)))) := by
                  have e1 : atC ((p.take (i + 1)).map (one l)) = atC (List.take i (p.map (one l))) ++ [.string l[jj].n, .string l[jj].v] := by
                    rw [List.take_succ_eq_append_getElem hlt, List.map_append, atC_app, List.map_take]
                    simp only [List.map_cons, List.map_nil, HS.out.2]
                    rfl
                  show World.ownsRow _ _ _ _ _ _ _
                  rw [e1]; exact hown'
                clear hg6 hat hown' hoz
                go_wp2
                go_roundg (p.length - (i + 1))
                case measure => have := HG.out; omega
                case rel => exact ⟨i + 1, jj, n + 1, by omega, rfl, by go_num, rfl, by go_num, hcnt, by omega, hown2, hpj.out.next, hpj.out.1, hmiss', hb7⟩
            · have hne : (l[jj].n.toList == p[i].n.toList) = false := ne_of_lt hlt2
              have hadv : Hid (Past p l i (jj + 1)) := hpj.out.adv H12.out.1 hlt hjj hlt2
              have hlt3 : Op.bytesLess l[jj].n.toList p[i].n.toList = true := hlt2
              clear hlt2
              go_wp2
              go_quiet (fail)
              go_wp2
              go_quiet (fail)
              go_wp2
              go_roundg (l.length - (jj + 1))
              case measure => have := HG2.out; omega
              case rel => exact ⟨rfl, rfl, jj + 1, Nat.le_refl _, by go_num, by omega, hadv, blN hbx _⟩
          · have hg1 : Hid (getP l p[i].n = none) := hpj.out.none H12.out.2 hlt (fun h => absurd h hjj)
            have hji : ¬ (jj : Int) < (l.length : Int) := by omega
            have hji2 : decide ((jj : Int) < (l.length : Int)) = false := by simp; omega
            have hoz := Lib.hid (own_all ho.out hbx)
            clear hbx ho
            cases hm : p[i].m
            · have hmiss' : Hid ((p.take (i + 1)).any (miss l) = false) := by
                show _ = _
                rw [List.take_succ_eq_append_getElem hlt, List.any_append, hmiss.out]
                simp [miss, hm]
              have hcnt : Hid (n = (p.take (i + 1)).countP (hit l)) := by
                show _ = _
                rw [List.take_succ_eq_append_getElem hlt, List.countP_append, ← hn.out]
                simp [hit, hg1.out]
              have hone : Hid (one l p[i] = ⟨p[i].n, p[i].d⟩) := by show _ = _; unfold one; rw [hg1.out]; rfl
              rw [hm] at hp2
              clear hm
              go_wp2
              go_quiet (fail)
              go_wp2_with fail
              refine (filled_any ⟨p[i].n, p[i].d, false⟩ _).mono ?_
              rintro e w5 ⟨rfl, hb5⟩
              have ho5 := Lib.hid (own_all (own_drewN hoz.out _) hb5)
              have hb6 := (blN hbx1 _).trans (hb5.mono hsx)
              have hs6 := hb6.size
              clear hb5 hoz
              go_wp2_with (at_builtin; refine wpList_appR _ rfl (.tmp 73) (.tmp 79) 22 29 rfl _ 2 32 Try.underlying22 infoAt rfl (by decide) w.heap.size rfl rfl (World.ownsRow.alloc ho5.out _) (Rd.lit w5 29 2 1 #[.string p[i].n, .string p[i].d] (0, 0) rfl (by omega)) ?_ ?_ ?_ ?_ ?_)
              · exact ⟨rfl, rfl⟩
              · unfold maxLen; omega
              · omega
              · simp; omega
              intro v' w6 hown' hg6 hat
              have hb7 : Below w.heap.size w w6 := (hb6.alloc hs6 _).grown hg6 (by simp; omega) fun g hg => (ho5.out.lt g hg).1
              have hown2 : Hid (w6.ownsRow w.heap.size 29 2 v' (i + 1) (atC ((p.take (i + 1)).map (one l)))) := by
                have e1 : atC ((p.take (i + 1)).map (one l)) = atC (List.take i (p.map (one l))) ++ [.string p[i].n, .string p[i].d] := by
                  rw [List.take_succ_eq_append_getElem hlt, List.map_append, atC_app, List.map_take]
                  simp only [List.map_cons, List.map_nil, hone.out]
                  rfl
                show World.ownsRow _ _ _ _ _ _ _
                rw [e1]; exact hown'
              clear hg6 hat ho5 hown'
              go_wp2
              go_roundg (p.length - (i + 1))
              case measure => have := HG.out; omega
              case rel => exact ⟨i + 1, jj, n, by omega, rfl, by go_num, rfl, rfl, hcnt, by omega, hown2, hpj.out.next, hpj.out.1, hmiss', hb7⟩
              
            · have HF := Lib.hid (fillE_6 H12.out.1 H12.out.2 (.inl (List.any_eq_true.2 ⟨p[i], List.getElem_mem hlt, by simp [miss, hm, hit, hg1.out]⟩)))
              rw [hm] at hp2
              clear hm
              go_wp2
              go_quiet (fail)
              go_wp2
              rw [Exit.noGoto_ret]
              go_ret2
              rw [HF.out.1, HF.out.2]
              exact Pair.nil (blN hbx1 _)
              
      · have e : i = p.length := by omega
        subst e
        have hcnt : Hid (n = p.countP (hit l)) := by show _ = _; rw [hn.out, List.take_length]
        have hms : Hid (p.any (miss l) = false) := by show _ = _; rw [← hmiss.out, List.take_length]
        by_cases hnl : n < l.length
        · have HF := Lib.hid (fillE_6 H12.out.1 H12.out.2 (.inr (by rw [← hcnt.out]; exact hnl)))
          go_wp2
          rw [Exit.noGoto_ret]
          go_ret2
          rw [HF.out.1, HF.out.2]
          exact Pair.nil hb
        · have HF := Lib.hid (fillE_0 H12.out.1 H12.out.2 hms.out (by rw [← hcnt.out]; omega))
          have ho2 : Hid (wo.ownsRow w.heap.size 29 2 u7 (p.map (one l)).length (atC (p.map (one l)))) := by
            have := ho.out
            rw [List.take_length] at this
            show World.ownsRow _ _ _ _ _ _ _
            rw [List.length_map]; exact this
          clear ho
          go_wp2
          rw [Exit.noGoto_ret]
          go_ret2
          rw [HF.out.1, HF.out.2]
          exact ⟨_, rfl, ho2.out, hb⟩
  · have HF := Lib.hid (fillE_a h12)
    have hn := (fillE_a h12).2.2
    clear h12
    generalize orP [specN p, checkN l] = c at *
    have hn' : (c != 0) = true := by rw [bne_iff_ne]; exact hn
    go_wp2
    go_ret2
    rw [HF.out.1, HF.out.2.1]
    exact Pair.nil b3
end Go.Proofs.Ytjoogocgklhgpaa
