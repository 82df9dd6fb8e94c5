/- attr: the document's own Fill. -/
import Derived.Test.YtjoogocgklhgpaaAtF
namespace Go.Proofs.Ytjoogocgklhgpaa
open Go.RowKit

set_option maxRecDepth 100000 in
set_option maxHeartbeats 4000000 in
theorem refFill_any (vp vl : Value) (p : List Sp) (l : List At) (B : Nat) (w : World) (hp : Sps w B vp p) (hl : Ats w B vl l) (hB : B ≤ w.heap.size) (hr : Reach p.length)
    (hs1 : Hid (∀ a ∈ p, a.n.size ≤ maxLen ∧ a.d.size ≤ maxLen)) (hs2 : Hid (∀ a ∈ l, a.n.size ≤ maxLen ∧ a.v.size ≤ maxLen)) :
    Calls Try.prog 23 #[vp, vl] w (Pair w (fillL p l) (fillE p l)) := by
  obtain ⟨Ap, cp, rfl⟩ := hp.form
  obtain ⟨Al, cl, rfl⟩ := hl.form
  by_cases h1 : specN p = 0
  · by_cases h2 : checkN l = 0
    · have H1 := Lib.hid h1
      have H2 := Lib.hid h2
      have hp8 := specN_len h1
      have hl8 := checkN_len h2
      clear h1 h2
      go_enter Try.func23, Try.ntmps23
      go_wp2_with fail
      refine (refCheckSpecs_any _ p B w hp hB hr hs1).mono ?_
      rintro e w1 ⟨rfl, b1⟩
      rw [H1.out]
      go_wp2_with fail
      refine (refCheck_any _ l B w1 (hl.below (b1.mono hB)) (Nat.le_trans hB b1.size) hs2).mono ?_
      rintro e w2 ⟨rfl, b2⟩
      rw [H2.out]
      have b4 := b1.trans (b2.mono b1.size)
      clear b1 b2
      go_wp2
      go_loopg [7, 8, 9] p.length (fun g s7 s8 s9 wr => ∃ i n : Nat, i ≤ p.length ∧ g = p.length - i ∧ s9 = .int .i64 i ∧ s8 = .int .i64 n ∧ Hid (n = (p.take i).countP (hit l)) ∧ n ≤ i ∧
        Hid (wr.ownsRow w.heap.size 29 2 s7 i (atC ((p.take i).map (one l)))) ∧ Hid ((p.take i).any (miss l) = false) ∧ Below w.heap.size w wr)
      case atStart => exact ⟨0, 0, Nat.zero_le _, by omega, rfl, rfl, by show _ = _; simp, Nat.le_refl _, World.ownsRow_nil w2 _ _ 2, by show _ = _; simp, b4⟩
      case round =>
        obtain ⟨i, n, hi, hg, rfl, rfl, hn, hni, ho, hmiss, hb⟩ := hrel
        have HG := Lib.hid hg
        clear hg
        obtain ⟨wo, rfl⟩ : ∃ wo : World, wo = wr := ⟨_, rfl⟩
        have hso := hb.size
        by_cases hlt : i < p.length
        · obtain ⟨bp, offp, hAp, hbpB, hcpp, hp0, hp1, hp2⟩ := (hp.below (hb.mono hB)).at hlt
          subst hAp
          have hpb : bp < wo.heap.size := by omega
          go_wp2_with fail
          refine (refGet_any _ p[i].n l B wo (hl.below (hb.mono hB))).mono ?_
          rintro e w5 ⟨rfl, rfl⟩
          cases hgp : getP l p[i].n with
          | none =>
            have hg1 := Lib.hid hgp
            simp only [Option.getD_none, Option.isSome_none]
            clear hgp
            cases hm : p[i].m
            · have hmiss' : Hid ((p.take (i + 1)).any (miss l) = false) := by
                show _ = _
                rw [List.take_succ_eq_append_getElem hlt, List.any_append, hmiss.out]
                simp [miss, hm]
              have hcnt : Hid (n = (p.take (i + 1)).countP (hit l)) := by
                show _ = _
                rw [List.take_succ_eq_append_getElem hlt, List.countP_append, ← hn.out]
                simp [hit, hg1.out]
              have hone : Hid (one l p[i] = ⟨p[i].n, p[i].d⟩) := by show _ = _; unfold one; rw [hg1.out]; rfl
              rw [hm] at hp2
              clear hm
              go_wp2_with (at_builtin; refine wpList_appR _ rfl (.tmp 50) (.tmp 58) 22 29 rfl _ 2 32 Try.underlying22 infoAt rfl (by decide) w.heap.size rfl rfl (World.ownsRow.alloc ho.out _) (Rd.lit wo 29 2 1 #[.string p[i].n, .string p[i].d] (0, 0) rfl (by omega)) ?_ ?_ ?_ ?_ ?_)
              · exact ⟨rfl, rfl⟩
              · unfold maxLen; omega
              · omega
              · simp; omega
              intro v' w6 hown' hg6 hat
              have hb7 : Below w.heap.size w w6 := (hb.alloc hso _).grown hg6 (by simp; omega) fun g hg => (ho.out.lt g hg).1
              have hown2 : Hid (w6.ownsRow w.heap.size 29 2 v' (i + 1) (atC ((p.take (i + 1)).map (one l)))) := by
                have e1 : atC ((p.take (i + 1)).map (one l)) = atC (List.take i (p.map (one l))) ++ [.string p[i].n, .string p[i].d] := by
                  rw [List.take_succ_eq_append_getElem hlt, List.map_append, atC_app, List.map_take]
                  simp only [List.map_cons, List.map_nil, hone.out]
                  rfl
                show World.ownsRow _ _ _ _ _ _ _
                rw [e1]; exact hown'
              clear hg6 hat hown' ho
              go_wp2
              go_roundg (p.length - (i + 1))
              case measure => have := HG.out; omega
              case rel => exact ⟨i + 1, n, by omega, rfl, by go_num, rfl, hcnt, by omega, hown2, hmiss', hb7⟩
            · have HF := Lib.hid (fillE_6 H1.out H2.out (.inl (List.any_eq_true.2 ⟨p[i], List.getElem_mem hlt, by simp [miss, hm, hit, hg1.out]⟩)))
              rw [hm] at hp2
              clear hm
              go_wp2
              go_ret2
              rw [HF.out.1, HF.out.2]
              exact Pair.nil hb
          | some x =>
            have hg1 := Lib.hid hgp
            simp only [Option.getD_some, Option.isSome_some]
            clear hgp
            have hmiss' : Hid ((p.take (i + 1)).any (miss l) = false) := by
              show _ = _
              rw [List.take_succ_eq_append_getElem hlt, List.any_append, hmiss.out]
              simp [miss, hit, hg1.out]
            have hcnt : Hid (n + 1 = (p.take (i + 1)).countP (hit l)) := by
              show _ = _
              rw [List.take_succ_eq_append_getElem hlt, List.countP_append, ← hn.out]
              simp [hit, hg1.out]
            have hone : Hid (one l p[i] = ⟨p[i].n, x⟩) := by show _ = _; unfold one; rw [hg1.out]; rfl
            go_wp2_with (at_builtin; refine wpList_appR _ rfl (.tmp 50) (.tmp 58) 22 29 rfl _ 2 32 Try.underlying22 infoAt rfl (by decide) w.heap.size rfl rfl (World.ownsRow.alloc ho.out _) (Rd.lit wo 29 2 1 #[.string p[i].n, .string x] (0, 0) rfl (by omega)) ?_ ?_ ?_ ?_ ?_)
            · exact ⟨rfl, rfl⟩
            · unfold maxLen; omega
            · omega
            · simp; omega
            intro v' w6 hown' hg6 hat
            have hb7 : Below w.heap.size w w6 := (hb.alloc hso _).grown hg6 (by simp; omega) fun g hg => (ho.out.lt g hg).1
            have hown2 : Hid (w6.ownsRow w.heap.size 29 2 v' (i + 1) (atC ((p.take (i + 1)).map (one l)))) := by
              have e1 : atC ((p.take (i + 1)).map (one l)) = atC (List.take i (p.map (one l))) ++ [.string p[i].n, .string x] := by
                rw [List.take_succ_eq_append_getElem hlt, List.map_append, atC_app, List.map_take]
                simp only [List.map_cons, List.map_nil, hone.out]
                rfl
              show World.ownsRow _ _ _ _ _ _ _
              rw [e1]; exact hown'
            clear hg6 hat hown' ho
            go_wp2
            go_roundg (p.length - (i + 1))
            case measure => have := HG.out; omega
            case rel => exact ⟨i + 1, n + 1, by omega, rfl, by go_num, by go_num, hcnt, by omega, hown2, hmiss', hb7⟩
        · have e : i = p.length := by omega
          subst e
          have hcnt : Hid (n = p.countP (hit l)) := by show _ = _; rw [hn.out, List.take_length]
          have hms : Hid (p.any (miss l) = false) := by show _ = _; rw [← hmiss.out, List.take_length]
          by_cases hnl : n < l.length
          · have HF := Lib.hid (fillE_6 H1.out H2.out (.inr (by rw [← hcnt.out]; exact hnl)))
            go_wp2
            go_ret2
            rw [HF.out.1, HF.out.2]
            exact Pair.nil hb
          · have HF := Lib.hid (fillE_0 H1.out H2.out hms.out (by rw [← hcnt.out]; omega))
            have ho2 : Hid (wo.ownsRow w.heap.size 29 2 u7 (p.map (one l)).length (atC (p.map (one l)))) := by
              have := ho.out
              rw [List.take_length] at this
              show World.ownsRow _ _ _ _ _ _ _
              rw [List.length_map]; exact this
            clear ho
            go_wp2
            go_ret2
            rw [HF.out.1, HF.out.2]
            exact ⟨_, rfl, ho2.out, hb⟩
    · have HF : Hid (fillE p l = checkN l ∧ fillL p l = []) := by
        have e : fillE p l = checkN l := by unfold fillE; rw [if_pos h1, if_neg h2]
        exact ⟨e, by unfold fillL; rw [e, if_neg h2]⟩
      have H1 := Lib.hid h1
      obtain ⟨c, hc⟩ : ∃ c, Hid (c = checkN l) := ⟨checkN l, rfl⟩
      rw [← hc.out] at h2
      have h0' : (c != 0) = true := by rw [bne_iff_ne]; exact h2
      clear h1
      go_enter Try.func23, Try.ntmps23
      go_wp2_with fail
      refine (refCheckSpecs_any _ p B w hp hB hr hs1).mono ?_
      rintro e w1 ⟨rfl, b1⟩
      rw [H1.out]
      go_wp2_with fail
      refine (refCheck_any _ l B w1 (hl.below (b1.mono hB)) (Nat.le_trans hB b1.size) hs2).mono ?_
      rintro e w2 ⟨rfl, b2⟩
      rw [← hc.out]
      go_wp2
      go_ret2
      rw [HF.out.1, HF.out.2, ← hc.out]
      exact Pair.nil (b1.trans (b2.mono b1.size))
  · have HF : Hid (fillE p l = specN p ∧ fillL p l = []) := by
      have e : fillE p l = specN p := by unfold fillE; rw [if_neg h1]
      exact ⟨e, by unfold fillL; rw [e, if_neg h1]⟩
    obtain ⟨c, hc⟩ : ∃ c, Hid (c = specN p) := ⟨specN p, rfl⟩
    rw [← hc.out] at h1
    have h0' : (c != 0) = true := by rw [bne_iff_ne]; exact h1
    have h0'' : (c == 0) = false := beq_eq_false_iff_ne.2 h1
    go_enter Try.func23, Try.ntmps23
    go_wp2_with fail
    refine (refCheckSpecs_any _ p B w hp hB hr hs1).mono ?_
    rintro e w1 ⟨rfl, b1⟩
    rw [← hc.out]
    go_wp2
    go_ret2
    rw [HF.out.1, HF.out.2, ← hc.out]
    exact Pair.nil b1
end Go.Proofs.Ytjoogocgklhgpaa
