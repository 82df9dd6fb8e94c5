/- Places through maps: through a chain, by the reference. -/
import Derived.Test.YtiilbgejdpnfpaaMp2
namespace Go.Proofs.Ytiilbgejdpnfpaa
open Go.RowKit Go.Mps

theorem thG_out (ms : List (List Rg)) (l : List Mi) (lean : Int) (k i : Nat) (o : Mv) (h : ¬ i < ms.length) : thG ms l lean k i o = o := by
  cases k with
  | zero => rfl
  | succ k => rw [thG, if_neg h]
theorem thG_jump (ms : List (List Rg)) (l : List Mi) (lean : Int) (k i : Nat) (o v : Mv) (r s : Nat) (h : i < ms.length) (hv : hitG lean o.p 0 0 ms[i] = (v, some r)) (hr : r < ms[i].length) (hs : secondM l i = s) (h2 : s < ms.length) (ho : 0 < ms[i][r].o) :
    thG ms l lean (k + 1) i o = thG ms l lean k (s + 1) { o with p := cameM ms[s] r + o.p - ms[i][r].a } := by
  have e1 : ms[i]?.getD [] = ms[i] := by rw [List.getElem?_eq_getElem h]; rfl
  have e2 : (ms[i][r]?.getD default) = ms[i][r] := by rw [List.getElem?_eq_getElem hr]; rfl
  have e3 : ms[s]?.getD [] = ms[s] := by rw [List.getElem?_eq_getElem h2]; rfl
  rw [thG, if_pos h, e1, hv]
  simp only [e2, hs, Int.toNat_natCast, e3]
  rw [if_pos ⟨by omega, ho⟩]
theorem thG_on (ms : List (List Rg)) (l : List Mi) (lean : Int) (k i : Nat) (o v : Mv) (j : Option Nat) (h : i < ms.length) (hv : hitG lean o.p 0 0 ms[i] = (v, j)) (hn : ∀ r (hr : r < ms[i].length), j = some r → ¬ (0 ≤ secondM l i ∧ 0 < ms[i][r].o)) :
    thG ms l lean (k + 1) i o = thG ms l lean k (i + 1) (joinM o v) := by
  have e1 : ms[i]?.getD [] = ms[i] := by rw [List.getElem?_eq_getElem h]; rfl
  rw [thG, if_pos h, e1, hv]
  cases j with
  | none => rfl
  | some r =>
    have hr := hit_there hv
    have e2 : (ms[i][r]?.getD default) = ms[i][r] := by rw [List.getElem?_eq_getElem hr]; rfl
    simp only [e2]
    rw [if_neg (hn r hr rfl)]
def mvA (m : Mv) : Array Value := #[.int .i64 m.p, .bool m.ahead, .bool m.behind, .bool m.across, .bool m.lost]

theorem Bk.farmv {W : World} {g b : Nat} {t : TypeId} {cs : Array Value} (h : Bk W g t cs) (hg : g ≠ b) (v0 v1 v2 v3 v4 : Value) :
    Bk (((((W.setCell ⟨b, 0, none⟩ v0).setCell ⟨b, 1, none⟩ v1).setCell ⟨b, 2, none⟩ v2).setCell ⟨b, 3, none⟩ v3).setCell ⟨b, 4, none⟩ v4) g t cs :=
  ((((h.far (p := ⟨b, 0, none⟩) hg v0).far (p := ⟨b, 1, none⟩) hg v1).far (p := ⟨b, 2, none⟩) hg v2).far (p := ⟨b, 3, none⟩) hg v3).far (p := ⟨b, 4, none⟩) hg v4
set_option maxRecDepth 100000 in
set_option maxHeartbeats 40000000 in
theorem refMpThrough_any (v1 v2 : Value) (ms : List (List Rg)) (l : List Mi) (B : Nat) (w : World) (h1 : Mss w B v1 ms) (h2 : Mis w B v2 l) (hB : B ≤ w.heap.size) (p lean : Int) :
    Calls Try.prog 23 #[.agg #[v1, v2], .int .i64 p, .int .i64 lean] w fun e w' => e = .returned (mvV (throughM ms l p lean)) ∧ Below w.heap.size w w' := by
  obtain ⟨A, cap, rfl⟩ := h1.form
  obtain ⟨A2, cap2, rfl⟩ := h2.form
  have hm1 := h1.max
  have hm2 := h2.max
  unfold maxLen at hm1 hm2
  obtain ⟨z, hz⟩ : ∃ z, Hid (z = throughM ms l p lean) := ⟨throughM ms l p lean, Lib.hid rfl⟩
  rw [← hz.out]
  have HV1 := Lib.hid (fun w' (h : Below w.heap.size w w') => h1.below (h.mono hB))
  have HV2 := Lib.hid (fun w' (h : Below w.heap.size w w') => h2.below (h.mono hB))
  have HC := Lib.hid (fun w' (h : Below w.heap.size w w') => refMpCheckChain_any _ _ ms l B w' (h1.below (h.mono hB)) (h2.below (h.mono hB)) (Nat.le_trans hB h.size))
  have HBk := Lib.hid ((Bk.new w 33 #[.slice A ms.length cap, .slice A2 l.length cap2]).alloc (.cells (mvA (out 0)) 27))
  have HBr : Hid (Bk ((w.alloc (.cells #[.slice A ms.length cap, .slice A2 l.length cap2] 33)).alloc (.cells (mvA (out 0)) 27)) (w.heap.size + 1) 27 (mvA (out 0))) := by
    have := Bk.new (w.alloc (.cells #[.slice A ms.length cap, .slice A2 l.length cap2] 33)) 27 (mvA (out 0))
    rwa [World.size_alloc] at this
  have HB0 := Lib.hid ((((Below.refl w.heap.size w).alloc (Nat.le_refl _) (.cells #[.slice A ms.length cap, .slice A2 l.length cap2] 33))).alloc (by simp) (.cells (mvA (out 0)) 27))
  obtain ⟨c, hc⟩ : ∃ c, Hid (c = checkC ms l) := ⟨checkC ms l, Lib.hid rfl⟩
  rw [← hc.out] at HC
  clear h1 h2
  unfold mvA out at HBk HBr HB0
  dsimp only at HBk HBr HB0
  go_enter Try.func23, Try.ntmps23
  go_wp2_with fail
  refine (HC.out _ HB0.out).mono ?_
  rintro e w1 ⟨rfl, hb1⟩
  have HB1 := Lib.hid (HB0.out.trans (hb1.mono HB0.out.size))
  have HK := Lib.hid (HBk.out.over hb1 (by simp; omega))
  have HR := Lib.hid (HBr.out.over hb1 (by simp))
  obtain ⟨e0, e1, e2, e3, e4, f0, f1, f2, f3, f4⟩ := mvFacts HR.out
  have hlt := HR.out.lt
  clear HC hb1 HBk HBr HB0
  by_cases c0 : c = 0
  · subst c0
    by_cases p1 : p < 0
    · have hf : Hid (z = out p) := by show _ = _; rw [hz.out]; unfold throughM; rw [if_pos (.inr (.inl p1))]
      clear hz hc
      go_wp2
      exact mv_ret1 (m := out p) rfl rfl rfl hf (HR.out.mv _ _ _ _ _) (below_mv HB1.out (by omega) _ _ _ _ _)
    · have p1' : decide (p < 0) = false := decide_eq_false p1
      by_cases p2 : 1048576 < p
      · have hf : Hid (z = out p) := by show _ = _; rw [hz.out]; unfold throughM; rw [if_pos (.inr (.inr p2))]
        clear hz hc p1
        go_wp2
        exact mv_ret1 (m := out p) rfl rfl rfl hf (HR.out.mv _ _ _ _ _) (below_mv HB1.out (by omega) _ _ _ _ _)
      · have p2' : decide (1048576 < p) = false := decide_eq_false p2
        have hf : Hid (z = thG ms l lean ms.length 0 (out p)) := by show _ = _; rw [hz.out]; unfold throughM; rw [if_neg (by rw [← hc.out]; omega)]
        have HM := Lib.hid (fun i (hs : 0 ≤ secondM l (i : Nat)) => mirror_there hc.out.symm hs)
        have hcz := checkC_zero hc.out.symm
        have HOK := Lib.hid (fun m hm => checkM_zero.1 (firstErr_zero ms hcz.1 m hm))
        have h256 : (ms.length : Int) ≤ 256 := by have := hcz.2.1; omega
        have p1'' : 0 ≤ p := by omega
        have p2'' : p ≤ 1048576 := by omega
        clear hz hc hcz p1 p2
        have HO1 := Lib.hid (Bk.new w1 27 #[.int .i64 p, .bool false, .bool false, .bool false, .bool false])
        have HK1 := Lib.hid (HK.out.alloc (.cells #[.int .i64 p, .bool false, .bool false, .bool false, .bool false] 27))
        have HR1 := Lib.hid (HR.out.alloc (.cells #[.int .i64 p, .bool false, .bool false, .bool false, .bool false] 27))
        have HB2 := Lib.hid (HB1.out.alloc HB1.out.size (.cells #[.int .i64 p, .bool false, .bool false, .bool false, .bool false] 27))
        have hg := HB1.out.size
        have hg1 := hlt
        clear e0 e1 e2 e3 e4 f0 f1 f2 f3 f4
        go_wp2
        generalize w1.alloc (.cells #[.int .i64 p, .bool false, .bool false, .bool false, .bool false] 27) = wl at HO1 HK1 HR1 HB2 ⊢
        generalize w1.heap.size = gq at HO1 hg hg1 ⊢
        clear HK HR HB1 hlt
        go_loopw [8] (fun x wr => ∃ (i k : Nat) (o : Mv), i ≤ ms.length ∧ x = .int .i64 i ∧ ms.length ≤ i + k ∧ Hid (z = thG ms l lean k i o) ∧ -(1048576 + 134217728 * (i : Int)) ≤ o.p ∧ o.p ≤ 1048576 + 134217728 * (i : Int) ∧ Hid (Bk wr w.heap.size 33 #[.slice A ms.length cap, .slice A2 l.length cap2]) ∧ Hid (Bk wr (w.heap.size + 1) 27 #[.int .i64 0, .bool false, .bool false, .bool false, .bool false]) ∧
          Hid (Bk wr gq 27 #[.int .i64 o.p, .bool o.ahead, .bool o.behind, .bool o.across, .bool o.lost]) ∧ Hid (Below w.heap.size w wr)) (fun x _ => ms.length - (intOf x).toNat)
        case atStart => exact ⟨0, ms.length, out p, Nat.zero_le _, rfl, by omega, hf, by simp [out]; omega, by simp [out]; omega, HK1, HR1, HO1, HB2⟩
        case round =>
          obtain ⟨i, k, o, hi, rfl, hik, hq, ho1, ho2, HK, HR, HO, HB⟩ := hrel
          have hl0 := HK.out.lt
          have hl1 := HR.out.lt
          have hl2 := HO.out.lt
          obtain ⟨op, oa, ob, oc, od⟩ := o
          dsimp only at ho1 ho2 HO
          have k0 : wr.cell? ⟨w.heap.size, 0, none⟩ = some (.slice A ms.length cap) := HK.out.cell 0
          obtain ⟨e0, e1, e2, e3, e4, f0, f1, f2, f3, f4⟩ := mvFacts HO.out
          by_cases hlt : i < ms.length
          · have hiI : (i : Int) < (ms.length : Int) := by omega
            have hi0 : (0 : Int) ≤ i := by omega
            obtain ⟨b, off, A3, cap3, rfl, hbB, _, c0, hr⟩ := (HV1.out _ HB.out).at hlt
            have hbw : b < wr.heap.size := by have := HB.out.size; omega
            have hok := Lib.hid (HOK.out ms[i] (List.getElem_mem hlt))
            have hbd := Lib.hid (hit_bound ms[i] lean op 0 0 0 (okR_of_mem hok.out.2) (by omega) (by omega))
            obtain ⟨q, hqq⟩ : ∃ q, Hid (q = hitM ms[i] op lean) := ⟨hitM ms[i] op lean, Lib.hid rfl⟩
            have HH := Lib.hid (fun w' (h : Below w.heap.size w w') (hr' : Rgs w' B (.slice A3 ms[i].length cap3) ms[i]) => refMpHit_any _ _ B w' hr' (Nat.le_trans hB h.size) hok.out.2 hok.out.1 op lean (by omega))
            have hqe : Hid (hitG lean op 0 0 ms[i] = q) := hqq.out.symm
            rw [hqe.out] at hbd
            rw [← hqq.out] at HH
            clear hqq
            obtain ⟨⟨vp, va, vb, vc, vd⟩, j⟩ := q
            unfold mvV at HH
            dsimp only at HH hbd
            have hlen : (ms[i].length : Int) ≤ 64 := by have := hok.out.1; omega
            have hv1 : op - 69206016 ≤ vp := by have := hbd.out.1; omega
            have hv2 : vp ≤ op + 69206016 := by have := hbd.out.2; omega
            have hrr := Lib.hid (fun w' (h : Below wr.heap.size wr w') => hr.below (h.mono (Nat.le_trans hB HB.out.size)))
            clear hr
            have hwr := HB.out.size
            have HAk := Lib.hid (fun o => HK.out.alloc o)
            have HZ := Lib.hid (Bk.new wr 27 #[.int .i64 0, .bool false, .bool false, .bool false, .bool false])
            go_upto_region 7 with fail
            go_cut [9, 10] (fun s9 s10 wx => ∃ g9 : Nat, s9 = .pointer (some ⟨g9, 0, none⟩) ∧ s10 = .int .i64 (ixI j) ∧ wr.heap.size ≤ g9 ∧ Hid (Bk wx g9 27 #[.int .i64 vp, .bool va, .bool vb, .bool vc, .bool vd]) ∧ Hid (Bk wx w.heap.size 33 #[.slice (some ⟨b, off, none⟩) ms.length cap, .slice A2 l.length cap2]) ∧
              Hid (Bk wx (w.heap.size + 1) 27 #[.int .i64 0, .bool false, .bool false, .bool false, .bool false]) ∧ Hid (Bk wx gq 27 #[.int .i64 op, .bool oa, .bool ob, .bool oc, .bool od]) ∧ Hid (Below w.heap.size w wx))
            case first =>
              go_region_with (first
                | (go_at_call 33; refine (HH.out wr.drew HB.out.drew (hrr.out wr.drew (Below.refl _ wr).drew)).mono ?_; rintro e w2 ⟨rfl, hb2⟩; have HK2 := Lib.hid (HK.out.over (((Below.refl wr.heap.size wr).drew).trans hb2) hl0); have HR2 := Lib.hid (HR.out.over (((Below.refl wr.heap.size wr).drew).trans hb2) hl1); have HO2 := Lib.hid (HO.out.over (((Below.refl wr.heap.size wr).drew).trans hb2) hl2); have HB2 := Lib.hid (HB.out.trans ((((Below.refl wr.heap.size wr).drew).trans hb2).mono hwr)); have HS2 := Lib.hid hb2.size; clear hb2)
                | (go_at_call 33; refine (HH.out ((wr.alloc (.cells #[.int .i64 0, .bool false, .bool false, .bool false, .bool false] 27)).drew) (HB.out.alloc hwr _).drew (hrr.out _ (((Below.refl _ wr).alloc (Nat.le_refl _) _).drew))).mono ?_; rintro e w2 ⟨rfl, hb2⟩; have hb3 := ((((Below.refl wr.heap.size wr).alloc (Nat.le_refl _) (.cells #[.int .i64 0, .bool false, .bool false, .bool false, .bool false] 27))).drew).trans (hb2.mono (by simp)); have HK2 := Lib.hid (HK.out.over hb3 hl0); have HR2 := Lib.hid (HR.out.over hb3 hl1); have HO2 := Lib.hid (HO.out.over hb3 hl2); have HZ2 := Lib.hid (HZ.out.drew.over hb2 (by simp)); have HB2 := Lib.hid (HB.out.trans (hb3.mono hwr)); obtain ⟨z0, z1, z2, z3, z4, y0, y1, y2, y3, y4⟩ := mvFacts HZ2.out; have zl := HZ2.out.lt; clear hb2 hb3))
              all_goals go_wp2_with fail
              all_goals go_meet
              all_goals first
                | exact ⟨w2.heap.size, rfl, rfl, HS2.out, Bk.new _ _ _, HK2.out.alloc _, HR2.out.alloc _, HO2.out.alloc _, HB2.out.alloc HB2.out.size _⟩
                | exact ⟨wr.heap.size, rfl, rfl, Nat.le_refl _, HZ2.out.mv _ _ _ _ _, HK2.out.farmv (by omega) _ _ _ _ _, HR2.out.farmv (by omega) _ _ _ _ _, HO2.out.farmv (by omega) _ _ _ _ _, below_mv HB2.out hwr _ _ _ _ _⟩
            case rest =>
              obtain ⟨g9, rfl, rfl, hg9, HM2, HK2, HR2, HO2, HB2⟩ := hcut
              have x0 : wc.cell? ⟨w.heap.size, 0, none⟩ = some (.slice (some ⟨b, off, none⟩) ms.length cap) := HK2.out.cell 0
              have x1 : wc.cell? ⟨w.heap.size, 1, none⟩ = some (.slice A2 l.length cap2) := HK2.out.cell 1
              have xl := HK2.out.lt
              have CS := Lib.hid (refMpSecond_any (.slice (some ⟨b, off, none⟩) ms.length cap) _ l B wc (HV2.out _ HB2.out) (Nat.le_trans hB HB2.out.size) i)
              obtain ⟨sc, hsc⟩ : ∃ sc, Hid (sc = secondM l i) := ⟨secondM l i, Lib.hid rfl⟩
              rw [← hsc.out] at CS
              have HM0 := Lib.hid (HM.out i)
              rw [← hsc.out] at HM0
              have HS := Lib.hid hsc.out.symm
              obtain ⟨k', rfl⟩ : ∃ k', k = k' + 1 := ⟨k - 1, by omega⟩
              clear HK HR HO HB HH hrr HAk HZ k0 c0 e0 e1 e2 e3 e4 f0 f1 f2 f3 f4 hsc hbd
              go_wp2_with fail
              refine CS.out.mono ?_
              rintro e w3 ⟨rfl, hb3⟩
              have HM3 := Lib.hid (HM2.out.over hb3 HM2.out.lt)
              have HK3 := Lib.hid (HK2.out.over hb3 HK2.out.lt)
              have HR3 := Lib.hid (HR2.out.over hb3 HR2.out.lt)
              have HO3 := Lib.hid (HO2.out.over hb3 HO2.out.lt)
              have HB3 := Lib.hid (HB2.out.trans (hb3.mono HB2.out.size))
              clear CS hb3 HM2 HK2 HR2 HO2 HB2 x0 x1 xl
              have k0 : w3.cell? ⟨w.heap.size, 0, none⟩ = some (.slice (some ⟨b, off, none⟩) ms.length cap) := HK3.out.cell 0
              obtain ⟨e0, e1, e2, e3, e4, f0, f1, f2, f3, f4⟩ := mvFacts HO3.out
              obtain ⟨v0, v1, v2, v3, v4, -⟩ := mvFacts HM3.out
              have l0 := HK3.out.lt
              have l1 := HR3.out.lt
              have l2 := HO3.out.lt
              have l3 := HM3.out.lt
              go_upto_region 9 with fail
              go_cut [66] from 49 to 66 (fun s66 wx => w3 = wx ∧ ((s66 = .bool false ∧ Hid (z = thG ms l lean k' (i + 1) (joinM ⟨op, oa, ob, oc, od⟩ ⟨vp, va, vb, vc, vd⟩))) ∨ (s66 = .bool true ∧ 0 ≤ sc ∧ ∃ r, j = some r ∧ ∃ hr : r < ms[i].length, 0 < ms[i][r].o)))
              case first =>
                cases j with
                | none =>
                  dsimp only [ixI]
                  have hn := Lib.hid (hq.out.trans (thG_on ms l lean k' i ⟨op, oa, ob, oc, od⟩ ⟨vp, va, vb, vc, vd⟩ _ hlt hqe.out (fun r hr h => by cases h)))
                  clear hq HS HOK HM0
                  go_wp2_with fail
                  go_meet
                  exact ⟨rfl, .inl ⟨rfl, hn⟩⟩
                | some r =>
                  have hrl := hit_there hqe.out
                  dsimp only [ixI]
                  by_cases hs0 : 0 ≤ sc
                  · obtain ⟨s, hs1, hs2, hs3, hs4⟩ := HM0.out hs0
                    obtain ⟨b', off', A5, c5, e', hbB', _, c0, hr5⟩ := (HV1.out _ HB3.out).at hlt
                    simp only [Option.some.injEq, Addr.mk.injEq, and_true] at e'
                    obtain ⟨rfl, rfl⟩ := e'
                    obtain ⟨b6, off6, rfl, hb6, _, d0, d1, _⟩ := hr5.at hrl
                    have hb3s := HB3.out.size
                    have hbw3 : b < w3.heap.size := by omega
                    have hb6w : b6 < w3.heap.size := by omega
                    have hrI : (r : Int) < (ms[i].length : Int) := by omega
                    have hr0 : (0 : Int) ≤ (r : Int) := by omega
                    have hok6 := (okR_iff ms[i][r]).1 (okR_of_mem hok.out.2 _ (List.getElem_mem hrl))
                    obtain ⟨ra, hra⟩ : ∃ x, Hid (x = ms[i][r].a) := ⟨ms[i][r].a, Lib.hid rfl⟩
                    obtain ⟨ro, hro⟩ : ∃ x, Hid (x = ms[i][r].o) := ⟨ms[i][r].o, Lib.hid rfl⟩
                    rw [← hra.out] at d0 hok6
                    rw [← hro.out] at d1
                    have hra0 := hok6.1
                    have hra1 := hok6.2.1
                    clear hok6 hr5
                    by_cases hro0 : 0 < ro
                    · clear hs1
                      have hro1 : 0 < ms[i][r].o := by rw [← hro.out]; exact hro0
                      clear hq HS HOK HM0 hs4 hs2 hs3
                      go_wp2_with fail
                      go_meet
                      exact ⟨rfl, .inr ⟨rfl, hs0, r, rfl, hrl, hro1⟩⟩
                    · have hrb : decide (0 < ro) = false := decide_eq_false hro0
                      have hn := Lib.hid (hq.out.trans (thG_on ms l lean k' i ⟨op, oa, ob, oc, od⟩ ⟨vp, va, vb, vc, vd⟩ _ hlt hqe.out (fun r' hr' h hh => by cases h; exact hro0 (by rw [hro.out]; exact hh.2))))
                      clear hq HS HOK HM0 hs1
                      go_wp2_with fail
                      go_meet
                      exact ⟨rfl, .inl ⟨rfl, hn⟩⟩
                  · have hsb : decide (0 ≤ sc) = false := decide_eq_false hs0
                    have hn := Lib.hid (hq.out.trans (thG_on ms l lean k' i ⟨op, oa, ob, oc, od⟩ ⟨vp, va, vb, vc, vd⟩ _ hlt hqe.out (fun r hr h hh => hs0 (by rw [← HS.out]; exact hh.1))))
                    clear hq HS HOK HM0
                    go_wp2_with fail
                    go_meet
                    exact ⟨rfl, .inl ⟨rfl, hn⟩⟩
              case rest =>
                obtain ⟨rfl, hcc⟩ := hcut
                rcases hcc with ⟨rfl, hn⟩ | ⟨rfl, hs0, r, rfl, hrl, hro1⟩
                · clear hq HS HOK HM0
                  cases oa <;> cases ob <;> cases oc <;> cases od
                  all_goals
                    go_wp2
                    go_roundw
                    case rel => exact ⟨i + 1, k', joinM _ _, by omega, by go_num, by omega, hn, by simp only [joinM]; omega, by simp only [joinM]; omega, HK3.out.farmv (by omega) _ _ _ _ _, HR3.out.farmv (by omega) _ _ _ _ _, HO3.out.mv _ _ _ _ _, below_mv HB3.out (by omega) _ _ _ _ _⟩
                    case measure => simp [intOf]; omega
                · dsimp only [ixI]
                  obtain ⟨s, hs1, hs2, hs3, hs4⟩ := HM0.out hs0
                  obtain ⟨b', off', A5, c5, e', hbB', _, c0, hr5⟩ := (HV1.out _ HB3.out).at hlt
                  simp only [Option.some.injEq, Addr.mk.injEq, and_true] at e'
                  obtain ⟨rfl, rfl⟩ := e'
                  obtain ⟨b6, off6, rfl, hb6, _, d0, d1, _⟩ := hr5.at hrl
                  have hb3s := HB3.out.size
                  have hbw3 : b < w3.heap.size := by omega
                  have hb6w : b6 < w3.heap.size := by omega
                  have hrI : (r : Int) < (ms[i].length : Int) := by omega
                  have hr0 : (0 : Int) ≤ (r : Int) := by omega
                  have hok6 := (okR_iff ms[i][r]).1 (okR_of_mem hok.out.2 _ (List.getElem_mem hrl))
                  obtain ⟨ra, hra⟩ : ∃ x, Hid (x = ms[i][r].a) := ⟨ms[i][r].a, Lib.hid rfl⟩
                  obtain ⟨ro, hro⟩ : ∃ x, Hid (x = ms[i][r].o) := ⟨ms[i][r].o, Lib.hid rfl⟩
                  rw [← hra.out] at d0 hok6
                  rw [← hro.out] at d1
                  have hra0 := hok6.1
                  have hra1 := hok6.2.1
                  clear hok6 hr5
                  have hro0 : 0 < ro := by rw [hro.out]; exact hro1
                  have hlen2 : r < ms[s].length := by rw [← hs4]; exact hrl
                  have hn := Lib.hid (hq.out.trans (thG_jump ms l lean k' i ⟨op, oa, ob, oc, od⟩ ⟨vp, va, vb, vc, vd⟩ r s hlt hqe.out hrl (by rw [HS.out]; exact hs1) hs3 (by rw [← hro.out]; exact hro0)))
                  have hok2 := HOK.out ms[s] (List.getElem_mem hs3)
                  obtain ⟨b', off', A7, c7, e', _, _, g0, hr7⟩ := (HV1.out _ HB3.out).at hs3
                  simp only [Option.some.injEq, Addr.mk.injEq, and_true] at e'
                  obtain ⟨rfl, rfl⟩ := e'
                  have hcb := came_bound (okR_of_mem hok2.2) hlen2
                  have hl2 : (ms[s].length : Int) ≤ 64 := by have := hok2.1; omega
                  have CC := Lib.hid (fun w' (h : Below w3.heap.size w3 w') => refMpCame_any _ _ B w' (hr7.below (h.mono (by omega))) (by have := h.size; omega) hok2.2 hok2.1 r hlen2)
                  obtain ⟨cm, hcm⟩ : ∃ x, Hid (x = cameM ms[s] r) := ⟨cameM ms[s] r, Lib.hid rfl⟩
                  rw [← hcm.out] at CC hcb
                  have hn2 : Hid (z = thG ms l lean k' (s + 1) ⟨cm + op - ra, oa, ob, oc, od⟩) := by show _ = _; rw [hn.out, hcm.out, hra.out]
                  have hsI : (s : Int) < (ms.length : Int) := by omega
                  have hs00 : (0 : Int) ≤ (s : Int) := by omega
                  have hc1 : -67108864 ≤ cm := by omega
                  have hc2 : cm ≤ 68157440 := by omega
                  have hw1 : IntKind.i64.wrap (cm + op) = cm + op := IntWalk.i64_in _ (by omega)
                  have hw2 : IntKind.i64.wrap (cm + op - ra) = cm + op - ra := IntWalk.i64_in _ (by omega)
                  subst hs1
                  clear hq HS HOK HM0 hn hcb hr7 hok2 hcm hs4 v0 v1 v2 v3 v4
                  go_wp2_with fail
                  have k0' : w3.drew.cell? ⟨w.heap.size, 0, none⟩ = some (.slice (some ⟨b, off, none⟩) ms.length cap) := k0
                  have g0' : w3.drew.cell? ⟨b, off + s, none⟩ = some (.slice A7 ms[s].length c7) := g0
                  have c0' : w3.drew.cell? ⟨b, off + i, none⟩ = some (.slice (some ⟨b6, off6, none⟩) ms[i].length c5) := c0
                  have d0' : w3.drew.cell? ⟨b6, off6 + r * 3, none⟩ = some (.int .i64 ra) := d0
                  have hne0 : gq ≠ w.heap.size := by omega
                  have hne1 : gq ≠ b := by omega
                  have hne2 : gq ≠ b6 := by omega
                  refine wp_region_held_drew (S := (fun w' => w'.cell? ⟨w.heap.size, 0, none⟩ = some (.slice (some ⟨b, off, none⟩) ms.length cap) ∧ w'.cell? ⟨b, off + s, none⟩ = some (.slice A7 ms[s].length c7) ∧ w'.cell? ⟨b, off + i, none⟩ = some (.slice (some ⟨b6, off6, none⟩) ms[i].length c5) ∧ w'.cell? ⟨b6, off6 + r * 3, none⟩ = some (.int .i64 ra))) (by kernel_rfl) ⟨k0', g0', c0', d0'⟩ (fun hHeld => ?_)
                  refine wpAnyH_take (i := 0) (oi := ?o1) (v := ?v1) ?hi1 (by kernel_rfl) (by kernel_rfl) (by kernel_rfl) ?hq1 ?hy1 (by assumption) ?hr1
                  case hi1 => (simp only [List.getElem?_toArray, List.getElem?_cons_zero]; exact rfl)
                  case hq1 => exact fun _ _ _ h => h
                  case hy1 => (refine Or.inl ⟨by rfl, ?_⟩; intro w hSw; (try dsimp only at hSw); go_simp; (try with_reducible rfl))
                  try simp only [Act.put, List.setIfInBounds_toArray, List.set_cons_zero, List.set_cons_succ]
                  refine wpAnyH_take (i := 1) (oi := ?o2) (v := ?v2) ?hi2 (by kernel_rfl) (by kernel_rfl) (by kernel_rfl) ?hq2 ?hy2 (by assumption) ?hr2
                  case hi2 => (simp only [List.getElem?_toArray, List.getElem?_cons_succ, List.getElem?_cons_zero]; exact rfl)
                  case hq2 => exact fun _ _ _ h => h
                  case hy2 => (refine Or.inl ⟨by rfl, ?_⟩; intro w hSw; (try dsimp only at hSw); go_simp; (try with_reducible rfl))
                  try simp only [Act.put, List.setIfInBounds_toArray, List.set_cons_zero, List.set_cons_succ]
                  refine wpAnyH_take (i := 2) (oi := ?o3) (v := ?v3) ?hi3 (by kernel_rfl) (by kernel_rfl) (by kernel_rfl) ?hq3 ?hy3 (by assumption) ?hr3
                  case hi3 => (simp only [List.getElem?_toArray, List.getElem?_cons_succ, List.getElem?_cons_zero]; exact rfl)
                  case hq3 => exact fun _ _ _ h => h
                  case hy3 => (refine Or.inl ⟨by rfl, ?_⟩; intro w hSw; (try dsimp only at hSw); go_simp; (try with_reducible rfl))
                  try simp only [Act.put, List.setIfInBounds_toArray, List.set_cons_zero, List.set_cons_succ]
                  refine wpAnyH_take (i := 3) (oi := ?o4) (v := ?v4) ?hi4 (by kernel_rfl) (by kernel_rfl) (by kernel_rfl) ?hq4 ?hy4 (by assumption) ?hr4
                  case hi4 => (simp only [List.getElem?_toArray, List.getElem?_cons_succ, List.getElem?_cons_zero]; exact rfl)
                  case hq4 => exact fun _ _ _ h => h
                  case hy4 => (refine Or.inl ⟨by rfl, ?_⟩; intro w hSw; (try dsimp only at hSw); go_simp; (try with_reducible rfl))
                  try simp only [Act.put, List.setIfInBounds_toArray, List.set_cons_zero, List.set_cons_succ]
                  refine wpAnyH_take (i := 4) (oi := ?o5) (v := ?v5) ?hi5 (by kernel_rfl) (by kernel_rfl) (by kernel_rfl) ?hq5 ?hy5 (by assumption) ?hr5
                  case hi5 => (simp only [List.getElem?_toArray, List.getElem?_cons_succ, List.getElem?_cons_zero]; exact rfl)
                  case hq5 => exact fun _ _ _ h => h
                  case hy5 => (refine Or.inl ⟨by rfl, ?_⟩; intro w hSw; (try dsimp only at hSw); go_simp; (try with_reducible rfl))
                  try simp only [Act.put, List.setIfInBounds_toArray, List.set_cons_zero, List.set_cons_succ]
                  refine wpAnyH_take (i := 5) (oi := ?o6) (v := ?v6) ?hi6 (by kernel_rfl) (by kernel_rfl) (by kernel_rfl) ?hq6 ?hy6 (by assumption) ?hr6
                  case hi6 => (simp only [List.getElem?_toArray, List.getElem?_cons_succ, List.getElem?_cons_zero]; exact rfl)
                  case hq6 => exact fun _ _ _ h => h
                  case hy6 => (refine Or.inl ⟨by rfl, ?_⟩; intro w hSw; (try dsimp only at hSw); go_simp; (try with_reducible rfl))
                  try simp only [Act.put, List.setIfInBounds_toArray, List.set_cons_zero, List.set_cons_succ]
                  refine wpAnyH_take (i := 7) (oi := ?o7) (v := ?v7) ?hi7 (by kernel_rfl) (by kernel_rfl) (by kernel_rfl) ?hq7 ?hy7 (by assumption) ?hr7
                  case hi7 => (simp only [List.getElem?_toArray, List.getElem?_cons_succ, List.getElem?_cons_zero]; exact rfl)
                  case hq7 => exact fun _ _ _ h => h
                  case hy7 => (refine Or.inl ⟨by rfl, ?_⟩; intro w hSw; (try dsimp only at hSw); go_simp; (try with_reducible rfl))
                  try simp only [Act.put, List.setIfInBounds_toArray, List.set_cons_zero, List.set_cons_succ]
                  refine wpAnyH_take (i := 10) (oi := ?o8) (v := ?v8) ?hi8 (by kernel_rfl) (by kernel_rfl) (by kernel_rfl) ?hq8 ?hy8 (by assumption) ?hr8
                  case hi8 => (simp only [List.getElem?_toArray, List.getElem?_cons_succ, List.getElem?_cons_zero]; exact rfl)
                  case hq8 => exact fun _ _ _ h => h
                  case hy8 => (refine Or.inl ⟨by rfl, ?_⟩; intro w hSw; (try dsimp only at hSw); go_simp; (try with_reducible rfl))
                  try simp only [Act.put, List.setIfInBounds_toArray, List.set_cons_zero, List.set_cons_succ]
                  refine wpAnyH_take (i := 11) (oi := ?o9) (v := ?v9) ?hi9 (by kernel_rfl) (by kernel_rfl) (by kernel_rfl) ?hq9 ?hy9 (by assumption) ?hr9
                  case hi9 => (simp only [List.getElem?_toArray, List.getElem?_cons_succ, List.getElem?_cons_zero]; exact rfl)
                  case hq9 => exact fun _ _ _ h => h
                  case hy9 => (refine Or.inl ⟨by rfl, ?_⟩; intro w hSw; (try dsimp only at hSw); go_simp; (try with_reducible rfl))
                  try simp only [Act.put, List.setIfInBounds_toArray, List.set_cons_zero, List.set_cons_succ]
                  refine wpAnyH_take (i := 12) (oi := ?o10) (v := ?v10) ?hi10 (by kernel_rfl) (by kernel_rfl) (by kernel_rfl) ?hq10 ?hy10 (by assumption) ?hr10
                  case hi10 => (simp only [List.getElem?_toArray, List.getElem?_cons_succ, List.getElem?_cons_zero]; exact rfl)
                  case hq10 => exact fun _ _ _ h => h
                  case hy10 => (refine Or.inl ⟨by rfl, ?_⟩; intro w hSw; (try dsimp only at hSw); go_simp; (try with_reducible rfl))
                  try simp only [Act.put, List.setIfInBounds_toArray, List.set_cons_zero, List.set_cons_succ]
                  refine wpAnyH_take (i := 13) (oi := ?o11) (v := ?v11) ?hi11 (by kernel_rfl) (by kernel_rfl) (by kernel_rfl) ?hq11 ?hy11 (by assumption) ?hr11
                  case hi11 => (simp only [List.getElem?_toArray, List.getElem?_cons_succ, List.getElem?_cons_zero]; exact rfl)
                  case hq11 => exact fun _ _ _ h => h
                  case hy11 => (refine Or.inl ⟨by rfl, ?_⟩; intro w hSw; (try dsimp only at hSw); go_simp; (try with_reducible rfl))
                  try simp only [Act.put, List.setIfInBounds_toArray, List.set_cons_zero, List.set_cons_succ]
                  refine wpAnyH_take (i := 14) (oi := ?o12) (v := ?v12) ?hi12 (by kernel_rfl) (by kernel_rfl) (by kernel_rfl) ?hq12 ?hy12 (by assumption) ?hr12
                  case hi12 => (simp only [List.getElem?_toArray, List.getElem?_cons_succ, List.getElem?_cons_zero]; exact rfl)
                  case hq12 => exact fun _ _ _ h => h
                  case hy12 => (refine Or.inl ⟨by rfl, ?_⟩; intro w hSw; (try dsimp only at hSw); go_simp; (try with_reducible rfl))
                  try simp only [Act.put, List.setIfInBounds_toArray, List.set_cons_zero, List.set_cons_succ]
                  refine wpAnyH_take (i := 15) (oi := ?o13) (v := ?v13) ?hi13 (by kernel_rfl) (by kernel_rfl) (by kernel_rfl) ?hq13 ?hy13 (by assumption) ?hr13
                  case hi13 => (simp only [List.getElem?_toArray, List.getElem?_cons_succ, List.getElem?_cons_zero]; exact rfl)
                  case hq13 => exact fun _ _ _ h => h
                  case hy13 => (refine Or.inl ⟨by rfl, ?_⟩; intro w hSw; (try dsimp only at hSw); go_simp; (try with_reducible rfl))
                  try simp only [Act.put, List.setIfInBounds_toArray, List.set_cons_zero, List.set_cons_succ]
                  refine wpAnyH_take (i := 16) (oi := ?o14) (v := ?v14) ?hi14 (by kernel_rfl) (by kernel_rfl) (by kernel_rfl) ?hq14 ?hy14 (by assumption) ?hr14
                  case hi14 => (simp only [List.getElem?_toArray, List.getElem?_cons_succ, List.getElem?_cons_zero]; exact rfl)
                  case hq14 => exact fun _ _ _ h => h
                  case hy14 => (refine Or.inl ⟨by rfl, ?_⟩; intro w hSw; (try dsimp only at hSw); go_simp; (try with_reducible rfl))
                  try simp only [Act.put, List.setIfInBounds_toArray, List.set_cons_zero, List.set_cons_succ]
                  refine wpAnyH_take (i := 17) (oi := ?o15) (v := ?v15) ?hi15 (by kernel_rfl) (by kernel_rfl) (by kernel_rfl) ?hq15 ?hy15 (by assumption) ?hr15
                  case hi15 => (simp only [List.getElem?_toArray, List.getElem?_cons_succ, List.getElem?_cons_zero]; exact rfl)
                  case hq15 => exact fun _ _ _ h => h
                  case hy15 => (refine Or.inl ⟨by rfl, ?_⟩; intro w hSw; (try dsimp only at hSw); go_simp; (try with_reducible rfl))
                  try simp only [Act.put, List.setIfInBounds_toArray, List.set_cons_zero, List.set_cons_succ]
                  refine wpAnyH_take (i := 18) (oi := ?o16) (v := ?v16) ?hi16 (by kernel_rfl) (by kernel_rfl) (by kernel_rfl) ?hq16 ?hy16 (by assumption) ?hr16
                  case hi16 => (simp only [List.getElem?_toArray, List.getElem?_cons_succ, List.getElem?_cons_zero]; exact rfl)
                  case hq16 => exact fun _ _ _ h => h
                  case hy16 => (refine Or.inl ⟨by rfl, ?_⟩; intro w hSw; (try dsimp only at hSw); go_simp; (try with_reducible rfl))
                  try simp only [Act.put, List.setIfInBounds_toArray, List.set_cons_zero, List.set_cons_succ]
                  refine wpAnyH_ready (rs := [6, 8]) (by kernel_rfl) (by simp) ?_
                  refine AllReadyH.cons (o := ?o17) ?hi17 (fun K hK => ?hk17) ?hr17
                  case hi17 => (simp only [List.getElem?_toArray, List.getElem?_cons_succ, List.getElem?_cons_zero]; exact rfl)
                  case hr17 =>
                    refine AllReadyH.cons (o := ?o18) ?hi18 (fun K hK => ?hk18) ?hr18
                    case hi18 => (simp only [List.getElem?_toArray, List.getElem?_cons_succ, List.getElem?_cons_zero]; exact rfl)
                    case hr18 => exact AllReadyH.nil
                    go_simp
                    refine hK.out _ _ ⟨k0', g0', c0', d0'⟩ (fun hHeld18 => ?_)
                    clear hK K
                    try simp only [Act.put, List.setIfInBounds_toArray, List.set_cons_zero, List.set_cons_succ]
                    refine wpAnyH_ready (rs := [6]) (by kernel_rfl) (by simp) ?_
                    refine AllReadyH.cons (o := ?o19) ?hi19 (fun K hK => ?hk19) ?hr19
                    case hi19 => (simp only [List.getElem?_toArray, List.getElem?_cons_succ, List.getElem?_cons_zero]; exact rfl)
                    case hr19 => exact AllReadyH.nil
                    go_simp
                    (go_at_call 37; refine (CC.out w3.drew (Below.refl _ w3).drew).mono ?_; rintro e w4 ⟨rfl, hb4⟩; have hb5 := Lib.hid (((Below.refl w3.heap.size w3).drew).trans hb4); have y0 := (hb5.out.cell (p := ⟨w.heap.size, 0, none⟩) l0).trans k0; have y1 := (hb5.out.cell (p := ⟨b, off + i, none⟩) hbw3).trans c0; have y2 := (hb5.out.cell (p := ⟨b6, off6 + r * 3, none⟩) hb6w).trans d0; have y5 := (hb5.out.cell (p := ⟨b, off + s, none⟩) hbw3).trans g0; have y3 := (hb5.out.cell (p := ⟨gq, 0, none⟩) l2).trans e0; have y4 := (hb5.out.frozen (p := ⟨gq, 0, none⟩) l2).trans f0; have y6 : gq < w4.heap.size := Nat.lt_of_lt_of_le l2 hb5.out.size; clear hb4)
                    refine hK.out _ _ ⟨y0, y5, y1, y2⟩ (fun hHeld19 => ?_)
                    clear hK K
                    try simp only [Act.put, List.setIfInBounds_toArray, List.set_cons_zero, List.set_cons_succ]
                    refine wpAnyH_take (i := 9) (oi := ?o20) (v := ?v20) ?hi20 (by kernel_rfl) (by kernel_rfl) (by kernel_rfl) ?hq20 ?hy20 (by assumption) ?hr20
                    case hi20 => (simp only [List.getElem?_toArray, List.getElem?_cons_succ, List.getElem?_cons_zero]; exact rfl)
                    case hq20 => exact fun _ _ _ h => h
                    case hy20 => (refine Or.inl ⟨by rfl, ?_⟩; intro w hSw; (try dsimp only at hSw); go_simp; (try with_reducible rfl))
                    try simp only [Act.put, List.setIfInBounds_toArray, List.set_cons_zero, List.set_cons_succ]
                    refine wpAnyH_take (i := 19) (oi := ?o21) (v := ?v21) ?hi21 (by kernel_rfl) (by kernel_rfl) (by kernel_rfl) ?hq21 ?hy21 (by assumption) ?hr21
                    case hi21 => (simp only [List.getElem?_toArray, List.getElem?_cons_succ, List.getElem?_cons_zero]; exact rfl)
                    case hq21 => exact fun _ _ _ h => h
                    case hy21 => (refine Or.inl ⟨by rfl, ?_⟩; intro w hSw; (try dsimp only at hSw); go_simp; (try with_reducible rfl))
                    try simp only [Act.put, List.setIfInBounds_toArray, List.set_cons_zero, List.set_cons_succ]
                    refine wpAnyH_take (i := 20) (oi := ?o22) (v := ?v22) ?hi22 (by kernel_rfl) (by kernel_rfl) (by kernel_rfl) ?hq22 ?hy22 (by assumption) ?hr22
                    case hi22 => (simp only [List.getElem?_toArray, List.getElem?_cons_succ, List.getElem?_cons_zero]; exact rfl)
                    case hq22 => exact fun _ _ _ h => h
                    case hy22 => (refine Or.inl ⟨by rfl, ?_⟩; intro w hSw; (try dsimp only at hSw); go_simp; (try with_reducible rfl))
                    try simp only [Act.put, List.setIfInBounds_toArray, List.set_cons_zero, List.set_cons_succ]
                    refine wpAnyH_ready (rs := [21]) (by kernel_rfl) (by simp) ?_
                    refine AllReadyH.cons (o := ?o23) ?hi23 (fun K hK => ?hk23) ?hr23
                    case hi23 => (simp only [List.getElem?_toArray, List.getElem?_cons_succ, List.getElem?_cons_zero]; exact rfl)
                    case hr23 => exact AllReadyH.nil
                    go_simp
                    refine hK.out _ _ ⟨(World.cell?_setCell_far _ _ _ _ hne0).trans y0, (World.cell?_setCell_far _ _ _ _ hne1).trans y5, (World.cell?_setCell_far _ _ _ _ hne1).trans y1, (World.cell?_setCell_far _ _ _ _ hne2).trans y2⟩ (fun hHeld23 => ?_)
                    clear hK K
                    try simp only [Act.put, List.setIfInBounds_toArray, List.set_cons_zero, List.set_cons_succ]
                    refine wpAnyH_done (by kernel_rfl) ?_ _
                    have HK4 := Lib.hid (HK3.out.over hb5.out l0)
                    have HR4 := Lib.hid (HR3.out.over hb5.out l1)
                    have HO4 : Hid (Bk (w4.setCell ⟨gq, 0, none⟩ (.int .i64 (cm + op - ra))) gq 27 #[.int .i64 (cm + op - ra), .bool oa, .bool ob, .bool oc, .bool od]) := by
                      have := (HO3.out.over hb5.out l2).set 0 (.int .i64 (cm + op - ra))
                      show Bk _ _ _ _
                      simpa using this
                    have HB4 := Lib.hid (HB3.out.trans (hb5.out.mono hb3s))
                    clear CC hb5 y0 y1 y2
                    go_wp2
                    go_roundw
                    case rel => exact ⟨s + 1, k', ⟨cm + op - ra, oa, ob, oc, od⟩, by omega, by go_num, by omega, hn2, by dsimp only; omega, by dsimp only; omega, HK4.out.far (p := ⟨gq, 0, none⟩) (by show w.heap.size ≠ gq; omega) _, HR4.out.far (p := ⟨gq, 0, none⟩) (by show w.heap.size + 1 ≠ gq; omega) _, HO4, HB4.out.setCell (p := ⟨gq, 0, none⟩) (by show w.heap.size ≤ gq; omega) _⟩
                    case measure => simp [intOf]; omega
                  go_simp
                  (go_at_call 37; refine (CC.out w3.drew (Below.refl _ w3).drew).mono ?_; rintro e w4 ⟨rfl, hb4⟩; have hb5 := Lib.hid (((Below.refl w3.heap.size w3).drew).trans hb4); have y0 := (hb5.out.cell (p := ⟨w.heap.size, 0, none⟩) l0).trans k0; have y1 := (hb5.out.cell (p := ⟨b, off + i, none⟩) hbw3).trans c0; have y2 := (hb5.out.cell (p := ⟨b6, off6 + r * 3, none⟩) hb6w).trans d0; have y5 := (hb5.out.cell (p := ⟨b, off + s, none⟩) hbw3).trans g0; have y3 := (hb5.out.cell (p := ⟨gq, 0, none⟩) l2).trans e0; have y4 := (hb5.out.frozen (p := ⟨gq, 0, none⟩) l2).trans f0; have y6 : gq < w4.heap.size := Nat.lt_of_lt_of_le l2 hb5.out.size; clear hb4)
                  refine hK.out _ _ ⟨y0, y5, y1, y2⟩ (fun hHeld17 => ?_)
                  clear hK K
                  try simp only [Act.put, List.setIfInBounds_toArray, List.set_cons_zero, List.set_cons_succ]
                  refine wpAnyH_ready (rs := [8]) (by kernel_rfl) (by simp) ?_
                  refine AllReadyH.cons (o := ?o24) ?hi24 (fun K hK => ?hk24) ?hr24
                  case hi24 => (simp only [List.getElem?_toArray, List.getElem?_cons_succ, List.getElem?_cons_zero]; exact rfl)
                  case hr24 => exact AllReadyH.nil
                  go_simp
                  refine hK.out _ _ ⟨y0, y5, y1, y2⟩ (fun hHeld24 => ?_)
                  clear hK K
                  try simp only [Act.put, List.setIfInBounds_toArray, List.set_cons_zero, List.set_cons_succ]
                  refine wpAnyH_take (i := 9) (oi := ?o25) (v := ?v25) ?hi25 (by kernel_rfl) (by kernel_rfl) (by kernel_rfl) ?hq25 ?hy25 (by assumption) ?hr25
                  case hi25 => (simp only [List.getElem?_toArray, List.getElem?_cons_succ, List.getElem?_cons_zero]; exact rfl)
                  case hq25 => exact fun _ _ _ h => h
                  case hy25 => (refine Or.inl ⟨by rfl, ?_⟩; intro w hSw; (try dsimp only at hSw); go_simp; (try with_reducible rfl))
                  try simp only [Act.put, List.setIfInBounds_toArray, List.set_cons_zero, List.set_cons_succ]
                  refine wpAnyH_take (i := 19) (oi := ?o26) (v := ?v26) ?hi26 (by kernel_rfl) (by kernel_rfl) (by kernel_rfl) ?hq26 ?hy26 (by assumption) ?hr26
                  case hi26 => (simp only [List.getElem?_toArray, List.getElem?_cons_succ, List.getElem?_cons_zero]; exact rfl)
                  case hq26 => exact fun _ _ _ h => h
                  case hy26 => (refine Or.inl ⟨by rfl, ?_⟩; intro w hSw; (try dsimp only at hSw); go_simp; (try with_reducible rfl))
                  try simp only [Act.put, List.setIfInBounds_toArray, List.set_cons_zero, List.set_cons_succ]
                  refine wpAnyH_take (i := 20) (oi := ?o27) (v := ?v27) ?hi27 (by kernel_rfl) (by kernel_rfl) (by kernel_rfl) ?hq27 ?hy27 (by assumption) ?hr27
                  case hi27 => (simp only [List.getElem?_toArray, List.getElem?_cons_succ, List.getElem?_cons_zero]; exact rfl)
                  case hq27 => exact fun _ _ _ h => h
                  case hy27 => (refine Or.inl ⟨by rfl, ?_⟩; intro w hSw; (try dsimp only at hSw); go_simp; (try with_reducible rfl))
                  try simp only [Act.put, List.setIfInBounds_toArray, List.set_cons_zero, List.set_cons_succ]
                  refine wpAnyH_ready (rs := [21]) (by kernel_rfl) (by simp) ?_
                  refine AllReadyH.cons (o := ?o28) ?hi28 (fun K hK => ?hk28) ?hr28
                  case hi28 => (simp only [List.getElem?_toArray, List.getElem?_cons_succ, List.getElem?_cons_zero]; exact rfl)
                  case hr28 => exact AllReadyH.nil
                  go_simp
                  refine hK.out _ _ ⟨(World.cell?_setCell_far _ _ _ _ hne0).trans y0, (World.cell?_setCell_far _ _ _ _ hne1).trans y5, (World.cell?_setCell_far _ _ _ _ hne1).trans y1, (World.cell?_setCell_far _ _ _ _ hne2).trans y2⟩ (fun hHeld28 => ?_)
                  clear hK K
                  try simp only [Act.put, List.setIfInBounds_toArray, List.set_cons_zero, List.set_cons_succ]
                  refine wpAnyH_done (by kernel_rfl) ?_ _
                  have HK4 := Lib.hid (HK3.out.over hb5.out l0)
                  have HR4 := Lib.hid (HR3.out.over hb5.out l1)
                  have HO4 : Hid (Bk (w4.setCell ⟨gq, 0, none⟩ (.int .i64 (cm + op - ra))) gq 27 #[.int .i64 (cm + op - ra), .bool oa, .bool ob, .bool oc, .bool od]) := by
                    have := (HO3.out.over hb5.out l2).set 0 (.int .i64 (cm + op - ra))
                    show Bk _ _ _ _
                    simpa using this
                  have HB4 := Lib.hid (HB3.out.trans (hb5.out.mono hb3s))
                  clear CC hb5 y0 y1 y2
                  go_wp2
                  go_roundw
                  case rel => exact ⟨s + 1, k', ⟨cm + op - ra, oa, ob, oc, od⟩, by omega, by go_num, by omega, hn2, by dsimp only; omega, by dsimp only; omega, HK4.out.far (p := ⟨gq, 0, none⟩) (by show w.heap.size ≠ gq; omega) _, HR4.out.far (p := ⟨gq, 0, none⟩) (by show w.heap.size + 1 ≠ gq; omega) _, HO4, HB4.out.setCell (p := ⟨gq, 0, none⟩) (by show w.heap.size ≤ gq; omega) _⟩
                  case measure => simp [intOf]; omega
          · obtain rfl : i = ms.length := by omega
            have hr : Hid (z = ⟨op, oa, ob, oc, od⟩) := by show _ = _; rw [hq.out, thG_out _ _ _ _ _ _ hlt]
            obtain ⟨r0, r1, r2, r3, r4, s0, s1, s2, s3, s4⟩ := mvFacts HR.out
            clear hq
            go_wp2
            exact mv_ret1 (m := ⟨op, oa, ob, oc, od⟩) rfl rfl rfl hr (HR.out.mv _ _ _ _ _) (below_mv HB.out (by omega) _ _ _ _ _)
  · have hcb : (c != 0) = true := by simpa using c0
    have hf : Hid (z = out p) := by show _ = _; rw [hz.out]; unfold throughM; rw [if_pos (.inl (by rw [← hc.out]; exact c0))]
    clear hz hc c0
    go_wp2
    exact mv_ret1 (m := out p) rfl rfl rfl hf (HR.out.mv _ _ _ _ _) (below_mv HB1.out (by omega) _ _ _ _ _)
end Go.Proofs.Ytiilbgejdpnfpaa
