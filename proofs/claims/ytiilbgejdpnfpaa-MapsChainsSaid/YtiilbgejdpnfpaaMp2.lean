/- MpW, MpX, MpY, merged. -/
import Derived.Test.YtiilbgejdpnfpaaMp1
/- Places through maps: chains, as they are read; a map's mirror. -/
namespace Go.Proofs.Ytiilbgejdpnfpaa
open Go.RowKit Go.Mps

def miC : List Mi → List Value
  | [] => []
  | r :: l => iV r.f :: iV r.s :: miC l
theorem miC_get : ∀ (l : List Mi) (k : Nat) (h : k < l.length), (miC l)[k * 2]? = some (iV l[k].f) ∧ (miC l)[k * 2 + 1]? = some (iV l[k].s)
  | [], k, h => by simp at h
  | r :: l, 0, _ => ⟨rfl, rfl⟩
  | r :: l, k + 1, h => by
    have ih := miC_get l k (by simpa using h)
    have e : (k + 1) * 2 = k * 2 + 1 + 1 := by omega
    rw [e]
    simpa [miC] using ih
/-- slice v has the mirrors l -/
def Mis (w : World) (B : Nat) (v : Value) (l : List Mi) : Prop := Rd w B v 2 l.length (miC l)
/-- slice v has the maps ms -/
def Mss (w : World) (B : Nat) (v : Value) (ms : List (List Rg)) : Prop := ∃ vs : List Value, vs.length = ms.length ∧ Rd w B v 1 ms.length vs ∧ ∀ i (h : i < vs.length) (h' : i < ms.length), Rgs w B vs[i] ms[i]
section
variable {w w' : World} {B B' : Nat} {v : Value}
theorem Mis.below {l : List Mi} (h : Mis w B v l) (hb : Below B w w') : Mis w' B v l := Rd.below h hb
theorem Mis.form {l : List Mi} (h : Mis w B v l) : ∃ A cap, v = .slice A l.length cap := Rd.form h
theorem Mis.max {l : List Mi} (h : Mis w B v l) : l.length ≤ maxLen := Rd.max h
theorem Mis.at {l : List Mi} {A : Option Addr} {cap : Nat} (h : Mis w B (.slice A l.length cap) l) {k : Nat} (hk : k < l.length) :
    ∃ b off, A = some ⟨b, off, none⟩ ∧ b < B ∧ l.length ≤ cap ∧ w.cell? ⟨b, off + k * 2, none⟩ = some (.int .i64 l[k].f) ∧ w.cell? ⟨b, off + k * 2 + 1, none⟩ = some (.int .i64 l[k].s) := by
  obtain ⟨b, off, hA, hb, hc, hg⟩ := Rd.at h (by omega)
  obtain ⟨g1, g2⟩ := miC_get l k hk
  refine ⟨b, off, hA, hb, hc, hg _ _ g1, ?_⟩
  have := hg _ _ g2; rwa [← Nat.add_assoc] at this
theorem Mss.below {ms : List (List Rg)} (h : Mss w B v ms) (hb : Below B w w') : Mss w' B v ms := by
  obtain ⟨vs, h1, h2, h3⟩ := h
  exact ⟨vs, h1, h2.below hb, fun i a b => (h3 i a b).below hb⟩
theorem Mss.form {ms : List (List Rg)} (h : Mss w B v ms) : ∃ A cap, v = .slice A ms.length cap := by obtain ⟨_, _, h2, _⟩ := h; exact Rd.form h2
theorem Mss.max {ms : List (List Rg)} (h : Mss w B v ms) : ms.length ≤ maxLen := by obtain ⟨_, _, h2, _⟩ := h; exact Rd.max h2
/-- map k: its slice -/
theorem Mss.at {ms : List (List Rg)} {A : Option Addr} {cap : Nat} (h : Mss w B (.slice A ms.length cap) ms) {k : Nat} (hk : k < ms.length) :
    ∃ b off A2 c2, A = some ⟨b, off, none⟩ ∧ b < B ∧ ms.length ≤ cap ∧ w.cell? ⟨b, off + k, none⟩ = some (.slice A2 ms[k].length c2) ∧ Rgs w B (.slice A2 ms[k].length c2) ms[k] := by
  obtain ⟨vs, h1, h2, h3⟩ := h
  obtain ⟨b, off, hA, hb, hc, hg⟩ := Rd.at h2 (by omega)
  have hv : k < vs.length := by omega
  have hr := h3 k hv hk
  obtain ⟨A2, c2, e⟩ := hr.form
  refine ⟨b, off, A2, c2, hA, hb, hc, ?_, by rw [← e]; exact hr⟩
  rw [← e]; exact hg k _ (List.getElem?_eq_getElem hv)
end
theorem second_drop (l : List Mi) (i : Int) {k : Nat} (h : k < l.length) : secondM (l.drop k) i = if l[k].f = i then l[k].s else secondM (l.drop (k + 1)) i := by
  rw [List.drop_eq_getElem_cons h, secondM]
theorem second_out (l : List Mi) (i : Int) {k : Nat} (h : ¬ k < l.length) : secondM (l.drop k) i = -1 := by
  rw [List.drop_eq_nil_of_le (by omega)]; rfl

set_option maxRecDepth 100000 in
set_option maxHeartbeats 1000000 in
theorem refMpSecond_any (v1 v2 : Value) (l : List Mi) (B : Nat) (w : World) (h2 : Mis w B v2 l) (hB : B ≤ w.heap.size) (i : Int) :
    Calls Try.prog 36 #[.agg #[v1, v2], .int .i64 i] w fun e w' => e = .returned (.int .i64 (secondM l i)) ∧ Below w.heap.size w w' := by
  obtain ⟨A, cap, rfl⟩ := h2.form
  have hm := h2.max
  unfold maxLen at hm
  obtain ⟨z, hz⟩ : ∃ z, Hid (z = secondM (l.drop 0) i) := ⟨secondM (l.drop 0) i, Lib.hid rfl⟩
  have hz0 : Hid (z = secondM l i) := by show _ = _; rw [hz.out, List.drop_zero]
  rw [← hz0.out]
  have HV := Lib.hid (fun w' (h : Below w.heap.size w w') => h2.below (h.mono hB))
  have HBk := Lib.hid (Bk.new w 33 #[v1, .slice A l.length cap])
  have HB0 := Lib.hid (((Below.refl w.heap.size w).alloc (Nat.le_refl _) (.cells #[v1, .slice A l.length cap] 33)))
  clear h2 hz0
  go_enter Try.func36, Try.ntmps36
  go_wp2
  go_loopw [5] (fun x wr => ∃ k : Nat, k ≤ l.length ∧ x = .int .i64 k ∧ Hid (z = secondM (l.drop k) i) ∧ Hid (Bk wr w.heap.size 33 #[v1, .slice A l.length cap]) ∧ Hid (Below w.heap.size w wr)) (fun x _ => l.length - (intOf x).toNat)
  case atStart => exact ⟨0, Nat.zero_le _, rfl, hz, HBk, HB0⟩
  case round =>
    obtain ⟨k, hk, rfl, hq, HK, HB⟩ := hrel
    have hbl := HK.out.lt
    have e1 : wr.cell? ⟨w.heap.size, 1, none⟩ = some (.slice A l.length cap) := HK.out.cell 1
    by_cases hlt : k < l.length
    · have hkI : (k : Int) < (l.length : Int) := by omega
      have hk0 : (0 : Int) ≤ k := by omega
      obtain ⟨b, off, rfl, hbB, _, c0, c1⟩ := (HV.out _ HB.out).at hlt
      have hbw : b < wr.heap.size := by have := HB.out.size; omega
      have hs := Lib.hid (second_drop l i hlt)
      obtain ⟨f, hf⟩ : ∃ f, Hid (f = l[k].f) := ⟨l[k].f, Lib.hid rfl⟩
      obtain ⟨s, hs2⟩ : ∃ s, Hid (s = l[k].s) := ⟨l[k].s, Lib.hid rfl⟩
      rw [← hf.out, ← hs2.out] at hs
      rw [← hf.out] at c0
      rw [← hs2.out] at c1
      clear hf hs2
      by_cases e : f = i
      · have hr : Hid (z = s) := by show _ = _; rw [hq.out, hs.out, if_pos e]
        have eb : (f == i) = true := beq_iff_eq.2 e
        subst e
        clear hs hq
        go_wp2
        go_ret
        exact ⟨by rw [hr.out]; rfl, HB.out⟩
      · have hr : Hid (z = secondM (l.drop (k + 1)) i) := by show _ = _; rw [hq.out, hs.out, if_neg e]
        have eb : (f == i) = false := beq_eq_false_iff_ne.2 e
        clear hs hq e
        go_wp2
        go_roundw
        case rel => exact ⟨k + 1, by omega, by go_num, hr, HK, HB⟩
        case measure => simp [intOf]; omega
    · have hr : Hid (z = -1) := by show _ = _; rw [hq.out, second_out l i hlt]
      obtain rfl : k = l.length := by omega
      clear hq
      go_wp2
      go_ret
      exact ⟨by rw [hr.out]; rfl, HB.out⟩
end Go.Proofs.Ytiilbgejdpnfpaa

/- Places through maps: pairs, asked quietly. -/
namespace Go.Proofs.Ytiilbgejdpnfpaa
open Go.RowKit Go.Mps
set_option maxRecDepth 100000 in
set_option maxHeartbeats 1000000 in
theorem refMpPair_q (v1 v2 : Value) (l m : List Rg) (B : Nat) (w : World) (h1 : Rgs w B v1 l) (h2 : Rgs w B v2 m)  :
    Calls Try.prog 35 #[v1, v2] w fun e w' => e = .returned (.bool (pairM l m)) ∧ ∃ n, w' = w.drewN n := by
  obtain ⟨A, cap, rfl⟩ := h1.form
  obtain ⟨A2, cap2, rfl⟩ := h2.form
  have hm1 := h1.max
  have hm2 := h2.max
  unfold maxLen at hm1 hm2
  obtain ⟨z, hz⟩ : ∃ z, Hid (z = pairM l m) := ⟨pairM l m, Lib.hid rfl⟩
  rw [← hz.out]
  have HV1 := Lib.hid h1
  have HV2 := Lib.hid h2
  clear h1 h2
  by_cases hl : l.length = m.length
  · have hlI : ((l.length : Int) == (m.length : Int)) = true := by simp [hl]
    have HL := Lib.hid hl
    have hne : ((l.length : Int) != (m.length : Int)) = false := by simp [hl]
    clear hl hlI
    go_enter Try.func35, Try.ntmps35
    go_wp2
    go_loopw [5] (fun x wr => ∃ k : Nat, k ≤ l.length ∧ x = .int .i64 k ∧ Hid (∀ j (h : j < l.length) (h' : j < m.length), j < k → m[j].n = l[j].o) ∧ ∃ n0, wr = w.drewN n0) (fun x _ => l.length - (intOf x).toNat)
    case atStart => exact ⟨0, Nat.zero_le _, rfl, fun j h h' hj => by omega, 0, rfl⟩
    case round =>
      obtain ⟨k, hk, rfl, hall, n0, rfl⟩ := hrel
      by_cases hlt : k < l.length
      · have hltm : k < m.length := by have := HL.out; omega
        have hkI : (k : Int) < (l.length : Int) := by omega
        have hkM : (k : Int) < (m.length : Int) := by omega
        have hk0 : (0 : Int) ≤ k := by omega
        obtain ⟨b, off, rfl, _, _, _, c1, _⟩ := HV1.out.at hlt
        obtain ⟨b2, off2, rfl, _, _, _, _, g2⟩ := HV2.out.at hltm
        have hno := Lib.hid (pair_no hlt hltm)
        have hyes : Hid (m[k].n = l[k].o → ∀ j (h : j < l.length) (h' : j < m.length), j < k + 1 → m[j].n = l[j].o) := fun e j h h' hj => by
          by_cases ej : j = k
          · subst ej; exact e
          · exact hall.out j h h' (by omega)
        rw [← hz.out] at hno
        obtain ⟨o, ho⟩ : ∃ o, Hid (o = l[k].o) := ⟨l[k].o, Lib.hid rfl⟩
        obtain ⟨n, hn⟩ : ∃ n, Hid (n = m[k].n) := ⟨m[k].n, Lib.hid rfl⟩
        rw [← ho.out] at c1
        rw [← hn.out] at g2
        by_cases e : n = o
        · have hq := Lib.hid (hyes.out (by rw [← hn.out, ← ho.out]; exact e))
          have hb : (n != o) = false := by simp [e]
          clear hno hyes ho hn e
          go_wp2
          go_quiet (fail)
          go_wp2
          go_roundw
          case rel => exact ⟨k + 1, by omega, by go_num, hq, _, rfl⟩
          case measure => simp [intOf]; omega
        · have hq := Lib.hid (hno.out (by rw [← hn.out, ← ho.out]; exact e))
          have hb : (n != o) = true := by simpa using e
          clear hno hyes ho hn e
          go_wp2
          go_quiet (fail)
          go_wp2
          go_ret
          exact ⟨by rw [hq.out]; rfl, _, World.drewN_drewN _ _ _⟩
      · obtain rfl : k = l.length := by omega
        have hq : Hid (z = true) := by show _ = _; rw [hz.out, pairM_iff]; exact ⟨HL.out, fun k h h' => hall.out k h h' h⟩
        go_wp2
        go_ret
        exact ⟨by rw [hq.out]; rfl, n0, rfl⟩
  · have hne : ((l.length : Int) != (m.length : Int)) = true := by simp; omega
    have hq : Hid (z = false) := hz.out.trans (pair_len hl)
    clear hl
    go_enter Try.func35, Try.ntmps35
    go_wp2
    go_ret
    exact ⟨by rw [hq.out]; rfl, 0, rfl⟩

end Go.Proofs.Ytiilbgejdpnfpaa

/- Places through maps: chains checked, by the reference. -/
namespace Go.Proofs.Ytiilbgejdpnfpaa
open Go.RowKit Go.Mps

theorem first_drop (ms : List (List Rg)) {k : Nat} (h : k < ms.length) : firstErr (ms.drop k) = if checkM ms[k] ≠ 0 then checkM ms[k] else firstErr (ms.drop (k + 1)) := by
  rw [List.drop_eq_getElem_cons h, firstErr]
theorem mir_drop (ms : List (List Rg)) (l : List Mi) {k : Nat} (h : k < l.length) : mirG ms (l.take k) (l.drop k) = (okMi ms l[k] && (l.take k).all (apart l[k]) && mirG ms (l.take (k + 1)) (l.drop (k + 1))) := by
  rw [List.drop_eq_getElem_cons h, mirG, List.take_succ_eq_append_getElem h]
theorem all_succ {α : Type} (p : α → Bool) (l : List α) {k : Nat} (h : k < l.length) : (l.take (k + 1)).all p = ((l.take k).all p && p l[k]) := by
  rw [List.take_succ_eq_append_getElem h, List.all_append]; simp
theorem all_no {α : Type} {p : α → Bool} {l : List α} {k : Nat} {j : Nat} (hj : j < k) (h : j < l.length) (hp : p l[j] = false) : (l.take k).all p = false := by
  rw [List.all_eq_false]
  refine ⟨l[j], ?_, by rw [hp]; simp⟩
  rw [List.mem_take_iff_getElem]; exact ⟨j, by omega, rfl⟩
theorem okMi_at (ms : List (List Rg)) (f s : Nat) (h1 : f < s) (h2 : s < ms.length) : okMi ms ⟨f, s⟩ = pairM (ms[f]'(by omega)) ms[s] := by
  unfold okMi
  simp only [Int.toNat_natCast]
  rw [List.getElem?_eq_getElem h2, List.getElem?_eq_getElem (show f < ms.length by omega)]
  rw [decide_eq_true (by omega)]; rfl
theorem okMi_no (ms : List (List Rg)) (m : Mi) (h : ¬ (0 ≤ m.f ∧ m.f < m.s ∧ m.s < ms.length)) : okMi ms m = false := by
  unfold okMi; rw [decide_eq_false h]; rfl

set_option maxRecDepth 100000 in
set_option maxHeartbeats 2000000 in
theorem refMpCheckChain_any (v1 v2 : Value) (ms : List (List Rg)) (l : List Mi) (B : Nat) (w : World) (h1 : Mss w B v1 ms) (h2 : Mis w B v2 l) (hB : B ≤ w.heap.size) :
    Calls Try.prog 22 #[.agg #[v1, v2]] w fun e w' => e = .returned (.int .i64 (checkC ms l)) ∧ Below w.heap.size w w' := by
  obtain ⟨A, cap, rfl⟩ := h1.form
  obtain ⟨A2, cap2, rfl⟩ := h2.form
  have hm1 := h1.max
  have hm2 := h2.max
  unfold maxLen at hm1 hm2
  obtain ⟨z, hz⟩ : ∃ z, Hid (z = checkC ms l) := ⟨checkC ms l, Lib.hid rfl⟩
  rw [← hz.out]
  have HV1 := Lib.hid (fun w' (h : Below w.heap.size w w') => h1.below (h.mono hB))
  have HV2 := Lib.hid (fun w' (h : Below w.heap.size w w') => h2.below (h.mono hB))
  have HBk := Lib.hid (Bk.new w 33 #[.slice A ms.length cap, .slice A2 l.length cap2])
  have HB0 := Lib.hid (((Below.refl w.heap.size w).alloc (Nat.le_refl _) (.cells #[.slice A ms.length cap, .slice A2 l.length cap2] 33)))
  clear h1 h2
  go_enter Try.func22, Try.ntmps22
  go_wp2
  go_loopw [3] (fun x wr => ∃ k : Nat, k ≤ ms.length ∧ x = .int .i64 k ∧ Hid (firstErr ms = firstErr (ms.drop k)) ∧ Hid (Bk wr w.heap.size 33 #[.slice A ms.length cap, .slice A2 l.length cap2]) ∧ Hid (Below w.heap.size w wr)) (fun x _ => ms.length - (intOf x).toNat)
  case atStart => exact ⟨0, Nat.zero_le _, rfl, rfl, HBk, HB0⟩
  case round =>
    obtain ⟨k, hk, rfl, hq, HK, HB⟩ := hrel
    have hbl := HK.out.lt
    have e0 : wr.cell? ⟨w.heap.size, 0, none⟩ = some (.slice A ms.length cap) := HK.out.cell 0
    by_cases hlt : k < ms.length
    · have hkI : (k : Int) < (ms.length : Int) := by omega
      have hk0 : (0 : Int) ≤ k := by omega
      obtain ⟨b, off, A3, cap3, rfl, hbB, _, c0, hr⟩ := (HV1.out _ HB.out).at hlt
      have hbw : b < wr.heap.size := by have := HB.out.size; omega
      have CC := Lib.hid (refMpCheck_any _ _ B wr hr (Nat.le_trans hB HB.out.size))
      have hs := Lib.hid (first_drop ms hlt)
      obtain ⟨c, hc⟩ : ∃ c, Hid (c = checkM ms[k]) := ⟨checkM ms[k], Lib.hid rfl⟩
      rw [← hc.out] at CC hs
      clear hr hc
      go_wp2_with fail
      refine CC.out.mono ?_
      rintro e w1 ⟨rfl, hb⟩
      have HB2 := Lib.hid (HB.out.trans (hb.mono HB.out.size))
      have HK2 := Lib.hid (HK.out.over hb hbl)
      clear CC hb
      by_cases c1 : c = 0
      · have hr : Hid (firstErr ms = firstErr (ms.drop (k + 1))) := by show _ = _; rw [hq.out, hs.out, if_neg (by omega)]
        subst c1
        clear hs hq e0 c0
        go_wp2
        go_roundw
        case rel => exact ⟨k + 1, by omega, by go_num, hr, HK2, HB2⟩
        case measure => simp [intOf]; omega
      · have hr : Hid (z = c) := by
          show _ = _
          have : firstErr ms = c := by rw [hq.out, hs.out, if_pos c1]
          rw [hz.out]; unfold checkC; rw [this, if_pos c1]
        have cb : (c != 0) = true := by simpa using c1
        clear hs hq e0 c0 c1
        go_wp2
        go_ret
        exact ⟨by rw [hr.out]; rfl, HB2.out⟩
    · obtain rfl : k = ms.length := by omega
      have hfe : Hid (firstErr ms = 0) := by show _ = _; rw [hq.out, List.drop_length]; rfl
      clear hq
      by_cases h256 : 256 < ms.length
      · have h256' : (256 : Int) < (ms.length : Int) := by omega
        have hr : Hid (z = 3) := by show _ = _; rw [hz.out]; unfold checkC; rw [hfe.out, if_neg (by omega), if_pos h256]
        go_wp2
        go_ret
        exact ⟨by rw [hr.out]; rfl, HB.out⟩
      · have h256' : (ms.length : Int) ≤ 256 := by omega
        have hno : Hid (mirG ms [] l = false → z = 2) := fun h => by rw [hz.out]; unfold checkC; rw [hfe.out, if_neg (by omega), if_neg h256, if_neg (by rw [h]; simp)]
        have hyes : Hid (mirG ms [] l = true → z = 0) := fun h => by rw [hz.out]; unfold checkC; rw [hfe.out, if_neg (by omega), if_neg h256, if_pos h]
        clear hz hfe h256 hlt
        go_wp2
        go_loopw [5] (fun x wr => ∃ k : Nat, k ≤ l.length ∧ x = .int .i64 k ∧ Hid (mirG ms [] l = mirG ms (l.take k) (l.drop k)) ∧ Hid (Bk wr w.heap.size 33 #[.slice A ms.length cap, .slice A2 l.length cap2]) ∧ Hid (Below w.heap.size w wr)) (fun x _ => l.length - (intOf x).toNat)
        case atStart => exact ⟨0, Nat.zero_le _, rfl, rfl, HK, HB⟩
        case round =>
          obtain ⟨k, hk, rfl, hq, HK, HB⟩ := hrel
          have hbl := HK.out.lt
          have e0 : wr.cell? ⟨w.heap.size, 0, none⟩ = some (.slice A ms.length cap) := HK.out.cell 0
          have e1 : wr.cell? ⟨w.heap.size, 1, none⟩ = some (.slice A2 l.length cap2) := HK.out.cell 1
          by_cases hlt : k < l.length
          · have hkI : (k : Int) < (l.length : Int) := by omega
            have hk0 : (0 : Int) ≤ k := by omega
            obtain ⟨b2, off2, rfl, hb2B, _, c0, c1⟩ := (HV2.out _ HB.out).at hlt
            have hb2w : b2 < wr.heap.size := by have := HB.out.size; omega
            have hs := Lib.hid (mir_drop ms l hlt)
            obtain ⟨m, hm⟩ : ∃ m, Hid (m = l[k]) := ⟨l[k], Lib.hid rfl⟩
            rw [← hm.out] at hs c0 c1
            obtain ⟨f, s⟩ := m
            dsimp only at c0 c1
            have hno2 : Hid (okMi ms ⟨f, s⟩ = false → z = 2) := fun h => hno.out (by rw [hq.out, hs.out, h]; rfl)
            have hyes2 : Hid (okMi ms ⟨f, s⟩ = true → mirG ms [] l = ((l.take k).all (apart ⟨f, s⟩) && mirG ms (l.take (k + 1)) (l.drop (k + 1)))) := fun h => by rw [hq.out, hs.out, h, Bool.true_and]
            clear hs hq
            by_cases f1 : f < 0
            · have hr : Hid (z = 2) := hno2.out (okMi_no ms ⟨f, s⟩ (by rintro ⟨q1, q2, q3⟩; dsimp only at q1 q2 q3; omega))
              clear hno2 hyes2 
              go_wp2
              go_quiet (fail)
              go_wp2
              go_ret
              exact ⟨by rw [hr.out]; rfl, blN (HB.out.alloc HB.out.size _) _⟩
            · have d1 : decide (f < 0) = false := decide_eq_false f1
              by_cases f2 : s ≤ f
              · have hr : Hid (z = 2) := hno2.out (okMi_no ms ⟨f, s⟩ (by rintro ⟨q1, q2, q3⟩; dsimp only at q1 q2 q3; omega))
                clear hno2 hyes2 f1
                go_wp2
                go_quiet (fail)
                go_wp2
                go_ret
                exact ⟨by rw [hr.out]; rfl, blN (HB.out.alloc HB.out.size _) _⟩
              · have d2 : decide (s ≤ f) = false := decide_eq_false f2
                by_cases f3 : (ms.length : Int) ≤ s
                · have hr : Hid (z = 2) := hno2.out (okMi_no ms ⟨f, s⟩ (by rintro ⟨q1, q2, q3⟩; dsimp only at q1 q2 q3; omega))
                  clear hno2 hyes2 f1 f2
                  go_wp2
                  go_quiet (fail)
                  go_wp2
                  go_ret
                  exact ⟨by rw [hr.out]; rfl, blN (HB.out.alloc HB.out.size _) _⟩
                · have d3 : decide ((ms.length : Int) ≤ s) = false := decide_eq_false f3
                  obtain ⟨fn, rfl⟩ : ∃ n : Nat, f = n := ⟨f.toNat, by omega⟩
                  obtain ⟨sn, rfl⟩ : ∃ n : Nat, s = n := ⟨s.toNat, by omega⟩
                  have n1 : fn < sn := by omega
                  have n2 : sn < ms.length := by omega
                  have n3 : (fn : Int) < (ms.length : Int) := by omega
                  have n4 : (sn : Int) < (ms.length : Int) := by omega
                  have n5 : (0 : Int) ≤ fn := by omega
                  have n6 : (0 : Int) ≤ sn := by omega
                  obtain ⟨b, off, A3, cap3, rfl, hbB, _, g0, hr1⟩ := (HV1.out _ HB.out).at (show fn < ms.length by omega)
                  obtain ⟨b', off', A4, cap4, e', _, _, g1, hr2⟩ := (HV1.out _ HB.out).at n2
                  simp only [Option.some.injEq, Addr.mk.injEq, and_true] at e'
                  obtain ⟨rfl, rfl⟩ := e'
                  have hbw : b < wr.heap.size := by have := HB.out.size; omega
                  have hok := Lib.hid (okMi_at ms fn sn n1 n2)
                  obtain ⟨q, hqq⟩ : ∃ q, Hid (q = pairM ms[fn] ms[sn]) := ⟨pairM ms[fn] ms[sn], Lib.hid rfl⟩
                  have HP := Lib.hid (fun n => refMpPair_q _ _ _ _ B (((wr.alloc (.cells #[.int .i64 fn, .int .i64 sn] 30)).drewN n)) (Rd.drewN (hr1.below ((Below.refl B wr).alloc (Nat.le_trans hB HB.out.size) _)) n) (Rd.drewN (hr2.below ((Below.refl B wr).alloc (Nat.le_trans hB HB.out.size) _)) n))
                  rw [← hqq.out] at hok HP
                  clear hr1 hr2 hqq f1 f2 f3
                  have HK2 := Lib.hid (fun n => (show Bk ((wr.alloc (.cells #[.int .i64 fn, .int .i64 sn] 30)).drewN n) w.heap.size 33 #[.slice (some ⟨b, off, none⟩) ms.length cap, .slice (some ⟨b2, off2, none⟩) l.length cap2] from HK.out.alloc _))
                  have HM2 := Lib.hid (fun n => (show Bk ((wr.alloc (.cells #[.int .i64 fn, .int .i64 sn] 30)).drewN n) wr.heap.size 30 #[.int .i64 fn, .int .i64 sn] from Bk.new _ _ _))
                  have HB2 := Lib.hid (fun n => blN (HB.out.alloc HB.out.size (.cells #[.int .i64 fn, .int .i64 sn] 30)) n)
                  cases q
                  · have hr : Hid (z = 2) := hno2.out hok.out
                    clear hno2 hyes2 hok HK2 HM2
                    go_wp2
                    go_quiet ((go_at_call 35; exact Calls.quiet_of (HP.out _)))
                    go_wp2
                    go_ret
                    exact ⟨by rw [hr.out]; rfl, HB2.out _⟩
                  · have hmir := Lib.hid (hyes2.out hok.out)
                    have hno3 : Hid ((l.take k).all (apart ⟨fn, sn⟩) = false → z = 2) := fun h => hno.out (by rw [hmir.out, h]; rfl)
                    clear hno2 hyes2 hok
                    go_wp2
                    go_quiet ((go_at_call 35; exact Calls.quiet_of (HP.out _)))
                    go_wp2
                    have HK3 := Lib.hid (HK2.out nq)
                    have HM3 := Lib.hid (HM2.out nq)
                    have HB3 := Lib.hid (HB2.out nq)
                    clear HP HK2 HM2 HB2 e0 e1 g0 g1
                    have hwm : w.heap.size < wr.heap.size := hbl
                    generalize ((wr.alloc (.cells #[.int .i64 fn, .int .i64 sn] 30)).drewN nq) = wi at HK3 HM3 HB3 ⊢
                    generalize wr.heap.size = gm at HM3 hwm ⊢
                    clear HK HB hbl hbw hb2w c0 c1
                    go_loopw [7] (fun x wj => ∃ j : Nat, j ≤ k ∧ x = .int .i64 j ∧ Hid ((l.take j).all (apart ⟨fn, sn⟩) = true) ∧ Hid (Bk wj w.heap.size 33 #[.slice (some ⟨b, off, none⟩) ms.length cap, .slice (some ⟨b2, off2, none⟩) l.length cap2]) ∧ Hid (Bk wj gm 30 #[.int .i64 fn, .int .i64 sn]) ∧ Hid (Below w.heap.size w wj)) (fun x _ => k - (intOf x).toNat)
                    case atStart => exact ⟨0, Nat.zero_le _, rfl, rfl, HK3, HM3, HB3⟩
                    case round =>
                      obtain ⟨j, hj, rfl, hall, HK4, HM4, HB4⟩ := hrel
                      have hl4 := HK4.out.lt
                      have hl5 := HM4.out.lt
                      have e1 : wr.cell? ⟨w.heap.size, 1, none⟩ = some (.slice (some ⟨b2, off2, none⟩) l.length cap2) := HK4.out.cell 1
                      have m0 : wr.cell? ⟨gm, 0, none⟩ = some (.int .i64 fn) := HM4.out.cell 0
                      have m1 : wr.cell? ⟨gm, 1, none⟩ = some (.int .i64 sn) := HM4.out.cell 1
                      by_cases hlj : j < k
                      · have hjI : (j : Int) < (k : Int) := by omega
                        have hlt2 : j < l.length := by omega
                        have hjL : (j : Int) < (l.length : Int) := by omega
                        have hj0 : (0 : Int) ≤ j := by omega
                        obtain ⟨b', off', e', _, _, c0, c1⟩ := (HV2.out _ HB4.out).at hlt2
                        simp only [Option.some.injEq, Addr.mk.injEq, and_true] at e'
                        obtain ⟨rfl, rfl⟩ := e'
                        have hb2w : b2 < wr.heap.size := by have := HB4.out.size; omega
                        have hsu := Lib.hid (all_succ (apart ⟨fn, sn⟩) l hlt2)
                        have hap : Hid (apart ⟨fn, sn⟩ l[j] = decide ((fn : Int) ≠ l[j].f ∧ (fn : Int) ≠ l[j].s ∧ (sn : Int) ≠ l[j].f ∧ (sn : Int) ≠ l[j].s)) := rfl
                        obtain ⟨of, hof⟩ : ∃ x, Hid (x = l[j].f) := ⟨l[j].f, Lib.hid rfl⟩
                        obtain ⟨os, hos⟩ : ∃ x, Hid (x = l[j].s) := ⟨l[j].s, Lib.hid rfl⟩
                        rw [← hof.out] at c0 hap
                        rw [← hos.out] at c1 hap
                        clear hof hos
                        by_cases x1 : (fn : Int) = of
                        · have y1 : ((fn : Int) == of) = true := beq_iff_eq.2 x1
                          have hr : Hid (z = 2) := hno3.out (all_no (p := apart ⟨fn, sn⟩) hlj hlt2 (by rw [hap.out]; exact decide_eq_false (by omega)))
                          clear hno3 x1 hsu
                          go_wp2
                          go_ret
                          exact ⟨by rw [hr.out]; rfl, HB4.out.alloc HB4.out.size _⟩
                        · have y1 : ((fn : Int) == of) = false := beq_eq_false_iff_ne.2 x1
                          by_cases x2 : (fn : Int) = os
                          · have y2 : ((fn : Int) == os) = true := beq_iff_eq.2 x2
                            have hr : Hid (z = 2) := hno3.out (all_no (p := apart ⟨fn, sn⟩) hlj hlt2 (by rw [hap.out]; exact decide_eq_false (by omega)))
                            clear hno3 x1 x2 hsu
                            go_wp2
                            go_ret
                            exact ⟨by rw [hr.out]; rfl, HB4.out.alloc HB4.out.size _⟩
                          · have y2 : ((fn : Int) == os) = false := beq_eq_false_iff_ne.2 x2
                            by_cases x3 : (sn : Int) = of
                            · have y3 : ((sn : Int) == of) = true := beq_iff_eq.2 x3
                              have hr : Hid (z = 2) := hno3.out (all_no (p := apart ⟨fn, sn⟩) hlj hlt2 (by rw [hap.out]; exact decide_eq_false (by omega)))
                              clear hno3 x1 x2 x3 hsu
                              go_wp2
                              go_ret
                              exact ⟨by rw [hr.out]; rfl, HB4.out.alloc HB4.out.size _⟩
                            · have y3 : ((sn : Int) == of) = false := beq_eq_false_iff_ne.2 x3
                              by_cases x4 : (sn : Int) = os
                              · have y4 : ((sn : Int) == os) = true := beq_iff_eq.2 x4
                                have hr : Hid (z = 2) := hno3.out (all_no (p := apart ⟨fn, sn⟩) hlj hlt2 (by rw [hap.out]; exact decide_eq_false (by omega)))
                                clear hno3 x1 x2 x3 x4 hsu
                                go_wp2
                                go_ret
                                exact ⟨by rw [hr.out]; rfl, HB4.out.alloc HB4.out.size _⟩
                              · have y4 : ((sn : Int) == os) = false := beq_eq_false_iff_ne.2 x4
                                have hr : Hid ((l.take (j + 1)).all (apart ⟨fn, sn⟩) = true) := by show _ = _; rw [hsu.out, hall.out, hap.out, decide_eq_true ⟨x1, x2, x3, x4⟩]; rfl
                                clear hsu hap x1 x2 x3 x4
                                go_wp2
                                go_roundw
                                case rel => exact ⟨j + 1, by omega, by go_num, hr, HK4.out.alloc _, HM4.out.alloc _, HB4.out.alloc HB4.out.size _⟩
                                case measure => simp [intOf]; omega
                      · obtain rfl : j = k := by omega
                        have hr : Hid (mirG ms [] l = mirG ms (l.take (j + 1)) (l.drop (j + 1))) := by show _ = _; rw [hmir.out, hall.out, Bool.true_and]
                        clear hno3 hmir
                        go_wp2
                        go_roundw
                        case rel => exact ⟨j + 1, by omega, by go_num, hr, HK4, HB4⟩
                        case measure => simp [intOf]; omega
          · obtain rfl : k = l.length := by omega
            have hr : Hid (z = 0) := hyes.out (by rw [hq.out, List.drop_length]; rfl)
            clear hq
            go_wp2
            go_ret
            exact ⟨by rw [hr.out]; rfl, HB.out⟩
end Go.Proofs.Ytiilbgejdpnfpaa
