/- YtjajcecenflejaaGreatCz22 -/
import Derived.Test.YtjajcecenflejaaGreatCz21
import Derived.Test.YtjajcecenflejaaGreatCz01
namespace Go.Proofs.YtjajcecenflejaaGreat
open Go.RowKit
theorem Nd.ext {a b : Nd} (h1 : a.t = b.t) (h2 : a.a = b.a) (h3 : a.m = b.m) (h4 : a.x = b.x) (h5 : a.k = b.k) : a = b := by
  cases a; cases b; cases h1; cases h2; cases h3; cases h4; cases h5; rfl
def ndV (a : Nd) (va vm vk : Value) : Value := .agg #[.string a.t, va, vm, .string a.x, vk]
def IsNd (w : World) (S : Nat → Prop) (v : Value) (a : Nd) : Prop := ∃ va vm vk, v = ndV a va vm vk ∧ Ls w S va a.a ∧ Ls w S vm a.m ∧ Ls w S vk a.k
theorem IsNd.keep {w w' : World} {S S' : Nat → Prop} {v : Value} {a : Nd} (h : IsNd w S v a) (hk : Kept2 S S' w w') : IsNd w' S' v a := by
  obtain ⟨va, vm, vk, rfl, h1, h2, h3⟩ := h
  exact ⟨va, vm, vk, rfl, h1.keep hk, h2.keep hk, h3.keep hk⟩
theorem IsNd.under {w w' : World} {S : Nat → Prop} {v : Value} {a : Nd} (h : IsNd w S v a) (hb : Below w.heap.size w w') : IsNd w' S v a := h.keep (.below hb)
set_option maxRecDepth 100000 in
set_option maxHeartbeats 4000000 in
theorem kNodes_of (va vb : Value) (l m : List Nd) (S S' : Nat → Prop) (w : World) (hl : Ls w S va l) (hm : Ls w S' vb m)
    (ih : ∀ e ∈ l, ∀ (f : Nd) (vx vy : Value) (w : World), IsNd w S vx e → IsNd w S' vy f → Calls Tryz.prog 15 #[vx, vy] w fun r w' => r = .returned (.bool (tf (e = f))) ∧ Below w.heap.size w w') :
    Calls Tryz.prog 34 #[va, vb] w fun e w' => e = .returned (.bool (tf (l = m))) ∧ Below w.heap.size w w' := by
  obtain ⟨Al, cl, rfl⟩ := hl.form
  obtain ⟨Am, cm, rfl⟩ := hm.form
  have hml := hl.max
  have hmm := hm.max
  unfold maxLen at hml hmm
  by_cases hlen : l.length = m.length
  · have hlen' : ((l.length : Int) != (m.length : Int)) = false := by simp; omega
    have HL := Lib.hid hlen
    clear hlen
    go_enter Tryz.func34, Tryz.ntmps34
    go_wp2
    go_loopw [5] (fun i wr => ∃ k : Nat, k ≤ l.length ∧ i = .int .i64 k ∧ Below w.heap.size w wr ∧ Hid (∀ j (h1 : j < l.length) (h2 : j < m.length), j < k → l[j] = m[j])) (fun i _ => l.length - (intOf i).toNat)
    case atStart => exact ⟨0, Nat.zero_le _, rfl, Below.refl _ _, fun j _ _ hj => by omega⟩
    case round =>
      obtain ⟨k, hk, rfl, hb, hall⟩ := hrel
      have hsz := hb.size
      by_cases hlt : k < l.length
      · have hltm : k < m.length := by have := HL.out; omega
        obtain ⟨bl, offl, v1, v2, v4, rfl, ⟨_, hbl⟩, hcll, a0, a1, a2, a3, a4, ra, rm, rk⟩ := at_nd (hl.under hb) hlt
        obtain ⟨bm, offm, u1, u2, u4, rfl, ⟨_, hbm⟩, hcmm, b0, b1, b2, b3, b4, sa, sm, sk⟩ := at_nd (hm.under hb) hltm
        have hi1 : (k : Int) < (l.length : Int) := by omega
        have hi2 : (k : Int) < (m.length : Int) := by omega
        have hi0 : (0 : Int) ≤ (k : Int) := by omega
        have HC : Hid (∀ w', Below wr.heap.size wr w' → Calls Tryz.prog 15 #[ndV l[k] v1 v2 v4, ndV m[k] u1 u2 u4] w' fun e w'' => e = .returned (.bool (tf (l[k] = m[k]))) ∧ Below wr.heap.size wr w'') := fun w' h =>
          (ih l[k] (List.getElem_mem hlt) m[k] _ _ w' ⟨v1, v2, v4, rfl, ra.under h, rm.under h, rk.under h⟩ ⟨u1, u2, u4, rfl, sa.under h, sm.under h, sk.under h⟩).mono fun e w'' ⟨he, hb⟩ => ⟨he, h.trans (hb.mono h.size)⟩
        obtain ⟨A1, c1, rfl⟩ := ra.form
        obtain ⟨A2, c2, rfl⟩ := rm.form
        obtain ⟨A3, c3, rfl⟩ := rk.form
        obtain ⟨A4, c4, rfl⟩ := sa.form
        obtain ⟨A5, c5, rfl⟩ := sm.form
        obtain ⟨A6, c6, rfl⟩ := sk.form
        have C2 := Lib.hid ((Below.refl wr.heap.size wr).drew)
        obtain ⟨b1', H1⟩ : ∃ b, Hid (b = tf (l[k] = m[k])) := ⟨_, Lib.hid rfl⟩
        rw [← H1.out] at HC
        have HE : Hid (b1' = true → l[k] = m[k]) := fun e1 => tf_iff.1 (H1.out ▸ e1)
        have HN : Hid (b1' = false → tf (l = m) = false) := fun e => same_no hlt hltm fun h => by rw [tf_yes h] at H1; rw [H1.out] at e; cases e
        clear ra rm rk sa sm sk H1
        unfold ndV at HC
        generalize l[k].t = xt at *
        generalize l[k].x = xx at *
        generalize l[k].a.length = x1 at *
        generalize l[k].m.length = x2 at *
        generalize l[k].k.length = x3 at *
        generalize m[k].t = yt at *
        generalize m[k].x = yx at *
        generalize m[k].a.length = y1 at *
        generalize m[k].m.length = y2 at *
        generalize m[k].k.length = y3 at *
        go_wp2
        refine wp_region_held_drew (S := (fun w' => (w'.cell? ⟨bl, offl + k * 5, none⟩ = some (.string xt) ∧ w'.cell? ⟨bl, offl + k * 5 + 1, none⟩ = some (.slice A1 x1 c1) ∧ w'.cell? ⟨bl, offl + k * 5 + 1 + 1, none⟩ = some (.slice A2 x2 c2) ∧ w'.cell? ⟨bl, offl + k * 5 + 1 + 1 + 1, none⟩ = some (.string xx) ∧ w'.cell? ⟨bl, offl + k * 5 + 1 + 1 + 1 + 1, none⟩ = some (.slice A3 x3 c3)) ∧ (w'.cell? ⟨bm, offm + k * 5, none⟩ = some (.string yt) ∧ w'.cell? ⟨bm, offm + k * 5 + 1, none⟩ = some (.slice A4 y1 c4) ∧ w'.cell? ⟨bm, offm + k * 5 + 1 + 1, none⟩ = some (.slice A5 y2 c5) ∧ w'.cell? ⟨bm, offm + k * 5 + 1 + 1 + 1, none⟩ = some (.string yx) ∧ w'.cell? ⟨bm, offm + k * 5 + 1 + 1 + 1 + 1, none⟩ = some (.slice A6 y3 c6)))) (by kernel_rfl) ⟨⟨a0, a1, a2, a3, a4⟩, ⟨b0, b1, b2, b3, b4⟩⟩ (fun hHeld => ?_)
        refine wpAnyH_take (i := 0) (oi := ?o1) (v := ?v1) ?hi1 (by kernel_rfl) (by kernel_rfl) (by kernel_rfl) ?hq1 ?hy1 (by assumption) ?hr1
        case hi1 => (simp only [List.getElem?_toArray, List.getElem?_cons_zero]; exact rfl)
        case hq1 => exact fun _ _ _ h => h
        case hy1 => (refine Or.inl ⟨by rfl, ?_⟩; intro w hSw; (try dsimp only at hSw); go_simp; (try with_reducible rfl))
        try simp only [Act.put, List.setIfInBounds_toArray, List.set_cons_zero, List.set_cons_succ]
        refine wpAnyH_take (i := 1) (oi := ?o2) (v := ?v2) ?hi2 (by kernel_rfl) (by kernel_rfl) (by kernel_rfl) ?hq2 ?hy2 (by assumption) ?hr2
        case hi2 => (simp only [List.getElem?_toArray, List.getElem?_cons_succ, List.getElem?_cons_zero]; exact rfl)
        case hq2 => exact fun _ _ _ h => h
        case hy2 => (refine Or.inl ⟨by rfl, ?_⟩; intro w hSw; (try dsimp only at hSw); go_simp; (try with_reducible rfl))
        try simp only [Act.put, List.setIfInBounds_toArray, List.set_cons_zero, List.set_cons_succ]
        refine wpAnyH_take (i := 2) (oi := ?o3) (v := ?v3) ?hi3 (by kernel_rfl) (by kernel_rfl) (by kernel_rfl) ?hq3 ?hy3 (by assumption) ?hr3
        case hi3 => (simp only [List.getElem?_toArray, List.getElem?_cons_succ, List.getElem?_cons_zero]; exact rfl)
        case hq3 => exact fun _ _ _ h => h
        case hy3 => (refine Or.inl ⟨by rfl, ?_⟩; intro w hSw; (try dsimp only at hSw); go_simp; (try with_reducible rfl))
        try simp only [Act.put, List.setIfInBounds_toArray, List.set_cons_zero, List.set_cons_succ]
        refine wpAnyH_take (i := 3) (oi := ?o4) (v := ?v4) ?hi4 (by kernel_rfl) (by kernel_rfl) (by kernel_rfl) ?hq4 ?hy4 (by assumption) ?hr4
        case hi4 => (simp only [List.getElem?_toArray, List.getElem?_cons_succ, List.getElem?_cons_zero]; exact rfl)
        case hq4 => exact fun _ _ _ h => h
        case hy4 => (refine Or.inl ⟨by rfl, ?_⟩; intro w hSw; (try dsimp only at hSw); go_simp; (try with_reducible rfl))
        try simp only [Act.put, List.setIfInBounds_toArray, List.set_cons_zero, List.set_cons_succ]
        refine wpAnyH_take (i := 4) (oi := ?o5) (v := ?v5) ?hi5 (by kernel_rfl) (by kernel_rfl) (by kernel_rfl) ?hq5 ?hy5 (by assumption) ?hr5
        case hi5 => (simp only [List.getElem?_toArray, List.getElem?_cons_succ, List.getElem?_cons_zero]; exact rfl)
        case hq5 => exact fun _ _ _ h => h
        case hy5 => (refine Or.inl ⟨by rfl, ?_⟩; intro w hSw; (try dsimp only at hSw); go_simp; (try with_reducible rfl))
        try simp only [Act.put, List.setIfInBounds_toArray, List.set_cons_zero, List.set_cons_succ]
        refine wpAnyH_take (i := 5) (oi := ?o6) (v := ?v6) ?hi6 (by kernel_rfl) (by kernel_rfl) (by kernel_rfl) ?hq6 ?hy6 (by assumption) ?hr6
        case hi6 => (simp only [List.getElem?_toArray, List.getElem?_cons_succ, List.getElem?_cons_zero]; exact rfl)
        case hq6 => exact fun _ _ _ h => h
        case hy6 => (refine Or.inl ⟨by rfl, ?_⟩; intro w hSw; (try dsimp only at hSw); go_simp; (try with_reducible rfl))
        try simp only [Act.put, List.setIfInBounds_toArray, List.set_cons_zero, List.set_cons_succ]
        refine wpAnyH_take (i := 6) (oi := ?o7) (v := ?v7) ?hi7 (by kernel_rfl) (by kernel_rfl) (by kernel_rfl) ?hq7 ?hy7 (by assumption) ?hr7
        case hi7 => (simp only [List.getElem?_toArray, List.getElem?_cons_succ, List.getElem?_cons_zero]; exact rfl)
        case hq7 => exact fun _ _ _ h => h
        case hy7 => (refine Or.inl ⟨by rfl, ?_⟩; intro w hSw; (try dsimp only at hSw); go_simp; (try with_reducible rfl))
        try simp only [Act.put, List.setIfInBounds_toArray, List.set_cons_zero, List.set_cons_succ]
        refine wpAnyH_take (i := 7) (oi := ?o8) (v := ?v8) ?hi8 (by kernel_rfl) (by kernel_rfl) (by kernel_rfl) ?hq8 ?hy8 (by assumption) ?hr8
        case hi8 => (simp only [List.getElem?_toArray, List.getElem?_cons_succ, List.getElem?_cons_zero]; exact rfl)
        case hq8 => exact fun _ _ _ h => h
        case hy8 => (refine Or.inl ⟨by rfl, ?_⟩; intro w hSw; (try dsimp only at hSw); go_simp; (try with_reducible rfl))
        try simp only [Act.put, List.setIfInBounds_toArray, List.set_cons_zero, List.set_cons_succ]
        refine wpAnyH_ready (rs := [8]) (by kernel_rfl) (by simp) ?_
        refine AllReadyH.cons (o := ?o9) ?hi9 (fun K hK => ?hk9) ?hr9
        case hi9 => (simp only [List.getElem?_toArray, List.getElem?_cons_succ, List.getElem?_cons_zero]; exact rfl)
        case hr9 => exact AllReadyH.nil
        go_simp
        ((try go_at_call 15); refine (HC.out _ C2.out).mono ?_; rintro e w3 ⟨rfl, q3⟩; have B3 := Lib.hid (hb.trans (q3.mono hsz)); refine hK _ _ (by refine ⟨⟨?_, ?_, ?_, ?_, ?_⟩, ⟨?_, ?_, ?_, ?_, ?_⟩⟩ <;> first | exact (q3.cell (by assumption)).trans (by assumption)) (fun hHeld2 => ?_))
        clear hK K
        try simp only [Act.put, List.setIfInBounds_toArray, List.set_cons_zero, List.set_cons_succ]
        refine wpAnyH_take (i := 9) (oi := ?o10) (v := ?v10) ?hi10 (by kernel_rfl) (by kernel_rfl) (by kernel_rfl) ?hq10 ?hy10 (by assumption) ?hr10
        case hi10 => (simp only [List.getElem?_toArray, List.getElem?_cons_succ, List.getElem?_cons_zero]; exact rfl)
        case hq10 => exact fun _ _ _ h => h
        case hy10 => (refine Or.inl ⟨by rfl, ?_⟩; intro w hSw; (try dsimp only at hSw); go_simp; (try with_reducible rfl))
        try simp only [Act.put, List.setIfInBounds_toArray, List.set_cons_zero, List.set_cons_succ]
        refine wpAnyH_done (by kernel_rfl) ?_ _
        cases b1'
        · have hf := Lib.hid (HN.out rfl)
          go_wp2
          go_ret
          exact ⟨ret_b hf.out.symm, B3.out⟩
        · have hall' : Hid (∀ j (h1 : j < l.length) (h2 : j < m.length), j < k + 1 → l[j] = m[j]) := by
            show ∀ j, _
            intro j h1 h2 hj
            by_cases e : j = k
            · subst e; exact HE.out (by simp)
            · exact hall.out j h1 h2 (by omega)
          go_wp2
          go_roundw
          case rel => exact ⟨k + 1, by omega, by go_num, B3.out, hall'⟩
          case measure => simp [intOf]; omega
      · have hf : Hid (tf (l = m) = true) := same_yes HL.out fun k h1 h2 => hall.out k h1 h2 (by omega)
        go_wp2
        go_ret
        exact ⟨ret_b hf.out.symm, hb⟩
  · have hf : Hid (tf (l = m) = false) := same_len hlen
    have hlen' : ((l.length : Int) != (m.length : Int)) = true := by rw [bne_iff_ne]; omega
    clear hlen
    go_enter Tryz.func34, Tryz.ntmps34
    go_wp2
    go_ret
    exact ⟨ret_b hf.out.symm, Below.refl _ _⟩
set_option maxRecDepth 100000 in
set_option maxHeartbeats 4000000 in
theorem kNode_of (vx vy : Value) (x y : Nd) (S S' : Nat → Prop) (w : World) (hx : IsNd w S vx x) (hy : IsNd w S' vy y)
    (ih : ∀ e ∈ x.k, ∀ (f : Nd) (vx vy : Value) (w : World), IsNd w S vx e → IsNd w S' vy f → Calls Tryz.prog 15 #[vx, vy] w fun r w' => r = .returned (.bool (tf (e = f))) ∧ Below w.heap.size w w') :
    Calls Tryz.prog 15 #[vx, vy] w fun e w' => e = .returned (.bool (tf (x = y))) ∧ Below w.heap.size w w' := by
  obtain ⟨v1, v2, v3, rfl, ra, rm, rk⟩ := hx
  obtain ⟨u1, u2, u3, rfl, sa, sm, sk⟩ := hy
  obtain ⟨A1, c1, rfl⟩ := ra.form
  obtain ⟨A2, c2, rfl⟩ := rm.form
  obtain ⟨A3, c3, rfl⟩ := rk.form
  obtain ⟨A4, c4, rfl⟩ := sa.form
  obtain ⟨A5, c5, rfl⟩ := sm.form
  obtain ⟨A6, c6, rfl⟩ := sk.form
  have HC : Hid (∀ w', Below w.heap.size w w' → Calls Tryz.prog 32 #[.slice A1 x.a.length c1, .slice A4 y.a.length c4] w' fun e w'' => e = .returned (.bool (tf (x.a = y.a))) ∧ Below w'.heap.size w' w'' ∧ Below w.heap.size w w'') := fun w' h =>
    (kAttrs_any _ _ _ _ S S' w' (ra.under h) (sa.under h)).mono fun e w'' ⟨he, hb⟩ => ⟨he, hb, h.trans (hb.mono h.size)⟩
  have HM : Hid (∀ w', Below w.heap.size w w' → Calls Tryz.prog 33 #[.slice A2 x.m.length c2, .slice A5 y.m.length c5] w' fun e w'' => e = .returned (.bool (tf (x.m = y.m))) ∧ Below w'.heap.size w' w'' ∧ Below w.heap.size w w'') := fun w' h =>
    (kMarks_any _ _ _ _ S S' w' (rm.under h) (sm.under h)).mono fun e w'' ⟨he, hb⟩ => ⟨he, hb, h.trans (hb.mono h.size)⟩
  have HK : Hid (∀ w', Below w.heap.size w w' → Calls Tryz.prog 34 #[.slice A3 x.k.length c3, .slice A6 y.k.length c6] w' fun e w'' => e = .returned (.bool (tf (x.k = y.k))) ∧ Below w.heap.size w w'') := fun w' h =>
    (kNodes_of _ _ _ _ S S' w' (rk.under h) (sk.under h) ih).mono fun e w'' ⟨he, hb⟩ => ⟨he, h.trans (hb.mono h.size)⟩
  have h1 : (x.t.toList == y.t.toList) = tf (x.t = y.t) := eqS_tf _ _
  have h2 : (x.x.toList == y.x.toList) = tf (x.x = y.x) := eqS_tf _ _
  obtain ⟨b1, H1⟩ : ∃ b, Hid (b = tf (x.t = y.t)) := ⟨_, Lib.hid rfl⟩
  obtain ⟨b2, H2⟩ : ∃ b, Hid (b = tf (x.x = y.x)) := ⟨_, Lib.hid rfl⟩
  obtain ⟨b3, H3⟩ : ∃ b, Hid (b = tf (x.a = y.a)) := ⟨_, Lib.hid rfl⟩
  obtain ⟨b4, H4⟩ : ∃ b, Hid (b = tf (x.m = y.m)) := ⟨_, Lib.hid rfl⟩
  obtain ⟨b5, H5⟩ : ∃ b, Hid (b = tf (x.k = y.k)) := ⟨_, Lib.hid rfl⟩
  have HE : Hid ((b1 && b2 && b3 && b4 && b5) = tf (x = y)) := by
    refine tf_of ?_
    rw [H1.out, H2.out, H3.out, H4.out, H5.out]
    simp only [Bool.and_eq_true, tf_iff]
    constructor
    · rintro ⟨⟨⟨⟨e1, e2⟩, e3⟩, e4⟩, e5⟩
      exact Nd.ext e1 e3 e4 e2 e5
    · rintro rfl
      exact ⟨⟨⟨⟨rfl, rfl⟩, rfl⟩, rfl⟩, rfl⟩
  rw [← H1.out] at h1
  rw [← H2.out] at h2
  rw [← H3.out] at HC
  rw [← H4.out] at HM
  rw [← H5.out] at HK
  generalize hr : tf (x = y) = r at *
  unfold ndV
  clear ra rm rk sa sm sk H1 H2 H3 H4 H5 hr ih
  generalize x.t = xt at *
  generalize x.x = xx at *
  generalize x.a.length = x1 at *
  generalize x.m.length = x2 at *
  generalize x.k.length = x3 at *
  generalize y.t = yt at *
  generalize y.x = yx at *
  generalize y.a.length = y1 at *
  generalize y.m.length = y2 at *
  generalize y.k.length = y3 at *
  go_enter Tryz.func15, Tryz.ntmps15
  cases b1
  case false =>
    have hf : Hid (r = false) := HE.out.symm
    clear HC HM HK HE
    go_wp2
    go_ret
    exact ⟨ret_b hf.out.symm, ((Below.refl _ _).alloc (Nat.le_refl _) _).alloc (by simp) _⟩
  cases b2
  case false =>
    have hf : Hid (r = false) := HE.out.symm
    clear HC HM HK HE
    go_wp2
    go_ret
    exact ⟨ret_b hf.out.symm, ((Below.refl _ _).alloc (Nat.le_refl _) _).alloc (by simp) _⟩
  go_wp2_with fail
  refine (HC.out _ (by exact (((Below.refl _ _).alloc (Nat.le_refl _) _).alloc (by simp) _))).mono ?_
  rintro e w3 ⟨rfl, q3, p3⟩
  have B3 := Lib.hid p3
  cases b3
  case false =>
    have hf : Hid (r = false) := HE.out.symm
    clear HC HM HK HE q3 p3
    go_wp2
    go_ret
    exact ⟨ret_b hf.out.symm, B3.out⟩
  have hs3 : w.heap.size + 1 < w3.heap.size := by have := q3.size; simp at this; omega
  have hs4 : w.heap.size < w3.heap.size := by omega
  have z1 : w3.cell? ⟨w.heap.size, 2, none⟩ = some (.slice A2 x2 c2) := (q3.cell (p := ⟨w.heap.size, 2, none⟩) (by simp <;> omega)).trans (by go_simp)
  have z2 : w3.cell? ⟨w.heap.size + 1, 2, none⟩ = some (.slice A5 y2 c5) := (q3.cell (p := ⟨w.heap.size + 1, 2, none⟩) (by simp <;> omega)).trans (by go_simp)
  have z3 : w3.cell? ⟨w.heap.size, 4, none⟩ = some (.slice A3 x3 c3) := (q3.cell (p := ⟨w.heap.size, 4, none⟩) (by simp <;> omega)).trans (by go_simp)
  have z4 : w3.cell? ⟨w.heap.size + 1, 4, none⟩ = some (.slice A6 y3 c6) := (q3.cell (p := ⟨w.heap.size + 1, 4, none⟩) (by simp <;> omega)).trans (by go_simp)
  clear q3 p3 HC
  go_wp2_with fail
  refine (HM.out _ B3.out).mono ?_
  rintro e w4 ⟨rfl, q4, p4⟩
  have B4 := Lib.hid p4
  cases b4
  case false =>
    have hf : Hid (r = false) := HE.out.symm
    clear HM HK HE q4 p4
    go_wp2
    go_ret
    exact ⟨ret_b hf.out.symm, B4.out⟩
  have ht3 : w.heap.size + 1 < w4.heap.size := by have := q4.size; omega
  have ht4 : w.heap.size < w4.heap.size := by omega
  have y3 := (q4.cell (p := ⟨w.heap.size, 4, none⟩) hs4).trans z3
  have y4 := (q4.cell (p := ⟨w.heap.size + 1, 4, none⟩) hs3).trans z4
  clear q4 p4 HM z1 z2 z3 z4 hs3 hs4 B3
  go_wp2_with fail
  refine (HK.out _ B4.out).mono ?_
  rintro e w5 ⟨rfl, q5⟩
  have hf : Hid (b5 = r) := HE.out
  clear B4 y3 y4 ht3 ht4 HK HE
  have hf2 := hf.out
  subst hf2
  cases b5
  · go_wp2
    go_ret
    exact ⟨rfl, q5⟩
  · go_wp2
    go_ret
    exact ⟨rfl, q5⟩
theorem kNode_any (S S' : Nat → Prop) (x : Nd) : ∀ (y : Nd) (vx vy : Value) (w : World), IsNd w S vx x → IsNd w S' vy y →
    Calls Tryz.prog 15 #[vx, vy] w fun e w' => e = .returned (.bool (tf (x = y))) ∧ Below w.heap.size w w' := by
  induction x using Nd.ind with
  | h t a m x k ih => exact fun y vx vy w hx hy => kNode_of vx vy _ y S S' w hx hy ih
end Go.Proofs.YtjajcecenflejaaGreat
namespace Go.Proofs.YtjajcecenflejaaGreat
open Go.RowKit
set_option maxRecDepth 100000 in
theorem kTexts_any (va vb : Value) (l m : List ByteArray) (S S' : Nat → Prop) (w : World) (hl : Ls w S va l) (hm : Ls w S' vb m) :
    Calls Tryz.prog 73 #[va, vb] w fun e w' => e = .returned (.bool (tf (l = m))) ∧ Below w.heap.size w w' := by
  obtain ⟨Al, cl, rfl⟩ := hl.form
  obtain ⟨Am, cm, rfl⟩ := hm.form
  have hml := hl.max
  have hmm := hm.max
  unfold maxLen at hml hmm
  by_cases hlen : l.length = m.length
  · have hlen' : ((l.length : Int) != (m.length : Int)) = false := by simp; omega
    have HL := Lib.hid hlen
    clear hlen
    go_enter Tryz.func73, Tryz.ntmps73
    go_wp2
    go_loopw [5] (fun i wr => ∃ k : Nat, k ≤ l.length ∧ i = .int .i64 k ∧ Below w.heap.size w wr ∧ Hid (∀ j (h1 : j < l.length) (h2 : j < m.length), j < k → l[j] = m[j])) (fun i _ => l.length - (intOf i).toNat)
    case atStart => exact ⟨0, Nat.zero_le _, rfl, Below.refl _ _, fun j _ _ hj => by omega⟩
    case round =>
      obtain ⟨k, hk, rfl, hb, hall⟩ := hrel
      by_cases hlt : k < l.length
      · have hltm : k < m.length := by have := HL.out; omega
        obtain ⟨bl, offl, rfl, hblB, hcll, hl0⟩ := at_s (hl.under hb) hlt
        obtain ⟨bm, offm, rfl, hbmB, hcmm, hm0⟩ := at_s (hm.under hb) hltm
        have hi1 : (k : Int) < (l.length : Int) := by omega
        have hi2 : (k : Int) < (m.length : Int) := by omega
        have hi0 : (0 : Int) ≤ (k : Int) := by omega
        have hq : (l[k].toList == m[k].toList) = tf (l[k] = m[k]) := eqS_tf _ _
        cases he : tf (l[k] = m[k])
        · have hf : Hid (tf (l = m) = false) := same_no hlt hltm fun e => by rw [tf_yes e] at he; cases he
          rw [he] at hq
          clear he
          go_wp2
          go_quiet (fail)
          go_wp2
          go_ret
          exact ⟨ret_b hf.out.symm, blD hb _⟩
        · have hall' : Hid (∀ j (h1 : j < l.length) (h2 : j < m.length), j < k + 1 → l[j] = m[j]) := by
            show ∀ j, _
            intro j h1 h2 hj
            by_cases e : j = k
            · subst e; exact tf_iff.1 he
            · exact hall.out j h1 h2 (by omega)
          rw [he] at hq
          clear he
          go_wp2
          go_quiet (fail)
          go_wp2
          go_roundw
          case rel => exact ⟨k + 1, by omega, by go_num, blD hb _, hall'⟩
          case measure => simp [intOf]; omega
      · have hf : Hid (tf (l = m) = true) := same_yes HL.out fun k h1 h2 => hall.out k h1 h2 (by omega)
        go_wp2
        go_ret
        exact ⟨ret_b hf.out.symm, hb⟩
  · have hf : Hid (tf (l = m) = false) := same_len hlen
    have hlen' : ((l.length : Int) != (m.length : Int)) = true := by rw [bne_iff_ne]; omega
    clear hlen
    go_enter Tryz.func73, Tryz.ntmps73
    go_wp2
    go_ret
    exact ⟨ret_b hf.out.symm, Below.refl _ _⟩
theorem Sp.ext {a b : Sp} (h1 : a.n = b.n) (h2 : a.d = b.d) (h3 : a.m = b.m) : a = b := by cases a; cases b; cases h1; cases h2; cases h3; rfl
theorem kEqSp_run (a b c d : ByteArray) (x y : Bool) (w : World) : (Op.equalIn 10000 169 (.agg #[.string a, .string b, .bool x]) (.agg #[.string c, .string d, .bool y])).run Tryz.prog w = .ok ((a.toList == c.toList) && (b.toList == d.toList) && (x == y)) w := by
  have u3 := Tryz.underlying9
  have a3 := Tryz.isAgg9
  have z3 := Tryz.sizeOf9
  have u4 := Tryz.underlying4
  have a4 := Tryz.isAgg4
  have z4 := Tryz.sizeOf4
  have hS : Tryz.prog.underlying 169 = some (.struct (Tryz.prog.fieldsOf 169)) := by kernel_rfl
  have hp : Tryz.prog.stoodInHeld 169 = false := by kernel_rfl
  rw [show (10000 : Nat) = 9999 + 1 from rfl, run_equalIn_agg w 9999 169 _ _ hS hp]
  simp only [Program.fieldsOf, Tryz.underlying169]
  go_simp
  cases h1 : (a.toList == c.toList) <;> cases h2 : (b.toList == d.toList) <;> cases x <;> cases y <;> simp_all
theorem kNeqSp_run (a b c d : ByteArray) (x y : Bool) (w : World) : (binOp .neq 169 (.agg #[.string a, .string b, .bool x]) (.agg #[.string c, .string d, .bool y])).run Tryz.prog w = .ok (.bool (!((a.toList == c.toList) && (b.toList == d.toList) && (x == y)))) w := by
  rw [run_neq_struct, kEqSp_run]; rfl
theorem sp_eq (a b : Sp) : ((a.n.toList == b.n.toList) && (a.d.toList == b.d.toList) && (a.m == b.m)) = tf (a = b) := tf_of (by
  rw [Bool.and_eq_true, Bool.and_eq_true, eqS_iff, eqS_iff, beq_iff_eq]
  cases a; cases b; simp [and_assoc])
set_option maxRecDepth 100000 in
theorem kSpecs_any (va vb : Value) (l m : List Sp) (S S' : Nat → Prop) (w : World) (hl : Ls w S va l) (hm : Ls w S' vb m) :
    Calls Tryz.prog 74 #[va, vb] w fun e w' => e = .returned (.bool (tf (l = m))) ∧ Below w.heap.size w w' := by
  obtain ⟨Al, cl, rfl⟩ := hl.form
  obtain ⟨Am, cm, rfl⟩ := hm.form
  have hml := hl.max
  have hmm := hm.max
  unfold maxLen at hml hmm
  by_cases hlen : l.length = m.length
  · have hlen' : ((l.length : Int) != (m.length : Int)) = false := by simp; omega
    have HL := Lib.hid hlen
    clear hlen
    go_enter Tryz.func74, Tryz.ntmps74
    go_wp2
    go_loopw [5] (fun i wr => ∃ k : Nat, k ≤ l.length ∧ i = .int .i64 k ∧ Below w.heap.size w wr ∧ Hid (∀ j (h1 : j < l.length) (h2 : j < m.length), j < k → l[j] = m[j])) (fun i _ => l.length - (intOf i).toNat)
    case atStart => exact ⟨0, Nat.zero_le _, rfl, Below.refl _ _, fun j _ _ hj => by omega⟩
    case round =>
      obtain ⟨k, hk, rfl, hb, hall⟩ := hrel
      by_cases hlt : k < l.length
      · have hltm : k < m.length := by have := HL.out; omega
        obtain ⟨bl, offl, rfl, hblB, hcll, hl0, hl1, hl2⟩ := at_sp (hl.under hb) hlt
        obtain ⟨bm, offm, rfl, hbmB, hcmm, hm0, hm1, hm2⟩ := at_sp (hm.under hb) hltm
        have hi1 : (k : Int) < (l.length : Int) := by omega
        have hi2 : (k : Int) < (m.length : Int) := by omega
        have hi0 : (0 : Int) ≤ (k : Int) := by omega
        have hq := kNeqSp_run l[k].n l[k].d m[k].n m[k].d l[k].m m[k].m
        have hgd : Tryz.prog.eqGuardType Tryz.prog.depth 169 = false := by kernel_rfl
        cases he : tf (l[k] = m[k])
        · have hf : Hid (tf (l = m) = false) := same_no hlt hltm fun e => by rw [tf_yes e] at he; cases he
          rw [sp_eq, he] at hq
          clear he
          go_wp2
          go_quiet (fail)
          go_wp2
          go_ret
          exact ⟨ret_b hf.out.symm, blD hb _⟩
        · have hall' : Hid (∀ j (h1 : j < l.length) (h2 : j < m.length), j < k + 1 → l[j] = m[j]) := by
            show ∀ j, _
            intro j h1 h2 hj
            by_cases e : j = k
            · subst e; exact tf_iff.1 he
            · exact hall.out j h1 h2 (by omega)
          rw [sp_eq, he] at hq
          clear he
          go_wp2
          go_quiet (fail)
          go_wp2
          go_roundw
          case rel => exact ⟨k + 1, by omega, by go_num, blD hb _, hall'⟩
          case measure => simp [intOf]; omega
      · have hf : Hid (tf (l = m) = true) := same_yes HL.out fun k h1 h2 => hall.out k h1 h2 (by omega)
        go_wp2
        go_ret
        exact ⟨ret_b hf.out.symm, hb⟩
  · have hf : Hid (tf (l = m) = false) := same_len hlen
    have hlen' : ((l.length : Int) != (m.length : Int)) = true := by rw [bne_iff_ne]; omega
    clear hlen
    go_enter Tryz.func74, Tryz.ntmps74
    go_wp2
    go_ret
    exact ⟨ret_b hf.out.symm, Below.refl _ _⟩
end Go.Proofs.YtjajcecenflejaaGreat
namespace Go.Proofs.YtjajcecenflejaaGreat
open Go.RowKit
def tyV (a : Ty) (vg va vm : Value) : Value := .agg #[.string a.n, .string a.c, vg, .bool a.i, va, vm]
def IsTy (w : World) (S : Nat → Prop) (v : Value) (a : Ty) : Prop := ∃ vg, ∃ va, ∃ vm, v = tyV a vg va vm ∧ Ls w S vg a.g ∧ Ls w S va a.a ∧ Ls w S vm a.m
theorem IsTy.keep {w w' : World} {S S' : Nat → Prop} {v : Value} {a : Ty} (h : IsTy w S v a) (hk : Kept2 S S' w w') : IsTy w' S' v a := by
  obtain ⟨vg, va, vm, rfl, h0, h1, h2⟩ := h
  exact ⟨vg, va, vm, rfl, h0.keep hk, h1.keep hk, h2.keep hk⟩
theorem IsTy.under {w w' : World} {S : Nat → Prop} {v : Value} {a : Ty} (h : IsTy w S v a) (hb : Below w.heap.size w w') : IsTy w' S v a := h.keep (.below hb)
def mtV (a : Mt) (ve va : Value) : Value := .agg #[.string a.n, ve, va]
def IsMt (w : World) (S : Nat → Prop) (v : Value) (a : Mt) : Prop := ∃ ve, ∃ va, v = mtV a ve va ∧ Ls w S ve a.e ∧ Ls w S va a.a
theorem IsMt.keep {w w' : World} {S S' : Nat → Prop} {v : Value} {a : Mt} (h : IsMt w S v a) (hk : Kept2 S S' w w') : IsMt w' S' v a := by
  obtain ⟨ve, va, rfl, h0, h1⟩ := h
  exact ⟨ve, va, rfl, h0.keep hk, h1.keep hk⟩
theorem IsMt.under {w w' : World} {S : Nat → Prop} {v : Value} {a : Mt} (h : IsMt w S v a) (hb : Below w.heap.size w w') : IsMt w' S v a := h.keep (.below hb)
def scV (vt vm : Value) : Value := .agg #[vt, vm]
def IsSc (w : World) (S : Nat → Prop) (v : Value) (a : Sc) : Prop := ∃ vt vm, v = scV vt vm ∧ Ls w S vt a.t ∧ Ls w S vm a.m
theorem IsSc.keep {w w' : World} {S S' : Nat → Prop} {v : Value} {a : Sc} (h : IsSc w S v a) (hk : Kept2 S S' w w') : IsSc w' S' v a := by
  obtain ⟨vt, vm, rfl, h1, h2⟩ := h
  exact ⟨vt, vm, rfl, h1.keep hk, h2.keep hk⟩
theorem IsSc.under {w w' : World} {S : Nat → Prop} {v : Value} {a : Sc} (h : IsSc w S v a) (hb : Below w.heap.size w w') : IsSc w' S v a := h.keep (.below hb)
end Go.Proofs.YtjajcecenflejaaGreat
namespace Go.Proofs.YtjajcecenflejaaGreat
open Go.RowKit
theorem kType_ext {a b : Ty} (hn : a.n = b.n) (hc : a.c = b.c) (hg : a.g = b.g) (hi : a.i = b.i) (ha : a.a = b.a) (hm : a.m = b.m) : a = b := by
  cases a; cases b; cases hn; cases hc; cases hg; cases hi; cases ha; cases hm; rfl
set_option maxRecDepth 100000 in
set_option maxHeartbeats 4000000 in
theorem kType_any (vx vy : Value) (x y : Ty) (S S' : Nat → Prop) (w : World) (hx : IsTy w S vx x) (hy : IsTy w S' vy y) :
    Calls Tryz.prog 39 #[vx, vy] w fun e w' => e = .returned (.bool (tf (x = y))) ∧ Below w.heap.size w w' := by
  obtain ⟨vg, va, vm, rfl, rg, ra, rm⟩ := hx
  obtain ⟨ug, ua, um, rfl, sg, sa, sm⟩ := hy
  obtain ⟨Ag, cg, rfl⟩ := rg.form
  obtain ⟨Bg, dg, rfl⟩ := sg.form
  obtain ⟨Aa, ca, rfl⟩ := ra.form
  obtain ⟨Ba, da, rfl⟩ := sa.form
  obtain ⟨Am, cm, rfl⟩ := rm.form
  obtain ⟨Bm, dm, rfl⟩ := sm.form
  have hn : (x.n.toList == y.n.toList) = tf (x.n = y.n) := eqS_tf _ _
  have hc : (x.c.toList == y.c.toList) = tf (x.c = y.c) := eqS_tf _ _
  have hi : (x.i == y.i) = tf (x.i = y.i) := tf_of beq_iff_eq
  have HCg : Hid (∀ w', Below w.heap.size w w' → Calls Tryz.prog 73 #[.slice Ag x.g.length cg, .slice Bg y.g.length dg] w' fun e w'' => e = .returned (.bool (tf (x.g = y.g))) ∧ Below w'.heap.size w' w'' ∧ Below w.heap.size w w'') := fun w' h =>
    (kTexts_any _ _ _ _ S S' w' (rg.under h) (sg.under h)).mono fun e w'' ⟨he, hb⟩ => ⟨he, hb, h.trans (hb.mono h.size)⟩
  have HCm : Hid (∀ w', Below w.heap.size w w' → Calls Tryz.prog 73 #[.slice Am x.m.length cm, .slice Bm y.m.length dm] w' fun e w'' => e = .returned (.bool (tf (x.m = y.m))) ∧ Below w'.heap.size w' w'' ∧ Below w.heap.size w w'') := fun w' h =>
    (kTexts_any _ _ _ _ S S' w' (rm.under h) (sm.under h)).mono fun e w'' ⟨he, hb⟩ => ⟨he, hb, h.trans (hb.mono h.size)⟩
  have HCa : Hid (∀ w', Below w.heap.size w w' → Calls Tryz.prog 74 #[.slice Aa x.a.length ca, .slice Ba y.a.length da] w' fun e w'' => e = .returned (.bool (tf (x.a = y.a))) ∧ Below w'.heap.size w' w'' ∧ Below w.heap.size w w'') := fun w' h =>
    (kSpecs_any _ _ _ _ S S' w' (ra.under h) (sa.under h)).mono fun e w'' ⟨he, hb⟩ => ⟨he, hb, h.trans (hb.mono h.size)⟩
  obtain ⟨bn, Hn⟩ : ∃ b, Hid (b = tf (x.n = y.n)) := ⟨_, Lib.hid rfl⟩
  obtain ⟨bc, Hc⟩ : ∃ b, Hid (b = tf (x.c = y.c)) := ⟨_, Lib.hid rfl⟩
  obtain ⟨bi, Hi⟩ : ∃ b, Hid (b = tf (x.i = y.i)) := ⟨_, Lib.hid rfl⟩
  obtain ⟨bg, Hg⟩ : ∃ b, Hid (b = tf (x.g = y.g)) := ⟨_, Lib.hid rfl⟩
  obtain ⟨bm, Hm⟩ : ∃ b, Hid (b = tf (x.m = y.m)) := ⟨_, Lib.hid rfl⟩
  obtain ⟨ba, Ha⟩ : ∃ b, Hid (b = tf (x.a = y.a)) := ⟨_, Lib.hid rfl⟩
  have HE : Hid ((bn && bc && bi && bg && bm && ba) = tf (x = y)) := by
    refine tf_of ?_
    rw [Hn.out, Hc.out, Hi.out, Hg.out, Hm.out, Ha.out]
    simp only [Bool.and_eq_true, tf_iff]
    constructor
    · rintro ⟨⟨⟨⟨⟨en, ec⟩, ei⟩, eg⟩, em⟩, ea⟩
      exact kType_ext en ec eg ei ea em
    · rintro rfl
      exact ⟨⟨⟨⟨⟨rfl, rfl⟩, rfl⟩, rfl⟩, rfl⟩, rfl⟩
  rw [← Hn.out] at hn
  rw [← Hc.out] at hc
  rw [← Hi.out] at hi
  rw [← Hg.out] at HCg
  rw [← Hm.out] at HCm
  rw [← Ha.out] at HCa
  generalize hr : tf (x = y) = r at *
  unfold tyV
  clear rg sg ra sa rm sm Hn Hc Hi Hg Hm Ha hr
  generalize x.n = xn at *
  generalize x.c = xc at *
  generalize x.g.length = xg at *
  generalize x.i = xi at *
  generalize x.a.length = xa at *
  generalize x.m.length = xm at *
  generalize y.n = yn at *
  generalize y.c = yc at *
  generalize y.g.length = yg at *
  generalize y.i = yi at *
  generalize y.a.length = ya at *
  generalize y.m.length = ym at *
  go_enter Tryz.func39, Tryz.ntmps39
  cases bn
  case false =>
    have hf : Hid (r = false) := HE.out.symm
    clear HCg HCm HCa HE
    go_wp2
    go_ret
    exact ⟨ret_b hf.out.symm, (((Below.refl _ _).alloc (Nat.le_refl _) _).alloc (by simp) _)⟩
  cases bc
  case false =>
    have hf : Hid (r = false) := HE.out.symm
    clear HCg HCm HCa HE
    go_wp2
    go_ret
    exact ⟨ret_b hf.out.symm, (((Below.refl _ _).alloc (Nat.le_refl _) _).alloc (by simp) _)⟩
  cases bi
  case false =>
    have hf : Hid (r = false) := HE.out.symm
    clear HCg HCm HCa HE
    have gi : xi ≠ yi := by simpa using hi
    cases xi <;> cases yi <;> first | exact absurd rfl gi | skip
    all_goals
    go_wp2
    go_ret
    exact ⟨ret_b hf.out.symm, (((Below.refl _ _).alloc (Nat.le_refl _) _).alloc (by simp) _)⟩
  obtain rfl : xi = yi := by simpa using hi
  go_wp2_with fail
  refine (HCg.out _ (by exact (((Below.refl _ _).alloc (Nat.le_refl _) _).alloc (by simp) _))).mono ?_
  rintro e w0 ⟨rfl, q0, p0⟩
  have P0 := Lib.hid p0
  cases bg
  case false =>
    have hf : Hid (r = false) := HE.out.symm
    clear HCg HCm HCa HE q0 p0
    go_wp2
    go_ret
    exact ⟨ret_b hf.out.symm, P0.out⟩
  have t0 : w.heap.size + 1 < w0.heap.size := by have := q0.size; simp at this; omega
  have s0 : w.heap.size < w0.heap.size := by omega
  have zm0 : w0.cell? ⟨w.heap.size, 5, none⟩ = some (.slice Am xm cm) := (q0.cell (p := ⟨w.heap.size, 5, none⟩) (by simp <;> omega)).trans (by go_simp)
  have ym0 : w0.cell? ⟨w.heap.size + 1, 5, none⟩ = some (.slice Bm ym dm) := (q0.cell (p := ⟨w.heap.size + 1, 5, none⟩) (by simp <;> omega)).trans (by go_simp)
  have za0 : w0.cell? ⟨w.heap.size, 4, none⟩ = some (.slice Aa xa ca) := (q0.cell (p := ⟨w.heap.size, 4, none⟩) (by simp <;> omega)).trans (by go_simp)
  have ya0 : w0.cell? ⟨w.heap.size + 1, 4, none⟩ = some (.slice Ba ya da) := (q0.cell (p := ⟨w.heap.size + 1, 4, none⟩) (by simp <;> omega)).trans (by go_simp)
  clear q0 p0 HCg
  go_wp2_with fail
  refine (HCm.out _ P0.out).mono ?_
  rintro e w1 ⟨rfl, q1, p1⟩
  have P1 := Lib.hid p1
  cases bm
  case false =>
    have hf : Hid (r = false) := HE.out.symm
    clear HCm HCa HE q1 p1
    go_wp2
    go_ret
    exact ⟨ret_b hf.out.symm, P1.out⟩
  have t1 : w.heap.size + 1 < w1.heap.size := by have := q1.size; omega
  have s1 : w.heap.size < w1.heap.size := by omega
  have za1 := (q1.cell (p := ⟨w.heap.size, 4, none⟩) s0).trans za0
  have ya1 := (q1.cell (p := ⟨w.heap.size + 1, 4, none⟩) t0).trans ya0
  clear q1 p1 HCm s0 t0 P0 zm0 ym0 za0 ya0
  go_wp2_with fail
  refine (HCa.out _ P1.out).mono ?_
  rintro e w2 ⟨rfl, q2, p2⟩
  have P2 := Lib.hid p2
  have hf : Hid (ba = r) := HE.out
  clear HCa HE q2 p2
  have hf2 := hf.out
  subst hf2
  cases ba
  · go_wp2
    go_ret
    exact ⟨rfl, P2.out⟩
  · go_wp2
    go_ret
    exact ⟨rfl, P2.out⟩
theorem kMarkType_ext {a b : Mt} (hn : a.n = b.n) (he : a.e = b.e) (ha : a.a = b.a) : a = b := by
  cases a; cases b; cases hn; cases he; cases ha; rfl
set_option maxRecDepth 100000 in
set_option maxHeartbeats 4000000 in
theorem kMarkType_any (vx vy : Value) (x y : Mt) (S S' : Nat → Prop) (w : World) (hx : IsMt w S vx x) (hy : IsMt w S' vy y) :
    Calls Tryz.prog 40 #[vx, vy] w fun e w' => e = .returned (.bool (tf (x = y))) ∧ Below w.heap.size w w' := by
  obtain ⟨ve, va, rfl, re, ra⟩ := hx
  obtain ⟨ue, ua, rfl, se, sa⟩ := hy
  obtain ⟨Ae, ce, rfl⟩ := re.form
  obtain ⟨Be, de, rfl⟩ := se.form
  obtain ⟨Aa, ca, rfl⟩ := ra.form
  obtain ⟨Ba, da, rfl⟩ := sa.form
  have hn : (x.n.toList == y.n.toList) = tf (x.n = y.n) := eqS_tf _ _
  have HCe : Hid (∀ w', Below w.heap.size w w' → Calls Tryz.prog 73 #[.slice Ae x.e.length ce, .slice Be y.e.length de] w' fun e w'' => e = .returned (.bool (tf (x.e = y.e))) ∧ Below w'.heap.size w' w'' ∧ Below w.heap.size w w'') := fun w' h =>
    (kTexts_any _ _ _ _ S S' w' (re.under h) (se.under h)).mono fun e w'' ⟨he, hb⟩ => ⟨he, hb, h.trans (hb.mono h.size)⟩
  have HCa : Hid (∀ w', Below w.heap.size w w' → Calls Tryz.prog 74 #[.slice Aa x.a.length ca, .slice Ba y.a.length da] w' fun e w'' => e = .returned (.bool (tf (x.a = y.a))) ∧ Below w'.heap.size w' w'' ∧ Below w.heap.size w w'') := fun w' h =>
    (kSpecs_any _ _ _ _ S S' w' (ra.under h) (sa.under h)).mono fun e w'' ⟨he, hb⟩ => ⟨he, hb, h.trans (hb.mono h.size)⟩
  obtain ⟨bn, Hn⟩ : ∃ b, Hid (b = tf (x.n = y.n)) := ⟨_, Lib.hid rfl⟩
  obtain ⟨be, He⟩ : ∃ b, Hid (b = tf (x.e = y.e)) := ⟨_, Lib.hid rfl⟩
  obtain ⟨ba, Ha⟩ : ∃ b, Hid (b = tf (x.a = y.a)) := ⟨_, Lib.hid rfl⟩
  have HE : Hid ((bn && be && ba) = tf (x = y)) := by
    refine tf_of ?_
    rw [Hn.out, He.out, Ha.out]
    simp only [Bool.and_eq_true, tf_iff]
    constructor
    · rintro ⟨⟨en, ee⟩, ea⟩
      exact kMarkType_ext en ee ea
    · rintro rfl
      exact ⟨⟨rfl, rfl⟩, rfl⟩
  rw [← Hn.out] at hn
  rw [← He.out] at HCe
  rw [← Ha.out] at HCa
  generalize hr : tf (x = y) = r at *
  unfold mtV
  clear re se ra sa Hn He Ha hr
  generalize x.n = xn at *
  generalize x.e.length = xe at *
  generalize x.a.length = xa at *
  generalize y.n = yn at *
  generalize y.e.length = ye at *
  generalize y.a.length = ya at *
  go_enter Tryz.func40, Tryz.ntmps40
  cases bn
  case false =>
    have hf : Hid (r = false) := HE.out.symm
    clear HCe HCa HE
    go_wp2
    go_ret
    exact ⟨ret_b hf.out.symm, (((Below.refl _ _).alloc (Nat.le_refl _) _).alloc (by simp) _)⟩
  go_wp2_with fail
  refine (HCe.out _ (by exact (((Below.refl _ _).alloc (Nat.le_refl _) _).alloc (by simp) _))).mono ?_
  rintro e w0 ⟨rfl, q0, p0⟩
  have P0 := Lib.hid p0
  cases be
  case false =>
    have hf : Hid (r = false) := HE.out.symm
    clear HCe HCa HE q0 p0
    go_wp2
    go_ret
    exact ⟨ret_b hf.out.symm, P0.out⟩
  have t0 : w.heap.size + 1 < w0.heap.size := by have := q0.size; simp at this; omega
  have s0 : w.heap.size < w0.heap.size := by omega
  have za0 : w0.cell? ⟨w.heap.size, 2, none⟩ = some (.slice Aa xa ca) := (q0.cell (p := ⟨w.heap.size, 2, none⟩) (by simp <;> omega)).trans (by go_simp)
  have ya0 : w0.cell? ⟨w.heap.size + 1, 2, none⟩ = some (.slice Ba ya da) := (q0.cell (p := ⟨w.heap.size + 1, 2, none⟩) (by simp <;> omega)).trans (by go_simp)
  clear q0 p0 HCe
  go_wp2_with fail
  refine (HCa.out _ P0.out).mono ?_
  rintro e w1 ⟨rfl, q1, p1⟩
  have P1 := Lib.hid p1
  have hf : Hid (ba = r) := HE.out
  clear HCa HE q1 p1
  have hf2 := hf.out
  subst hf2
  cases ba
  · go_wp2
    go_ret
    exact ⟨rfl, P1.out⟩
  · go_wp2
    go_ret
    exact ⟨rfl, P1.out⟩
end Go.Proofs.YtjajcecenflejaaGreat
namespace Go.Proofs.YtjajcecenflejaaGreat
open Go.RowKit
def SomeI (e : Ending) : Prop := ∃ z : Int, e = .returned (.int .i64 z)
set_option maxRecDepth 100000 in
set_option maxHeartbeats 4000000 in
theorem kWeigh_of (vx : Value) (x : Nd) (most : Int) (S : Nat → Prop) (w : World) (hx : IsNd w S vx x)
    (ih : ∀ e ∈ x.k, ∀ (vx : Value) (w : World), IsNd w S vx e → Calls Tryz.prog 5 #[vx, .int .i64 most] w fun r w' => SomeI r ∧ Below w.heap.size w w') :
    Calls Tryz.prog 5 #[vx, .int .i64 most] w fun e w' => SomeI e ∧ Below w.heap.size w w' := by
  obtain ⟨v1, v2, v3, rfl, ra, rm, rk⟩ := hx
  obtain ⟨A1, c1, rfl⟩ := ra.form
  obtain ⟨A2, c2, rfl⟩ := rm.form
  obtain ⟨A3, c3, rfl⟩ := rk.form
  have hmk := rk.max
  unfold maxLen at hmk
  unfold ndV
  have B1 : Below w.heap.size w (w.alloc (.cells #[.string x.t, .slice A1 x.a.length c1, .slice A2 x.m.length c2, .string x.x, .slice A3 x.k.length c3] 26)) := (Below.refl _ _).alloc (Nat.le_refl _) _
  have hk3 : Hid (∀ wr, Below (w.heap.size + 1) (w.alloc (.cells #[.string x.t, .slice A1 x.a.length c1, .slice A2 x.m.length c2, .string x.x, .slice A3 x.k.length c3] 26)) wr → wr.cell? ⟨w.heap.size, 4, none⟩ = some (.slice A3 x.k.length c3) ∧ w.heap.size + 1 ≤ wr.heap.size ∧ Below w.heap.size w wr) := fun wr hb => by
    refine ⟨(hb.cell (p := ⟨w.heap.size, 4, none⟩) (by simp)).trans (by go_simp), ?_, B1.trans (hb.mono (by omega))⟩
    have := hb.size
    simp at this
    omega
  go_enter Tryz.func5, Tryz.ntmps5
  go_wp2
  go_loopg [5, 6] x.k.length (fun g s5 s6 wr => ∃ (k : Nat) (z : Int), k ≤ x.k.length ∧ g = x.k.length - k ∧ s5 = .int .i64 z ∧ s6 = .int .i64 k ∧ Below (w.heap.size + 1) (w.alloc (.cells #[.string x.t, .slice A1 x.a.length c1, .slice A2 x.m.length c2, .string x.x, .slice A3 x.k.length c3] 26)) wr)
  case atStart => exact ⟨0, _, Nat.zero_le _, by omega, rfl, rfl, Below.refl _ _⟩
  case round =>
    obtain ⟨k, z, hk, hg, rfl, rfl, hb⟩ := hrel
    have HG := Lib.hid hg
    clear hg
    obtain ⟨hc4, hsz, hbw⟩ := hk3.out wr hb
    have hs0 : w.heap.size < wr.heap.size := by omega
    have HB := Lib.hid hb
    clear hb B1
    by_cases hlt : k < x.k.length
    · by_cases hz : z ≤ most
      · obtain ⟨bl, offl, u1, u2, u4, rfl, ⟨_, hbl⟩, hcll, a0, a1, a2, a3, a4, sa, sm, sk⟩ := at_nd (rk.under hbw) hlt
        have HC := Lib.hid (ih _ (List.getElem_mem hlt) _ wr ⟨u1, u2, u4, rfl, sa, sm, sk⟩)
        clear ih hbw
        unfold ndV at HC
        have hi1 : (k : Int) < (x.k.length : Int) := by omega
        have hi0 : (0 : Int) ≤ (k : Int) := by omega
        obtain ⟨D1, e1, rfl⟩ := sa.form
        obtain ⟨D2, e2, rfl⟩ := sm.form
        obtain ⟨D3, e3, rfl⟩ := sk.form
        clear sa sm sk ra rm rk
        generalize x.k[k].t = xt at *
        generalize x.k[k].x = xx at *
        generalize x.k[k].a.length = x1 at *
        generalize x.k[k].m.length = x2 at *
        generalize x.k[k].k.length = x3 at *
        go_wp2_with fail
        refine HC.out.mono ?_
        rintro e w3 ⟨⟨z3, rfl⟩, q3⟩
        have HB3 := Lib.hid (HB.out.trans (q3.mono hsz))
        clear q3 HC
        go_wp2
        go_roundg (x.k.length - (k + 1))
        case measure => have := HG.out; omega
        case rel => exact ⟨k + 1, _, by omega, rfl, rfl, by go_num, HB3.out⟩
      · go_wp2
        go_ret
        exact ⟨⟨_, rfl⟩, hbw⟩
    · go_wp2
      go_ret
      exact ⟨⟨_, rfl⟩, hbw⟩
theorem kWeigh_any (S : Nat → Prop) (most : Int) (x : Nd) : ∀ (vx : Value) (w : World), IsNd w S vx x →
    Calls Tryz.prog 5 #[vx, .int .i64 most] w fun e w' => SomeI e ∧ Below w.heap.size w w' := by
  induction x using Nd.ind with
  | h t a m x k ih => exact fun vx w hx => kWeigh_of vx _ most S w hx ih
end Go.Proofs.YtjajcecenflejaaGreat
namespace Go.Proofs.YtjajcecenflejaaGreat
open Go.RowKit
set_option maxRecDepth 100000 in
set_option maxHeartbeats 4000000 in
theorem kHeavy_any (vx : Value) (x : Sc) (S : Nat → Prop) (w : World) (hx : IsSc w S vx x) :
    Calls Tryz.prog 6 #[vx] w fun e w' => SomeI e ∧ Below w.heap.size w w' := by
  obtain ⟨vt, vm, rfl, ht, hm⟩ := hx
  obtain ⟨A1, c1, rfl⟩ := ht.form
  obtain ⟨A2, c2, rfl⟩ := hm.form
  have hmk := ht.max
  have hmm := hm.max
  unfold maxLen at hmk hmm
  unfold scV
  have B1 : Below w.heap.size w (w.alloc (.cells #[.slice A1 x.t.length c1, .slice A2 x.m.length c2] 31)) := (Below.refl _ _).alloc (Nat.le_refl _) _
  have hk3 : Hid (∀ wr, Below (w.heap.size + 1) (w.alloc (.cells #[.slice A1 x.t.length c1, .slice A2 x.m.length c2] 31)) wr →
      wr.cell? ⟨w.heap.size, 0, none⟩ = some (.slice A1 x.t.length c1) ∧ wr.cell? ⟨w.heap.size, 1, none⟩ = some (.slice A2 x.m.length c2) ∧ w.heap.size + 1 ≤ wr.heap.size ∧ Below w.heap.size w wr) := fun wr hb => by
    refine ⟨(hb.cell (p := ⟨w.heap.size, 0, none⟩) (by simp)).trans (by go_simp), (hb.cell (p := ⟨w.heap.size, 1, none⟩) (by simp)).trans (by go_simp), ?_, B1.trans (hb.mono (by omega))⟩
    have := hb.size
    simp at this
    omega
  go_enter Tryz.func6, Tryz.ntmps6
  go_wp2
  go_loopg [3, 4, 5] x.t.length (fun g s3 s4 s5 wr => ∃ (k : Nat) (z : Int), k ≤ x.t.length ∧ g = x.t.length - k ∧ s3 = .int .i64 z ∧ s4 = .int .i64 k ∧ Below (w.heap.size + 1) (w.alloc (.cells #[.slice A1 x.t.length c1, .slice A2 x.m.length c2] 31)) wr)
  case atStart => exact ⟨0, _, Nat.zero_le _, by omega, rfl, rfl, Below.refl _ _⟩
  case round =>
    obtain ⟨k, z, hk, hg, rfl, rfl, hb⟩ := hrel
    have HG := Lib.hid hg
    clear hg
    obtain ⟨hc0, hc1, hsz, hbw⟩ := hk3.out wr hb
    have hs0 : w.heap.size < wr.heap.size := by omega
    have HB := Lib.hid hb
    clear hb B1
    by_cases hlt : k < x.t.length
    · obtain ⟨bl, offl, u2, u4, u5, rfl, ⟨_, hbl⟩, hcll, a0, a1, a2, a3, a4, a5, sg, sa, sm⟩ := at_ty (ht.under hbw) hlt
      clear hbw
      have hi1 : (k : Int) < (x.t.length : Int) := by omega
      have hi0 : (0 : Int) ≤ (k : Int) := by omega
      obtain ⟨D1, e1, rfl⟩ := sg.form
      obtain ⟨D2, e2, rfl⟩ := sa.form
      obtain ⟨D3, e3, rfl⟩ := sm.form
      clear sa sm sg ht hm
      generalize x.t[k].n = xn at *
      generalize x.t[k].c = xc at *
      generalize x.t[k].i = xi at *
      generalize x.t[k].g.length = x1 at *
      generalize x.t[k].a.length = x2 at *
      generalize x.t[k].m.length = x3 at *
      go_wp2
      go_roundg (x.t.length - (k + 1))
      case measure => have := HG.out; omega
      case rel => exact ⟨k + 1, _, by omega, rfl, rfl, by go_num, HB.out.alloc hsz _⟩
    · go_wp2
      go_loopg [3, 6] x.m.length (fun g s3 s6 wr => ∃ (k : Nat) (z : Int), k ≤ x.m.length ∧ g = x.m.length - k ∧ s3 = .int .i64 z ∧ s6 = .int .i64 k ∧ Below (w.heap.size + 1) (w.alloc (.cells #[.slice A1 x.t.length c1, .slice A2 x.m.length c2] 31)) wr)
      case atStart => exact ⟨0, _, Nat.zero_le _, by omega, rfl, rfl, HB.out⟩
      case round =>
        obtain ⟨k, z, hk, hg, rfl, rfl, hb⟩ := hrel
        have HG := Lib.hid hg
        clear hg HB hc0 hc1 hsz hbw hs0
        obtain ⟨hc0, hc1, hsz, hbw⟩ := hk3.out _ hb
        have hs0 := hsz
        have HB := Lib.hid hb
        clear hb
        by_cases hlt : k < x.m.length
        · obtain ⟨bl, offl, u2, u4, rfl, ⟨_, hbl⟩, hcll, a0, a1, a2, sg, sa⟩ := at_mt (hm.under hbw) hlt
          clear hbw
          have hi1 : (k : Int) < (x.m.length : Int) := by omega
          have hi0 : (0 : Int) ≤ (k : Int) := by omega
          obtain ⟨D1, e1, rfl⟩ := sg.form
          obtain ⟨D2, e2, rfl⟩ := sa.form
          clear sa sg ht hm
          generalize x.m[k].n = xn at *
          generalize x.m[k].e.length = x1 at *
          generalize x.m[k].a.length = x2 at *
          go_wp2
          go_quiet (fail)
          go_wp2
          go_roundg (x.m.length - (k + 1))
          case measure => have := HG.out; omega
          case rel => exact ⟨k + 1, _, by omega, rfl, rfl, by go_num, blD HB.out _⟩
        · go_wp2
          go_ret
          exact ⟨⟨_, rfl⟩, hbw⟩
end Go.Proofs.YtjajcecenflejaaGreat
