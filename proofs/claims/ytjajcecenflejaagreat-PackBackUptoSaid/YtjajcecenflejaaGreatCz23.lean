/- YtjajcecenflejaaGreatCz23 -/
import Derived.Test.YtjajcecenflejaaGreatCz22
namespace Go.Proofs.YtjajcecenflejaaGreat
open Go.RowKit
theorem Sc.ext {a b : Sc} (h1 : a.t = b.t) (h2 : a.m = b.m) : a = b := by cases a; cases b; cases h1; cases h2; rfl
set_option maxRecDepth 100000 in
set_option maxHeartbeats 8000000 in
theorem kSchema_any (vx vy : Value) (x y : Sc) (S S' : Nat → Prop) (w : World) (hx : IsSc w S vx x) (hy : IsSc w S' vy y) :
    Calls Tryz.prog 18 #[vx, vy] w fun e w' => e = .returned (.bool (tf (x = y))) ∧ Below w.heap.size w w' := by
  obtain ⟨vt, vm, rfl, ht, hm⟩ := hx
  obtain ⟨ut, um, rfl, kt, km⟩ := hy
  obtain ⟨A1, c1, rfl⟩ := ht.form
  obtain ⟨A2, c2, rfl⟩ := hm.form
  obtain ⟨A3, c3, rfl⟩ := kt.form
  obtain ⟨A4, c4, rfl⟩ := km.form
  have hmk := ht.max
  have hmm := hm.max
  have kmk := kt.max
  have kmm := km.max
  unfold maxLen at hmk hmm kmk kmm
  unfold scV
  have B1 : Below w.heap.size w ((w.alloc (.cells #[.slice A1 x.t.length c1, .slice A2 x.m.length c2] 31)).alloc (.cells #[.slice A3 y.t.length c3, .slice A4 y.m.length c4] 31)) := ((Below.refl _ _).alloc (Nat.le_refl _) _).alloc (by simp) _
  have hk3 : Hid (∀ wr, Below (w.heap.size + 1 + 1) ((w.alloc (.cells #[.slice A1 x.t.length c1, .slice A2 x.m.length c2] 31)).alloc (.cells #[.slice A3 y.t.length c3, .slice A4 y.m.length c4] 31)) wr →
      wr.cell? ⟨w.heap.size, 0, none⟩ = some (.slice A1 x.t.length c1) ∧ wr.cell? ⟨w.heap.size, 1, none⟩ = some (.slice A2 x.m.length c2) ∧ wr.cell? ⟨w.heap.size + 1, 0, none⟩ = some (.slice A3 y.t.length c3) ∧ wr.cell? ⟨w.heap.size + 1, 1, none⟩ = some (.slice A4 y.m.length c4) ∧
        w.heap.size + 1 + 1 ≤ wr.heap.size ∧ Below w.heap.size w wr) := fun wr hb => by
    refine ⟨(hb.cell (p := ⟨w.heap.size, 0, none⟩) (by simp <;> omega)).trans (by go_simp), (hb.cell (p := ⟨w.heap.size, 1, none⟩) (by simp <;> omega)).trans (by go_simp), (hb.cell (p := ⟨w.heap.size + 1, 0, none⟩) (by simp)).trans (by go_simp), (hb.cell (p := ⟨w.heap.size + 1, 1, none⟩) (by simp)).trans (by go_simp), ?_, B1.trans (hb.mono (by omega))⟩
    have := hb.size
    simp at this
    omega
  by_cases hl1 : x.t.length = y.t.length
  case neg =>
    have hf : Hid (tf (x = y) = false) := tf_no fun e => hl1 (by rw [e])
    have hl1' : ¬ (x.t.length : Int) = (y.t.length : Int) := by omega
    go_enter Tryz.func18, Tryz.ntmps18
    go_wp2
    go_ret
    exact ⟨ret_b hf.out.symm, B1⟩
  by_cases hl2 : x.m.length = y.m.length
  case neg =>
    have hf : Hid (tf (x = y) = false) := tf_no fun e => hl2 (by rw [e])
    have hl1' : (x.t.length : Int) = (y.t.length : Int) := by omega
    have hl2' : ¬ (x.m.length : Int) = (y.m.length : Int) := by omega
    go_enter Tryz.func18, Tryz.ntmps18
    go_wp2
    go_ret
    exact ⟨ret_b hf.out.symm, ((Below.refl _ _).alloc (Nat.le_refl _) _).alloc (by simp) _⟩
  have hl1' : (x.t.length : Int) = (y.t.length : Int) := by omega
  have hl2' : (x.m.length : Int) = (y.m.length : Int) := by omega
  have HL1 := Lib.hid hl1
  have HL2 := Lib.hid hl2
  have HN1 : Hid (tf (x.t = y.t) = false → tf (x = y) = false) := fun h => tf_no fun e => by rw [tf_yes (by rw [e])] at h; cases h
  have HN2 : Hid (tf (x.m = y.m) = false → tf (x = y) = false) := fun h => tf_no fun e => by rw [tf_yes (by rw [e])] at h; cases h
  have HY : Hid (x.t = y.t → x.m = y.m → tf (x = y) = true) := fun h1 h2 => tf_yes (Sc.ext h1 h2)
  clear hl1 hl2
  generalize hr : tf (x = y) = r at *
  clear hr
  obtain ⟨xt, xm⟩ := x
  obtain ⟨yt, ym⟩ := y
  dsimp only at *
  go_enter Tryz.func18, Tryz.ntmps18
  go_wp2
  clear hl1' hl2'
  go_loopg [5] xt.length (fun g s5 wr => ∃ (k : Nat), k ≤ xt.length ∧ g = xt.length - k ∧ s5 = .int .i64 k ∧ Below (w.heap.size + 1 + 1) ((w.alloc (.cells #[.slice A1 xt.length c1, .slice A2 xm.length c2] 31)).alloc (.cells #[.slice A3 yt.length c3, .slice A4 ym.length c4] 31)) wr ∧ Hid (∀ j (h1 : j < xt.length) (h2 : j < yt.length), j < k → xt[j] = yt[j]))
  case atStart => exact ⟨0, Nat.zero_le _, by omega, rfl, Below.refl _ _, fun j _ _ hj => by omega⟩
  case round =>
    obtain ⟨k, hk, hg, rfl, hb, hall⟩ := hrel
    have HG := Lib.hid hg
    clear hg
    obtain ⟨hc0, hc1, hc2, hc3, hsz, hbw⟩ := hk3.out wr hb
    have hs0 : w.heap.size < wr.heap.size := by omega
    have hs1 : w.heap.size + 1 < wr.heap.size := by omega
    have HB := Lib.hid hb
    clear hb B1
    by_cases hlt : k < xt.length
    · have hltm : k < yt.length := by have := HL1.out; omega
      obtain ⟨bl, offl, u2, u4, u5, rfl, ⟨_, hbl⟩, hcll, a0, a1, a2, a3, a4, a5, sg, sa, sm⟩ := at_ty (ht.under hbw) hlt
      obtain ⟨bm, offm, t2, t4, t5, rfl, ⟨_, hbm⟩, hcmm, b0, b1, b2, b3, b4, b5, tg, ta, tm⟩ := at_ty (kt.under hbw) hltm
      clear hbw
      have HC : Hid (∀ w', Below wr.heap.size wr w' → Calls Tryz.prog 39 #[tyV xt[k] u2 u4 u5, tyV yt[k] t2 t4 t5] w' fun e w'' => e = .returned (.bool (tf (xt[k] = yt[k]))) ∧ Below wr.heap.size wr w'') := fun w' h =>
        (kType_any _ _ _ _ S S' w' ⟨_, _, _, rfl, sg.under h, sa.under h, sm.under h⟩ ⟨_, _, _, rfl, tg.under h, ta.under h, tm.under h⟩).mono fun e w'' ⟨he, hb⟩ => ⟨he, h.trans (hb.mono h.size)⟩
      have C2 := Lib.hid ((Below.refl wr.heap.size wr).drew)
      have hi1 : (k : Int) < (xt.length : Int) := by omega
      have hi2 : (k : Int) < (yt.length : Int) := by omega
      have hi0 : (0 : Int) ≤ (k : Int) := by omega
      obtain ⟨D1, e1, rfl⟩ := sg.form
      obtain ⟨D2, e2, rfl⟩ := sa.form
      obtain ⟨D3, e3, rfl⟩ := sm.form
      obtain ⟨D4, e4, rfl⟩ := tg.form
      obtain ⟨D5, e5, rfl⟩ := ta.form
      obtain ⟨D6, e6, rfl⟩ := tm.form
      obtain ⟨b1', H1⟩ : ∃ b, Hid (b = tf (xt[k] = yt[k])) := ⟨_, Lib.hid rfl⟩
      rw [← H1.out] at HC
      have HE : Hid (b1' = true → xt[k] = yt[k]) := fun e1 => tf_iff.1 (H1.out ▸ e1)
      have HN : Hid (b1' = false → r = false) := fun e => HN1.out (same_no hlt hltm fun h => by rw [tf_yes h] at H1; rw [H1.out] at e; cases e)
      unfold tyV at HC
      clear sa sm sg ta tm tg H1
      generalize xt[k].n = xn at *
      generalize xt[k].c = xc at *
      generalize xt[k].i = xi at *
      generalize xt[k].g.length = x1 at *
      generalize xt[k].a.length = x2 at *
      generalize xt[k].m.length = x3 at *
      generalize yt[k].n = yn at *
      generalize yt[k].c = yc at *
      generalize yt[k].i = yi at *
      generalize yt[k].g.length = y1 at *
      generalize yt[k].a.length = y2 at *
      generalize yt[k].m.length = y3 at *
      go_wp2
      refine wp_region_held_drew (S := (fun w' => ((w'.cell? ⟨bl, offl + k * 6, none⟩ = some (.string xn) ∧ w'.cell? ⟨bl, offl + k * 6 + 1, none⟩ = some (.string xc) ∧ w'.cell? ⟨bl, offl + k * 6 + 1 + 1, none⟩ = some (.slice D1 x1 e1) ∧ w'.cell? ⟨bl, offl + k * 6 + 1 + 1 + 1, none⟩ = some (.bool xi) ∧ w'.cell? ⟨bl, offl + k * 6 + 1 + 1 + 1 + 1, none⟩ = some (.slice D2 x2 e2) ∧ w'.cell? ⟨bl, offl + k * 6 + 1 + 1 + 1 + 1 + 1, none⟩ = some (.slice D3 x3 e3)) ∧ (w'.cell? ⟨bm, offm + k * 6, none⟩ = some (.string yn) ∧ w'.cell? ⟨bm, offm + k * 6 + 1, none⟩ = some (.string yc) ∧ w'.cell? ⟨bm, offm + k * 6 + 1 + 1, none⟩ = some (.slice D4 y1 e4) ∧ w'.cell? ⟨bm, offm + k * 6 + 1 + 1 + 1, none⟩ = some (.bool yi) ∧ w'.cell? ⟨bm, offm + k * 6 + 1 + 1 + 1 + 1, none⟩ = some (.slice D5 y2 e5) ∧ w'.cell? ⟨bm, offm + k * 6 + 1 + 1 + 1 + 1 + 1, none⟩ = some (.slice D6 y3 e6))) ∧ (w'.cell? ⟨w.heap.size, 0, none⟩ = some (.slice (some ⟨bl, offl, none⟩) xt.length c1) ∧ w'.cell? ⟨w.heap.size + 1, 0, none⟩ = some (.slice (some ⟨bm, offm, none⟩) yt.length c3)))) (by kernel_rfl) ⟨⟨⟨a0, a1, a2, a3, a4, a5⟩, ⟨b0, b1, b2, b3, b4, b5⟩⟩, hc0, hc2⟩ (fun hHeld => ?_)
      refine wpAnyH_take (i := 0) (oi := ?o21) (v := ?v21) ?hi21 (by kernel_rfl) (by kernel_rfl) (by kernel_rfl) ?hq21 ?hy21 (by assumption) ?hr21
      case hi21 => (simp only [List.getElem?_toArray, List.getElem?_cons_zero]; exact rfl)
      case hq21 => exact fun _ _ _ h => h
      case hy21 => (refine Or.inl ⟨by rfl, ?_⟩; intro w hSw; (try dsimp only at hSw); go_simp; (try with_reducible rfl))
      try simp only [Act.put, List.setIfInBounds_toArray, List.set_cons_zero, List.set_cons_succ]
      refine wpAnyH_take (i := 1) (oi := ?o22) (v := ?v22) ?hi22 (by kernel_rfl) (by kernel_rfl) (by kernel_rfl) ?hq22 ?hy22 (by assumption) ?hr22
      case hi22 => (simp only [List.getElem?_toArray, List.getElem?_cons_succ, List.getElem?_cons_zero]; exact rfl)
      case hq22 => exact fun _ _ _ h => h
      case hy22 => (refine Or.inl ⟨by rfl, ?_⟩; intro w hSw; (try dsimp only at hSw); go_simp; (try with_reducible rfl))
      try simp only [Act.put, List.setIfInBounds_toArray, List.set_cons_zero, List.set_cons_succ]
      refine wpAnyH_take (i := 2) (oi := ?o23) (v := ?v23) ?hi23 (by kernel_rfl) (by kernel_rfl) (by kernel_rfl) ?hq23 ?hy23 (by assumption) ?hr23
      case hi23 => (simp only [List.getElem?_toArray, List.getElem?_cons_succ, List.getElem?_cons_zero]; exact rfl)
      case hq23 => exact fun _ _ _ h => h
      case hy23 => (refine Or.inl ⟨by rfl, ?_⟩; intro w hSw; (try dsimp only at hSw); go_simp; (try with_reducible rfl))
      try simp only [Act.put, List.setIfInBounds_toArray, List.set_cons_zero, List.set_cons_succ]
      refine wpAnyH_take (i := 3) (oi := ?o24) (v := ?v24) ?hi24 (by kernel_rfl) (by kernel_rfl) (by kernel_rfl) ?hq24 ?hy24 (by assumption) ?hr24
      case hi24 => (simp only [List.getElem?_toArray, List.getElem?_cons_succ, List.getElem?_cons_zero]; exact rfl)
      case hq24 => exact fun _ _ _ h => h
      case hy24 => (refine Or.inl ⟨by rfl, ?_⟩; intro w hSw; (try dsimp only at hSw); go_simp; (try with_reducible rfl))
      try simp only [Act.put, List.setIfInBounds_toArray, List.set_cons_zero, List.set_cons_succ]
      refine wpAnyH_take (i := 4) (oi := ?o25) (v := ?v25) ?hi25 (by kernel_rfl) (by kernel_rfl) (by kernel_rfl) ?hq25 ?hy25 (by assumption) ?hr25
      case hi25 => (simp only [List.getElem?_toArray, List.getElem?_cons_succ, List.getElem?_cons_zero]; exact rfl)
      case hq25 => exact fun _ _ _ h => h
      case hy25 => (refine Or.inl ⟨by rfl, ?_⟩; intro w hSw; (try dsimp only at hSw); go_simp; (try with_reducible rfl))
      try simp only [Act.put, List.setIfInBounds_toArray, List.set_cons_zero, List.set_cons_succ]
      refine wpAnyH_take (i := 5) (oi := ?o26) (v := ?v26) ?hi26 (by kernel_rfl) (by kernel_rfl) (by kernel_rfl) ?hq26 ?hy26 (by assumption) ?hr26
      case hi26 => (simp only [List.getElem?_toArray, List.getElem?_cons_succ, List.getElem?_cons_zero]; exact rfl)
      case hq26 => exact fun _ _ _ h => h
      case hy26 => (refine Or.inl ⟨by rfl, ?_⟩; intro w hSw; (try dsimp only at hSw); go_simp; (try with_reducible rfl))
      try simp only [Act.put, List.setIfInBounds_toArray, List.set_cons_zero, List.set_cons_succ]
      refine wpAnyH_take (i := 6) (oi := ?o27) (v := ?v27) ?hi27 (by kernel_rfl) (by kernel_rfl) (by kernel_rfl) ?hq27 ?hy27 (by assumption) ?hr27
      case hi27 => (simp only [List.getElem?_toArray, List.getElem?_cons_succ, List.getElem?_cons_zero]; exact rfl)
      case hq27 => exact fun _ _ _ h => h
      case hy27 => (refine Or.inl ⟨by rfl, ?_⟩; intro w hSw; (try dsimp only at hSw); go_simp; (try with_reducible rfl))
      try simp only [Act.put, List.setIfInBounds_toArray, List.set_cons_zero, List.set_cons_succ]
      refine wpAnyH_take (i := 7) (oi := ?o28) (v := ?v28) ?hi28 (by kernel_rfl) (by kernel_rfl) (by kernel_rfl) ?hq28 ?hy28 (by assumption) ?hr28
      case hi28 => (simp only [List.getElem?_toArray, List.getElem?_cons_succ, List.getElem?_cons_zero]; exact rfl)
      case hq28 => exact fun _ _ _ h => h
      case hy28 => (refine Or.inl ⟨by rfl, ?_⟩; intro w hSw; (try dsimp only at hSw); go_simp; (try with_reducible rfl))
      try simp only [Act.put, List.setIfInBounds_toArray, List.set_cons_zero, List.set_cons_succ]
      refine wpAnyH_take (i := 8) (oi := ?o29) (v := ?v29) ?hi29 (by kernel_rfl) (by kernel_rfl) (by kernel_rfl) ?hq29 ?hy29 (by assumption) ?hr29
      case hi29 => (simp only [List.getElem?_toArray, List.getElem?_cons_succ, List.getElem?_cons_zero]; exact rfl)
      case hq29 => exact fun _ _ _ h => h
      case hy29 => (refine Or.inl ⟨by rfl, ?_⟩; intro w hSw; (try dsimp only at hSw); go_simp; (try with_reducible rfl))
      try simp only [Act.put, List.setIfInBounds_toArray, List.set_cons_zero, List.set_cons_succ]
      refine wpAnyH_take (i := 9) (oi := ?o30) (v := ?v30) ?hi30 (by kernel_rfl) (by kernel_rfl) (by kernel_rfl) ?hq30 ?hy30 (by assumption) ?hr30
      case hi30 => (simp only [List.getElem?_toArray, List.getElem?_cons_succ, List.getElem?_cons_zero]; exact rfl)
      case hq30 => exact fun _ _ _ h => h
      case hy30 => (refine Or.inl ⟨by rfl, ?_⟩; intro w hSw; (try dsimp only at hSw); go_simp; (try with_reducible rfl))
      try simp only [Act.put, List.setIfInBounds_toArray, List.set_cons_zero, List.set_cons_succ]
      refine wpAnyH_ready (rs := [10]) (by kernel_rfl) (by simp) ?_
      refine AllReadyH.cons (o := ?o31) ?hi31 (fun K hK => ?hk31) ?hr31
      case hi31 => (simp only [List.getElem?_toArray, List.getElem?_cons_succ, List.getElem?_cons_zero]; exact rfl)
      case hr31 => exact AllReadyH.nil
      go_simp
      ((try go_at_call 39); refine (HC.out _ C2.out).mono ?_; rintro e w3 ⟨rfl, q3⟩; have B3 := Lib.hid (HB.out.trans (q3.mono hsz)); refine hK _ _ (by refine ⟨⟨⟨?_, ?_, ?_, ?_, ?_, ?_⟩, ⟨?_, ?_, ?_, ?_, ?_, ?_⟩⟩, ?_, ?_⟩ <;> first | exact (q3.cell (by assumption)).trans (by assumption)) (fun hHeld2 => ?_))
      clear hK K
      try simp only [Act.put, List.setIfInBounds_toArray, List.set_cons_zero, List.set_cons_succ]
      refine wpAnyH_take (i := 11) (oi := ?o32) (v := ?v32) ?hi32 (by kernel_rfl) (by kernel_rfl) (by kernel_rfl) ?hq32 ?hy32 (by assumption) ?hr32
      case hi32 => (simp only [List.getElem?_toArray, List.getElem?_cons_succ, List.getElem?_cons_zero]; exact rfl)
      case hq32 => exact fun _ _ _ h => h
      case hy32 => (refine Or.inl ⟨by rfl, ?_⟩; intro w hSw; (try dsimp only at hSw); go_simp; (try with_reducible rfl))
      try simp only [Act.put, List.setIfInBounds_toArray, List.set_cons_zero, List.set_cons_succ]
      refine wpAnyH_done (by kernel_rfl) ?_ _
      cases b1'
      · have hf := Lib.hid (HN.out rfl)
        have hb2 := (hk3.out _ B3.out).2.2.2.2.2
        go_wp2
        go_ret
        exact ⟨ret_b hf.out.symm, hb2⟩
      · have hall' : Hid (∀ j (h1 : j < xt.length) (h2 : j < yt.length), j < k + 1 → xt[j] = yt[j]) := by
          show ∀ j, _
          intro j h1 h2 hj
          by_cases e : j = k
          · subst e; exact HE.out (by simp)
          · exact hall.out j h1 h2 (by omega)
        go_wp2
        go_roundg (xt.length - (k + 1))
        case measure => have := HG.out; omega
        case rel => exact ⟨k + 1, by omega, rfl, by go_num, B3.out, hall'⟩
    · have HT : Hid (xt = yt) := List.ext_getElem HL1.out fun j h1 h2 => hall.out j h1 h2 (by omega)
      clear hall
      go_wp2
      go_loopg [6] xm.length (fun g s6 wq => ∃ (k : Nat), k ≤ xm.length ∧ g = xm.length - k ∧ s6 = .int .i64 k ∧ Below (w.heap.size + 1 + 1) ((w.alloc (.cells #[.slice A1 xt.length c1, .slice A2 xm.length c2] 31)).alloc (.cells #[.slice A3 yt.length c3, .slice A4 ym.length c4] 31)) wq ∧ Hid (∀ j (h1 : j < xm.length) (h2 : j < ym.length), j < k → xm[j] = ym[j]))
      case atStart => exact ⟨0, Nat.zero_le _, by omega, rfl, HB.out, fun j _ _ hj => by omega⟩
      case round =>
        rename World => wq
        obtain ⟨k, hk, hg, rfl, hb, hall⟩ := hrel
        have HG := Lib.hid hg
        clear hg HB hc0 hc1 hc2 hc3 hsz hbw hs0 hs1
        obtain ⟨hc0, hc1, hc2, hc3, hsz, hbw⟩ := hk3.out _ hb
        have hs1 := hsz
        have hs0 := Nat.le_of_succ_le hsz
        have HB := Lib.hid hb
        clear hb
        by_cases hlt : k < xm.length
        · have hltm : k < ym.length := by have := HL2.out; omega
          obtain ⟨bl, offl, u2, u4, rfl, ⟨_, hbl⟩, hcll, a0, a1, a2, sg, sa⟩ := at_mt (hm.under hbw) hlt
          obtain ⟨bm, offm, t2, t4, rfl, ⟨_, hbm⟩, hcmm, b0, b1, b2, tg, ta⟩ := at_mt (km.under hbw) hltm
          clear hbw
          have HC : Hid (∀ w', Below wq.heap.size wq w' → Calls Tryz.prog 40 #[mtV xm[k] u2 u4, mtV ym[k] t2 t4] w' fun e w'' => e = .returned (.bool (tf (xm[k] = ym[k]))) ∧ Below wq.heap.size wq w'') := fun w' h =>
            (kMarkType_any _ _ _ _ S S' w' ⟨_, _, rfl, sg.under h, sa.under h⟩ ⟨_, _, rfl, tg.under h, ta.under h⟩).mono fun e w'' ⟨he, hb⟩ => ⟨he, h.trans (hb.mono h.size)⟩
          have C2 := Lib.hid ((Below.refl wq.heap.size wq).drew)
          have hi1 : (k : Int) < (xm.length : Int) := by omega
          have hi2 : (k : Int) < (ym.length : Int) := by omega
          have hi0 : (0 : Int) ≤ (k : Int) := by omega
          obtain ⟨D1, e1, rfl⟩ := sg.form
          obtain ⟨D2, e2, rfl⟩ := sa.form
          obtain ⟨D4, e4, rfl⟩ := tg.form
          obtain ⟨D5, e5, rfl⟩ := ta.form
          obtain ⟨b1', H1⟩ : ∃ b, Hid (b = tf (xm[k] = ym[k])) := ⟨_, Lib.hid rfl⟩
          rw [← H1.out] at HC
          have HE : Hid (b1' = true → xm[k] = ym[k]) := fun e1 => tf_iff.1 (H1.out ▸ e1)
          have HN : Hid (b1' = false → r = false) := fun e => HN2.out (same_no hlt hltm fun h => by rw [tf_yes h] at H1; rw [H1.out] at e; cases e)
          unfold mtV at HC
          clear sa sg ta tg H1
          generalize xm[k].n = xn at *
          generalize xm[k].e.length = x1 at *
          generalize xm[k].a.length = x2 at *
          generalize ym[k].n = yn at *
          generalize ym[k].e.length = y1 at *
          generalize ym[k].a.length = y2 at *
          go_wp2
          refine wp_region_held_drew (S := (fun w' => ((w'.cell? ⟨bl, offl + k * 3, none⟩ = some (.string xn) ∧ w'.cell? ⟨bl, offl + k * 3 + 1, none⟩ = some (.slice D1 x1 e1) ∧ w'.cell? ⟨bl, offl + k * 3 + 1 + 1, none⟩ = some (.slice D2 x2 e2)) ∧ (w'.cell? ⟨bm, offm + k * 3, none⟩ = some (.string yn) ∧ w'.cell? ⟨bm, offm + k * 3 + 1, none⟩ = some (.slice D4 y1 e4) ∧ w'.cell? ⟨bm, offm + k * 3 + 1 + 1, none⟩ = some (.slice D5 y2 e5))) ∧ (w'.cell? ⟨w.heap.size, 1, none⟩ = some (.slice (some ⟨bl, offl, none⟩) xm.length c2) ∧ w'.cell? ⟨w.heap.size + 1, 1, none⟩ = some (.slice (some ⟨bm, offm, none⟩) ym.length c4)))) (by kernel_rfl) ⟨⟨⟨a0, a1, a2⟩, ⟨b0, b1, b2⟩⟩, hc1, hc3⟩ (fun hHeld => ?_)
          refine wpAnyH_take (i := 0) (oi := ?o33) (v := ?v33) ?hi33 (by kernel_rfl) (by kernel_rfl) (by kernel_rfl) ?hq33 ?hy33 (by assumption) ?hr33
          case hi33 => (simp only [List.getElem?_toArray, List.getElem?_cons_zero]; exact rfl)
          case hq33 => exact fun _ _ _ h => h
          case hy33 => (refine Or.inl ⟨by rfl, ?_⟩; intro w hSw; (try dsimp only at hSw); go_simp; (try with_reducible rfl))
          try simp only [Act.put, List.setIfInBounds_toArray, List.set_cons_zero, List.set_cons_succ]
          refine wpAnyH_take (i := 1) (oi := ?o34) (v := ?v34) ?hi34 (by kernel_rfl) (by kernel_rfl) (by kernel_rfl) ?hq34 ?hy34 (by assumption) ?hr34
          case hi34 => (simp only [List.getElem?_toArray, List.getElem?_cons_succ, List.getElem?_cons_zero]; exact rfl)
          case hq34 => exact fun _ _ _ h => h
          case hy34 => (refine Or.inl ⟨by rfl, ?_⟩; intro w hSw; (try dsimp only at hSw); go_simp; (try with_reducible rfl))
          try simp only [Act.put, List.setIfInBounds_toArray, List.set_cons_zero, List.set_cons_succ]
          refine wpAnyH_take (i := 2) (oi := ?o35) (v := ?v35) ?hi35 (by kernel_rfl) (by kernel_rfl) (by kernel_rfl) ?hq35 ?hy35 (by assumption) ?hr35
          case hi35 => (simp only [List.getElem?_toArray, List.getElem?_cons_succ, List.getElem?_cons_zero]; exact rfl)
          case hq35 => exact fun _ _ _ h => h
          case hy35 => (refine Or.inl ⟨by rfl, ?_⟩; intro w hSw; (try dsimp only at hSw); go_simp; (try with_reducible rfl))
          try simp only [Act.put, List.setIfInBounds_toArray, List.set_cons_zero, List.set_cons_succ]
          refine wpAnyH_take (i := 3) (oi := ?o36) (v := ?v36) ?hi36 (by kernel_rfl) (by kernel_rfl) (by kernel_rfl) ?hq36 ?hy36 (by assumption) ?hr36
          case hi36 => (simp only [List.getElem?_toArray, List.getElem?_cons_succ, List.getElem?_cons_zero]; exact rfl)
          case hq36 => exact fun _ _ _ h => h
          case hy36 => (refine Or.inl ⟨by rfl, ?_⟩; intro w hSw; (try dsimp only at hSw); go_simp; (try with_reducible rfl))
          try simp only [Act.put, List.setIfInBounds_toArray, List.set_cons_zero, List.set_cons_succ]
          refine wpAnyH_take (i := 4) (oi := ?o37) (v := ?v37) ?hi37 (by kernel_rfl) (by kernel_rfl) (by kernel_rfl) ?hq37 ?hy37 (by assumption) ?hr37
          case hi37 => (simp only [List.getElem?_toArray, List.getElem?_cons_succ, List.getElem?_cons_zero]; exact rfl)
          case hq37 => exact fun _ _ _ h => h
          case hy37 => (refine Or.inl ⟨by rfl, ?_⟩; intro w hSw; (try dsimp only at hSw); go_simp; (try with_reducible rfl))
          try simp only [Act.put, List.setIfInBounds_toArray, List.set_cons_zero, List.set_cons_succ]
          refine wpAnyH_take (i := 5) (oi := ?o38) (v := ?v38) ?hi38 (by kernel_rfl) (by kernel_rfl) (by kernel_rfl) ?hq38 ?hy38 (by assumption) ?hr38
          case hi38 => (simp only [List.getElem?_toArray, List.getElem?_cons_succ, List.getElem?_cons_zero]; exact rfl)
          case hq38 => exact fun _ _ _ h => h
          case hy38 => (refine Or.inl ⟨by rfl, ?_⟩; intro w hSw; (try dsimp only at hSw); go_simp; (try with_reducible rfl))
          try simp only [Act.put, List.setIfInBounds_toArray, List.set_cons_zero, List.set_cons_succ]
          refine wpAnyH_take (i := 6) (oi := ?o39) (v := ?v39) ?hi39 (by kernel_rfl) (by kernel_rfl) (by kernel_rfl) ?hq39 ?hy39 (by assumption) ?hr39
          case hi39 => (simp only [List.getElem?_toArray, List.getElem?_cons_succ, List.getElem?_cons_zero]; exact rfl)
          case hq39 => exact fun _ _ _ h => h
          case hy39 => (refine Or.inl ⟨by rfl, ?_⟩; intro w hSw; (try dsimp only at hSw); go_simp; (try with_reducible rfl))
          try simp only [Act.put, List.setIfInBounds_toArray, List.set_cons_zero, List.set_cons_succ]
          refine wpAnyH_take (i := 7) (oi := ?o40) (v := ?v40) ?hi40 (by kernel_rfl) (by kernel_rfl) (by kernel_rfl) ?hq40 ?hy40 (by assumption) ?hr40
          case hi40 => (simp only [List.getElem?_toArray, List.getElem?_cons_succ, List.getElem?_cons_zero]; exact rfl)
          case hq40 => exact fun _ _ _ h => h
          case hy40 => (refine Or.inl ⟨by rfl, ?_⟩; intro w hSw; (try dsimp only at hSw); go_simp; (try with_reducible rfl))
          try simp only [Act.put, List.setIfInBounds_toArray, List.set_cons_zero, List.set_cons_succ]
          refine wpAnyH_take (i := 8) (oi := ?o41) (v := ?v41) ?hi41 (by kernel_rfl) (by kernel_rfl) (by kernel_rfl) ?hq41 ?hy41 (by assumption) ?hr41
          case hi41 => (simp only [List.getElem?_toArray, List.getElem?_cons_succ, List.getElem?_cons_zero]; exact rfl)
          case hq41 => exact fun _ _ _ h => h
          case hy41 => (refine Or.inl ⟨by rfl, ?_⟩; intro w hSw; (try dsimp only at hSw); go_simp; (try with_reducible rfl))
          try simp only [Act.put, List.setIfInBounds_toArray, List.set_cons_zero, List.set_cons_succ]
          refine wpAnyH_take (i := 9) (oi := ?o42) (v := ?v42) ?hi42 (by kernel_rfl) (by kernel_rfl) (by kernel_rfl) ?hq42 ?hy42 (by assumption) ?hr42
          case hi42 => (simp only [List.getElem?_toArray, List.getElem?_cons_succ, List.getElem?_cons_zero]; exact rfl)
          case hq42 => exact fun _ _ _ h => h
          case hy42 => (refine Or.inl ⟨by rfl, ?_⟩; intro w hSw; (try dsimp only at hSw); go_simp; (try with_reducible rfl))
          try simp only [Act.put, List.setIfInBounds_toArray, List.set_cons_zero, List.set_cons_succ]
          refine wpAnyH_ready (rs := [10]) (by kernel_rfl) (by simp) ?_
          refine AllReadyH.cons (o := ?o43) ?hi43 (fun K hK => ?hk43) ?hr43
          case hi43 => (simp only [List.getElem?_toArray, List.getElem?_cons_succ, List.getElem?_cons_zero]; exact rfl)
          case hr43 => exact AllReadyH.nil
          go_simp
          ((try go_at_call 40); refine (HC.out _ C2.out).mono ?_; rintro e w3 ⟨rfl, q3⟩; have B3 := Lib.hid (HB.out.trans (q3.mono hsz)); refine hK _ _ (by refine ⟨⟨⟨?_, ?_, ?_⟩, ⟨?_, ?_, ?_⟩⟩, ?_, ?_⟩ <;> first | exact (q3.cell (by assumption)).trans (by assumption)) (fun hHeld2 => ?_))
          clear hK K
          try simp only [Act.put, List.setIfInBounds_toArray, List.set_cons_zero, List.set_cons_succ]
          refine wpAnyH_take (i := 11) (oi := ?o44) (v := ?v44) ?hi44 (by kernel_rfl) (by kernel_rfl) (by kernel_rfl) ?hq44 ?hy44 (by assumption) ?hr44
          case hi44 => (simp only [List.getElem?_toArray, List.getElem?_cons_succ, List.getElem?_cons_zero]; exact rfl)
          case hq44 => exact fun _ _ _ h => h
          case hy44 => (refine Or.inl ⟨by rfl, ?_⟩; intro w hSw; (try dsimp only at hSw); go_simp; (try with_reducible rfl))
          try simp only [Act.put, List.setIfInBounds_toArray, List.set_cons_zero, List.set_cons_succ]
          refine wpAnyH_done (by kernel_rfl) ?_ _
          cases b1'
          · have hf := Lib.hid (HN.out rfl)
            have hb2 := (hk3.out _ B3.out).2.2.2.2.2
            go_wp2
            go_ret
            exact ⟨ret_b hf.out.symm, hb2⟩
          · have hall' : Hid (∀ j (h1 : j < xm.length) (h2 : j < ym.length), j < k + 1 → xm[j] = ym[j]) := by
              show ∀ j, _
              intro j h1 h2 hj
              by_cases e : j = k
              · subst e; exact HE.out (by simp)
              · exact hall.out j h1 h2 (by omega)
            go_wp2
            go_roundg (xm.length - (k + 1))
            case measure => have := HG.out; omega
            case rel => exact ⟨k + 1, by omega, rfl, by go_num, B3.out, hall'⟩
        · have hf : Hid (r = true) := HY.out HT.out (List.ext_getElem HL2.out fun j h1 h2 => hall.out j h1 h2 (by omega))
          go_wp2
          go_ret
          exact ⟨ret_b hf.out.symm, hbw⟩
end Go.Proofs.YtjajcecenflejaaGreat
