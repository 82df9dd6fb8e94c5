/- YtjajcecenflejaaGreatCz26 -/
import Derived.Test.YtjajcecenflejaaGreatCz25
import Derived.Test.YtjajcecenflejaaGreatCz23
namespace Go.Proofs.YtjajcecenflejaaGreat
open Go.RowKit
set_option maxRecDepth 100000 in
set_option maxHeartbeats 4000000 in
theorem kSteps_any (va vb : Value) (l m : List St) (S S' : Nat → Prop) (w : World) (hl : Ls w S va l) (hm : Ls w S' vb m) :
    Calls Tryz.prog 12 #[va, vb] w fun e w' => e = .returned (.bool (tf (l = m))) ∧ Below w.heap.size w w' := by
  obtain ⟨Al, cl, rfl⟩ := hl.form
  obtain ⟨Am, cm, rfl⟩ := hm.form
  have hml := hl.max
  have hmm := hm.max
  unfold maxLen at hml hmm
  by_cases hlen : l.length = m.length
  · have hlen' : ((l.length : Int) != (m.length : Int)) = false := by simp; omega
    have HL := Lib.hid hlen
    clear hlen
    go_enter Tryz.func12, Tryz.ntmps12
    go_wp2
    go_loopw [5] (fun i wr => ∃ k : Nat, k ≤ l.length ∧ i = .int .i64 k ∧ Below w.heap.size w wr ∧ Hid (∀ j (h1 : j < l.length) (h2 : j < m.length), j < k → l[j] = m[j])) (fun i _ => l.length - (intOf i).toNat)
    case atStart => exact ⟨0, Nat.zero_le _, rfl, Below.refl _ _, fun j _ _ hj => by omega⟩
    case round =>
      obtain ⟨k, hk, rfl, hb, hall⟩ := hrel
      have hsz := hb.size
      by_cases hlt : k < l.length
      · have hltm : k < m.length := by have := HL.out; omega
        obtain ⟨bl, offl, v6, v8, rfl, ⟨_, hbl⟩, hcll, a0, a1, a2, a3, a4, a5, a6, a7, a8, a9, a10, r6, r8⟩ := at_st (hl.under hb) hlt
        obtain ⟨bm, offm, u6, u8, rfl, ⟨_, hbm⟩, hcmm, b0, b1, b2, b3, b4, b5, b6, b7, b8, b9, b10, s6, s8⟩ := at_st (hm.under hb) hltm
        have hi1 : (k : Int) < (l.length : Int) := by omega
        have hi2 : (k : Int) < (m.length : Int) := by omega
        have hi0 : (0 : Int) ≤ (k : Int) := by omega
        have HC : Hid (∀ w', Below wr.heap.size wr w' → Calls Tryz.prog 27 #[stV l[k] v6 v8, stV m[k] u6 u8] w' fun e w'' => e = .returned (.bool (tf (l[k] = m[k]))) ∧ Below wr.heap.size wr w'') := fun w' h =>
          (kStep_any _ _ l[k] m[k] S S' w' ⟨v6, v8, rfl, r6.under h, r8.under h⟩ ⟨u6, u8, rfl, s6.under h, s8.under h⟩).mono fun e w'' ⟨he, hb⟩ => ⟨he, h.trans (hb.mono h.size)⟩
        obtain ⟨A1, c1, rfl⟩ := r6.form
        obtain ⟨A2, c2, rfl⟩ := r8.form
        obtain ⟨A4, c4, rfl⟩ := s6.form
        obtain ⟨A5, c5, rfl⟩ := s8.form
        have C2 := Lib.hid ((Below.refl wr.heap.size wr).drew)
        obtain ⟨b1', H1⟩ : ∃ b, Hid (b = tf (l[k] = m[k])) := ⟨_, Lib.hid rfl⟩
        rw [← H1.out] at HC
        have HE : Hid (b1' = true → l[k] = m[k]) := fun e1 => tf_iff.1 (H1.out ▸ e1)
        have HN : Hid (b1' = false → tf (l = m) = false) := fun e => same_no hlt hltm fun h => by rw [tf_yes h] at H1; rw [H1.out] at e; cases e
        clear r6 r8 s6 s8 H1
        unfold stV at HC
        generalize l[k].k = xk at *
        generalize l[k].f = xf at *
        generalize l[k].t = xt at *
        generalize l[k].g = xg at *
        generalize l[k].e = xe at *
        generalize l[k].i = xi at *
        generalize l[k].mid.length = xmid at *
        generalize l[k].m.t = xmt at *
        generalize l[k].m.a.length = xma at *
        generalize l[k].n = xn at *
        generalize l[k].v = xv at *
        generalize m[k].k = yk at *
        generalize m[k].f = yf at *
        generalize m[k].t = yt at *
        generalize m[k].g = yg at *
        generalize m[k].e = ye at *
        generalize m[k].i = yi at *
        generalize m[k].mid.length = ymid at *
        generalize m[k].m.t = ymt at *
        generalize m[k].m.a.length = yma at *
        generalize m[k].n = yn at *
        generalize m[k].v = yv at *
        go_wp2
        refine wp_region_held_drew (S := (fun w' => (w'.cell? ⟨bl, offl + k * 11, none⟩ = some (.int .i64 xk) ∧ w'.cell? ⟨bl, offl + k * 11 + 1, none⟩ = some (.int .i64 xf) ∧ w'.cell? ⟨bl, offl + k * 11 + 1 + 1, none⟩ = some (.int .i64 xt) ∧ w'.cell? ⟨bl, offl + k * 11 + 1 + 1 + 1, none⟩ = some (.int .i64 xg) ∧ w'.cell? ⟨bl, offl + k * 11 + 1 + 1 + 1 + 1, none⟩ = some (.int .i64 xe) ∧ w'.cell? ⟨bl, offl + k * 11 + 1 + 1 + 1 + 1 + 1, none⟩ = some (.int .i64 xi) ∧ w'.cell? ⟨bl, offl + k * 11 + 1 + 1 + 1 + 1 + 1 + 1, none⟩ = some (.slice A1 xmid c1) ∧ w'.cell? ⟨bl, offl + k * 11 + 1 + 1 + 1 + 1 + 1 + 1 + 1, none⟩ = some (.string xmt) ∧ w'.cell? ⟨bl, offl + k * 11 + 1 + 1 + 1 + 1 + 1 + 1 + 1 + 1, none⟩ = some (.slice A2 xma c2) ∧ w'.cell? ⟨bl, offl + k * 11 + 1 + 1 + 1 + 1 + 1 + 1 + 1 + 1 + 1, none⟩ = some (.string xn) ∧ w'.cell? ⟨bl, offl + k * 11 + 1 + 1 + 1 + 1 + 1 + 1 + 1 + 1 + 1 + 1, none⟩ = some (.string xv)) ∧ (w'.cell? ⟨bm, offm + k * 11, none⟩ = some (.int .i64 yk) ∧ w'.cell? ⟨bm, offm + k * 11 + 1, none⟩ = some (.int .i64 yf) ∧ w'.cell? ⟨bm, offm + k * 11 + 1 + 1, none⟩ = some (.int .i64 yt) ∧ w'.cell? ⟨bm, offm + k * 11 + 1 + 1 + 1, none⟩ = some (.int .i64 yg) ∧ w'.cell? ⟨bm, offm + k * 11 + 1 + 1 + 1 + 1, none⟩ = some (.int .i64 ye) ∧ w'.cell? ⟨bm, offm + k * 11 + 1 + 1 + 1 + 1 + 1, none⟩ = some (.int .i64 yi) ∧ w'.cell? ⟨bm, offm + k * 11 + 1 + 1 + 1 + 1 + 1 + 1, none⟩ = some (.slice A4 ymid c4) ∧ w'.cell? ⟨bm, offm + k * 11 + 1 + 1 + 1 + 1 + 1 + 1 + 1, none⟩ = some (.string ymt) ∧ w'.cell? ⟨bm, offm + k * 11 + 1 + 1 + 1 + 1 + 1 + 1 + 1 + 1, none⟩ = some (.slice A5 yma c5) ∧ w'.cell? ⟨bm, offm + k * 11 + 1 + 1 + 1 + 1 + 1 + 1 + 1 + 1 + 1, none⟩ = some (.string yn) ∧ w'.cell? ⟨bm, offm + k * 11 + 1 + 1 + 1 + 1 + 1 + 1 + 1 + 1 + 1 + 1, none⟩ = some (.string yv)))) (by kernel_rfl) ⟨⟨a0, a1, a2, a3, a4, a5, a6, a7, a8, a9, a10⟩, ⟨b0, b1, b2, b3, b4, b5, b6, b7, b8, b9, b10⟩⟩ (fun hHeld => ?_)
        refine wpAnyH_take (i := 0) (oi := ?o11) (v := ?v11) ?hi11 (by kernel_rfl) (by kernel_rfl) (by kernel_rfl) ?hq11 ?hy11 (by assumption) ?hr11
        case hi11 => (simp only [List.getElem?_toArray, List.getElem?_cons_zero]; exact rfl)
        case hq11 => exact fun _ _ _ h => h
        case hy11 => (refine Or.inl ⟨by rfl, ?_⟩; intro w hSw; (try dsimp only at hSw); go_simp; (try with_reducible rfl))
        try simp only [Act.put, List.setIfInBounds_toArray, List.set_cons_zero, List.set_cons_succ]
        refine wpAnyH_take (i := 1) (oi := ?o12) (v := ?v12) ?hi12 (by kernel_rfl) (by kernel_rfl) (by kernel_rfl) ?hq12 ?hy12 (by assumption) ?hr12
        case hi12 => (simp only [List.getElem?_toArray, List.getElem?_cons_succ, List.getElem?_cons_zero]; exact rfl)
        case hq12 => exact fun _ _ _ h => h
        case hy12 => (refine Or.inl ⟨by rfl, ?_⟩; intro w hSw; (try dsimp only at hSw); go_simp; (try with_reducible rfl))
        try simp only [Act.put, List.setIfInBounds_toArray, List.set_cons_zero, List.set_cons_succ]
        refine wpAnyH_take (i := 2) (oi := ?o13) (v := ?v13) ?hi13 (by kernel_rfl) (by kernel_rfl) (by kernel_rfl) ?hq13 ?hy13 (by assumption) ?hr13
        case hi13 => (simp only [List.getElem?_toArray, List.getElem?_cons_succ, List.getElem?_cons_zero]; exact rfl)
        case hq13 => exact fun _ _ _ h => h
        case hy13 => (refine Or.inl ⟨by rfl, ?_⟩; intro w hSw; (try dsimp only at hSw); go_simp; (try with_reducible rfl))
        try simp only [Act.put, List.setIfInBounds_toArray, List.set_cons_zero, List.set_cons_succ]
        refine wpAnyH_take (i := 3) (oi := ?o14) (v := ?v14) ?hi14 (by kernel_rfl) (by kernel_rfl) (by kernel_rfl) ?hq14 ?hy14 (by assumption) ?hr14
        case hi14 => (simp only [List.getElem?_toArray, List.getElem?_cons_succ, List.getElem?_cons_zero]; exact rfl)
        case hq14 => exact fun _ _ _ h => h
        case hy14 => (refine Or.inl ⟨by rfl, ?_⟩; intro w hSw; (try dsimp only at hSw); go_simp; (try with_reducible rfl))
        try simp only [Act.put, List.setIfInBounds_toArray, List.set_cons_zero, List.set_cons_succ]
        refine wpAnyH_take (i := 4) (oi := ?o15) (v := ?v15) ?hi15 (by kernel_rfl) (by kernel_rfl) (by kernel_rfl) ?hq15 ?hy15 (by assumption) ?hr15
        case hi15 => (simp only [List.getElem?_toArray, List.getElem?_cons_succ, List.getElem?_cons_zero]; exact rfl)
        case hq15 => exact fun _ _ _ h => h
        case hy15 => (refine Or.inl ⟨by rfl, ?_⟩; intro w hSw; (try dsimp only at hSw); go_simp; (try with_reducible rfl))
        try simp only [Act.put, List.setIfInBounds_toArray, List.set_cons_zero, List.set_cons_succ]
        refine wpAnyH_take (i := 5) (oi := ?o16) (v := ?v16) ?hi16 (by kernel_rfl) (by kernel_rfl) (by kernel_rfl) ?hq16 ?hy16 (by assumption) ?hr16
        case hi16 => (simp only [List.getElem?_toArray, List.getElem?_cons_succ, List.getElem?_cons_zero]; exact rfl)
        case hq16 => exact fun _ _ _ h => h
        case hy16 => (refine Or.inl ⟨by rfl, ?_⟩; intro w hSw; (try dsimp only at hSw); go_simp; (try with_reducible rfl))
        try simp only [Act.put, List.setIfInBounds_toArray, List.set_cons_zero, List.set_cons_succ]
        refine wpAnyH_take (i := 6) (oi := ?o17) (v := ?v17) ?hi17 (by kernel_rfl) (by kernel_rfl) (by kernel_rfl) ?hq17 ?hy17 (by assumption) ?hr17
        case hi17 => (simp only [List.getElem?_toArray, List.getElem?_cons_succ, List.getElem?_cons_zero]; exact rfl)
        case hq17 => exact fun _ _ _ h => h
        case hy17 => (refine Or.inl ⟨by rfl, ?_⟩; intro w hSw; (try dsimp only at hSw); go_simp; (try with_reducible rfl))
        try simp only [Act.put, List.setIfInBounds_toArray, List.set_cons_zero, List.set_cons_succ]
        refine wpAnyH_take (i := 7) (oi := ?o18) (v := ?v18) ?hi18 (by kernel_rfl) (by kernel_rfl) (by kernel_rfl) ?hq18 ?hy18 (by assumption) ?hr18
        case hi18 => (simp only [List.getElem?_toArray, List.getElem?_cons_succ, List.getElem?_cons_zero]; exact rfl)
        case hq18 => exact fun _ _ _ h => h
        case hy18 => (refine Or.inl ⟨by rfl, ?_⟩; intro w hSw; (try dsimp only at hSw); go_simp; (try with_reducible rfl))
        try simp only [Act.put, List.setIfInBounds_toArray, List.set_cons_zero, List.set_cons_succ]
        refine wpAnyH_ready (rs := [8]) (by kernel_rfl) (by simp) ?_
        refine AllReadyH.cons (o := ?o19) ?hi19 (fun K hK => ?hk19) ?hr19
        case hi19 => (simp only [List.getElem?_toArray, List.getElem?_cons_succ, List.getElem?_cons_zero]; exact rfl)
        case hr19 => exact AllReadyH.nil
        go_simp
        ((try go_at_call 27); refine (HC.out _ C2.out).mono ?_; rintro e w3 ⟨rfl, q3⟩; have B3 := Lib.hid (hb.trans (q3.mono hsz)); refine hK _ _ (by refine ⟨⟨?_, ?_, ?_, ?_, ?_, ?_, ?_, ?_, ?_, ?_, ?_⟩, ⟨?_, ?_, ?_, ?_, ?_, ?_, ?_, ?_, ?_, ?_, ?_⟩⟩ <;> first | exact (q3.cell (by assumption)).trans (by assumption)) (fun hHeld2 => ?_))
        clear hK K
        try simp only [Act.put, List.setIfInBounds_toArray, List.set_cons_zero, List.set_cons_succ]
        refine wpAnyH_take (i := 9) (oi := ?o20) (v := ?v20) ?hi20 (by kernel_rfl) (by kernel_rfl) (by kernel_rfl) ?hq20 ?hy20 (by assumption) ?hr20
        case hi20 => (simp only [List.getElem?_toArray, List.getElem?_cons_succ, List.getElem?_cons_zero]; exact rfl)
        case hq20 => exact fun _ _ _ h => h
        case hy20 => (refine Or.inl ⟨by rfl, ?_⟩; intro w hSw; (try dsimp only at hSw); go_simp; (try with_reducible rfl))
        try simp only [Act.put, List.setIfInBounds_toArray, List.set_cons_zero, List.set_cons_succ]
        refine wpAnyH_done (by kernel_rfl) ?_ _
        cases b1'
        · have hf := Lib.hid (HN.out rfl)
          go_wp2
          go_ret
          exact ⟨ret_b hf.out.symm, B3.out⟩
        · have hall' : Hid (∀ j (h1 : j < l.length) (h2 : j < m.length), j < k + 1 → l[j] = m[j]) := by
            show ∀ j, _
            intro j h1 h2 hj
            by_cases e : j = k
            · subst e; exact HE.out (by simp)
            · exact hall.out j h1 h2 (by omega)
          go_wp2
          go_roundw
          case rel => exact ⟨k + 1, by omega, by go_num, B3.out, hall'⟩
          case measure => simp [intOf]; omega
      · have hf : Hid (tf (l = m) = true) := same_yes HL.out fun k h1 h2 => hall.out k h1 h2 (by omega)
        go_wp2
        go_ret
        exact ⟨ret_b hf.out.symm, hb⟩
  · have hf : Hid (tf (l = m) = false) := same_len hlen
    have hlen' : ((l.length : Int) != (m.length : Int)) = true := by rw [bne_iff_ne]; omega
    clear hlen
    go_enter Tryz.func12, Tryz.ntmps12
    go_wp2
    go_ret
    exact ⟨ret_b hf.out.symm, Below.refl _ _⟩
end Go.Proofs.YtjajcecenflejaaGreat
namespace Go.Proofs.YtjajcecenflejaaGreat
open Go.ChangeShapes Go.WideShapes Go.ChangeAt Go.RowKit Go.Deep
theorem tls_nil {W : World} : ∀ {cs : List Value}, Tls W cs [] → cs = []
  | [], _ => rfl
  | _ :: _, h => h.elim
theorem tls_cons {W : World} {d : Dt} {ds : List Dt} : ∀ {cs : List Value}, Tls W cs (d :: ds) → ∃ c cs', cs = c :: cs' ∧ (Lies W (fun _ => True) c d ∧ FineD d) ∧ Tls W cs' ds
  | [], h => h.elim
  | c :: cs, h => ⟨c, cs, rfl, h.1, h.2⟩
theorem arr_eq {α : Type} {a : Array α} {l : List α} (h : a.toList = l) : a = l.toArray := by rw [← h]
section
variable {H : Type} {enc : TypeId × Value → H} {W : World} {base B : Nat} {sp : Nat → Bool} {hd : Bool} {v : Value} {d : DataW H} {ps : List MemPlace} {r : Go.Reach}
set_option maxRecDepth 100000 in
theorem arg_ndU (hval : Value.okWide Tryz.prog W r B 26 v) (h : DataW.Trod enc Tryz.prog W base sp hd 26 v d ps) (hw : Rows.uptoBulk d ≤ 1048576) :
    ∃ n : Nd, IsNd W (fun _ => True) v n ∧ Hid (fineL (Cl.c n)) ∧ dbkL (Cl.c n) ≤ Rows.uptoBulk d := by
  obtain ⟨cs, rfl, _⟩ := okWide_struct (show Tryz.prog.underlying 26 = some (.struct (Tryz.prog.fieldsOf 26)) by kernel_rfl) hval
  obtain ⟨fuel, hf⟩ := h
  obtain ⟨n, hn, hbk⟩ := rdu_nd fuel fuel (Nat.le_refl _) _ _ hf hw
  refine ⟨n, ?_, hn.fine, hbk⟩
  have h1 : Tls W cs.toList (Nd.c n) := hn
  rw [Nd.c_eq] at h1
  obtain ⟨c0, k0, e0, ⟨r0, _⟩, h1⟩ := tls_cons h1
  obtain ⟨c1, k1, e1, ⟨r1, _⟩, h1⟩ := tls_cons h1
  obtain ⟨c2, k2, e2, ⟨r2, _⟩, h1⟩ := tls_cons h1
  obtain ⟨c3, k3, e3, ⟨r3, _⟩, h1⟩ := tls_cons h1
  obtain ⟨c4, k4, e4, ⟨r4, _⟩, h1⟩ := tls_cons h1
  have e5 := tls_nil h1
  subst e5 e4 e3 e2 e1
  rw [arr_eq e0]
  obtain rfl := r0.val
  obtain rfl := r3.val
  exact ⟨_, _, _, rfl, r1, r2, r4⟩
set_option maxRecDepth 100000 in
theorem arg_scU (hval : Value.okWide Tryz.prog W r B 31 v) (h : DataW.Trod enc Tryz.prog W base sp hd 31 v d ps) (hw : Rows.uptoBulk d ≤ 1048576) :
    ∃ s : Sc, IsSc W (fun _ => True) v s ∧ Hid (fineL (Cl.c s)) ∧ dbkL (Cl.c s) ≤ Rows.uptoBulk d := by
  obtain ⟨cs, rfl, _⟩ := okWide_struct (show Tryz.prog.underlying 31 = some (.struct (Tryz.prog.fieldsOf 31)) by kernel_rfl) hval
  obtain ⟨fuel, hf⟩ := h
  obtain ⟨n, hn, hbk⟩ := rdu_sc fuel fuel (Nat.le_refl _) _ _ hf hw
  refine ⟨n, ?_, hn.fine, hbk⟩
  have h1 : Tls W cs.toList [lD n.t, lD n.m] := hn
  obtain ⟨c0, k0, e0, ⟨r0, _⟩, h1⟩ := tls_cons h1
  obtain ⟨c1, k1, e1, ⟨r1, _⟩, h1⟩ := tls_cons h1
  have e5 := tls_nil h1
  subst e5 e1
  rw [arr_eq e0]
  exact ⟨_, _, rfl, r0, r1⟩
set_option maxRecDepth 100000 in
theorem arg_lsU {T : Type} [Cl T] {t e : TypeId} (ht : Tryz.prog.underlying t = some (.slice e)) (R : ∀ n, Rdu enc Tryz.prog W base sp hd n t fun cs b => ∃ l : List T, Tls W cs [lD l] ∧ dbkL [lD l] ≤ b)
    (hval : Value.okWide Tryz.prog W r B t v) (h : DataW.Trod enc Tryz.prog W base sp hd t v d ps) (hw : Rows.uptoBulk d ≤ 1048576) : ∃ l : List T, Ls W (fun _ => True) v l ∧ Hid (FineD (lD l)) ∧ dbkL [lD l] ≤ Rows.uptoBulk d := by
  obtain ⟨a, len, cap, rfl⟩ := okWide_slice ht hval
  obtain ⟨fuel, hf⟩ := h
  obtain ⟨l, hl, hbk⟩ := R fuel fuel (Nat.le_refl _) _ _ hf hw
  exact ⟨l, hl.1.1, hl.1.2, hbk⟩
end
end Go.Proofs.YtjajcecenflejaaGreat
