/- YtjajcecenflejaaGreatCz16 -/
import Derived.Test.YtjajcecenflejaaGreatCz15
namespace Go.Proofs.YtjajcecenflejaaGreat
open Go.RowKit
theorem info_tk : (Tryz.prog.info? 57).map (fun i => (i.zero, i.size, i.bytes)) = some (some (.agg #[.int .i64 0, .string .empty, .slice none 0 0, .slice none 0 0, .int .u8 0]), 5, 80) := by kernel_rfl
set_option maxRecDepth 100000 in
set_option maxHeartbeats 2000000 in
theorem rl_tk (w : World) (B g q : Nat) (s : RS) (d : Int) (h : Rr w B g q s d) :
    Calls Tryz.prog 81 #[.pointer (some ⟨g, 0, none⟩), .func (.func 82) #[] #[]] w (RlT B g q w (rL rTk s) d) := by
  have hN := rU_le 65536 3 s
  have HL : Hid (rL rTk s = rLoop rTk (rU 65536 3 s).1 [] (rU 65536 3 s).2) := rfl
  have HU := Lib.hid (upTo_any w B g q s d h 65536 3 (by decide))
  obtain ⟨⟨N, s1⟩, hr⟩ : ∃ x, x = rU 65536 3 s := ⟨_, rfl⟩
  rw [← hr] at hN HL HU
  clear hr
  simp only at hN
  obtain ⟨R, hR⟩ : ∃ x, Hid (x = rL rTk s) := ⟨_, Lib.hid rfl⟩
  rw [← hR.out]
  have HR : Hid (R = rLoop rTk N [] s1) := hR.out.trans HL.out
  have hlo := Lib.hid h.lo
  have hbs := h.base
  clear hR HL h
  go_enter Tryz.func81, Tryz.ntmps81
  go_wp2_with fail
  refine HU.out.mono ?_
  rintro e w1 ⟨rfl, h1, f1⟩
  have H1 := Lib.hid h1
  have F1 := Lib.hid f1
  clear h1 f1 HU
  go_wp2
  go_loopg [5, 8] N (fun n s5 s8 wk => ∃ (k : Nat) (v5 : Value) (acc : List Tk) (st : RS), k ≤ N ∧ n = N - k ∧ s5 = v5 ∧ s8 = .int .i64 k ∧ Hid (Rw wk w.heap.size 57 v5 k acc) ∧ Hid (Rr wk B g q st d) ∧ Hid (Fr (gq g q) (gq g q) w wk) ∧ Hid (R = rLoop rTk (N - k) acc st))
  case atStart => exact ⟨0, _, [], s1, Nat.zero_le _, by omega, rfl, rfl, Rw.none _ _ _, H1.out, F1.out, HR.out⟩
  case round =>
    obtain ⟨k, v5, acc, st, hk, hn, h5, rfl, hrw, hrr, hfr, hres⟩ := hrel
    have h5 := h5.symm
    subst h5
    have HG := Lib.hid hn
    clear hn HR H1 F1
    by_cases hlt : k < N
    · have hi1 : (k : Int) < (N : Int) := by omega
      obtain ⟨m, hm⟩ : ∃ m, Hid (N - k = m + 1) := ⟨N - k - 1, by show _ = _; omega⟩
      have hm2 : Hid (N - (k + 1) = m) := by show _ = _; have := hm.out; omega
      go_wp2_with fail
      refine (well_any wr B g q st d hrr.out).mono ?_
      rintro e w' ⟨rfl, rfl⟩
      by_cases hw : st.n = 0 ∧ st.f = 0
      · have hwt : decide (st.n = 0 ∧ st.f = 0) = true := by simpa using hw
        have hnext : Hid (R = rLoop rTk m (acc ++ [(rTk st).1]) (rTk st).2) := by show _ = _; rw [hres.out, hm.out, rLoop, if_pos hw]
        rw [hwt]
        clear hres hw hwt
        obtain ⟨⟨y, st2⟩, hy⟩ : ∃ x, x = rTk st := ⟨_, rfl⟩
        have HE := rtoken_any wr B g q st d hrr.out
        unfold RtokenT at HE; rw [← hy] at hnext HE
        have HE := Lib.hid HE
        clear hy
        go_wp2_with fail
        refine HE.out.mono ?_
        rintro e w2 ⟨va, vm, rfl, rva, rvm, hr1, hf1⟩
        try dsimp only at hr1 rva rvm
        obtain ⟨Ava, cva, rfl⟩ := rva.form
        obtain ⟨Avm, cvm, rfl⟩ := rvm.form
        have hce : Hid (Cs w2 (fun x => wr.heap.size ≤ x) [.int .i64 y.k, .string y.t, .slice Ava y.a.length cva, .slice Avm y.m.length cvm, .int .u8 y.c] (Cl.c y)) := by show Cs _ _ _ _; exact Cs.cons (.v _ rfl) (Cs.cons (.v _ rfl) (Cs.cons rva (Cs.cons rvm (Cs.cons (.v _ rfl) (Cs.nil)))))
        have hrw2 := hrw.out.fr hf1 fun x hx => Nat.lt_of_lt_of_le (hlo.out x hx) hbs
        have hle : w.heap.size ≤ wr.heap.size := hfr.out.size
        have hle2 : wr.heap.size ≤ w2.heap.size := hf1.size
        have HR2 := Lib.hid hr1
        have HF2 := Lib.hid (hfr.out.trans hf1)
        obtain ⟨cs, ho, hcc⟩ := hrw2.ex
        have hvlt : ∀ x, v5.ownBlock = some x → x < wr.heap.size := fun x hx => by
          obtain ⟨cs', ho', _⟩ := hrw.out.ex
          exact (World.ownsRow.lt ho' x hx).2
        have HV := Lib.hid hvlt
        have HRW := Lib.hid hrw2
        have HCC := Lib.hid hcc
        have HO := Lib.hid ho
        clear hr1 hf1 hrr hfr hrw hrw2 hcc hvlt ho HE rva rvm
        go_wp2_with (at_builtin; refine wpList_appR _ rfl _ _ 58 57 rfl _ 5 80 Tryz.underlying58 info_tk rfl (by decide) w.heap.size rfl rfl (World.ownsRow.alloc HO.out _) (Rd.lit w2 57 5 1 #[.int .i64 y.k, .string y.t, .slice Ava y.a.length cva, .slice Avm y.m.length cvm, .int .u8 y.c] (0, 0) rfl (by omega)) (by simp [Value.oneCell']) ?_ ?_ ?_ ?_)
        · unfold maxLen; omega
        · omega
        · simp; omega
        intro v' w4 ho4 hg4 hat
        have hal : Below w2.heap.size w2 (w2.alloc (.cells #[.int .i64 y.k, .string y.t, .slice Ava y.a.length cva, .slice Avm y.m.length cvm, .int .u8 y.c] 57)) := (Below.refl _ _).alloc (Nat.le_refl _) _
        have H4 : Hid (Rw w4 w.heap.size 57 v' (k + 1) (acc ++ [y])) := by
          refine Rw.more (w := w2.alloc (.cells #[.int .i64 y.k, .string y.t, .slice Ava y.a.length cva, .slice Avm y.m.length cvm, .int .u8 y.c] 57)) (N := wr.heap.size) (HRW.out.all hal) (hce.out.keep (.below hal)) HV.out hle (HCC.out.keep (.below hal)) (by show World.ownsRow w4 w.heap.size _ 5 _ _ _; simpa using ho4) hg4 (by simpa using hat)
        have R4 : Hid (Rr w4 B g q st2 d) := (HR2.out.all hal).grown hg4 fun x hx => Nat.le_trans hbs (World.ownsRow.lt HO.out x hx).1
        have F4 : Hid (Fr (gq g q) (gq g q) w w4) := (HF2.out.alloc _).grown hg4 fun x hx => .inr (World.ownsRow.lt HO.out x hx).1
        clear ho4 hg4 hat HRW HCC HR2 HF2 HO hal HV hce
        go_wp2
        go_roundg (N - (k + 1))
        case measure => have := HG.out; omega
        case rel => exact ⟨k + 1, v', acc ++ [y], st2, by omega, rfl, rfl, by go_num, H4, R4, F4, by show _ = _; rw [hm2.out]; exact hnext.out⟩
      · have hwt : decide (st.n = 0 ∧ st.f = 0) = false := by simpa using hw
        have hend : Hid (R = ([], st)) := by show _ = _; rw [hres.out, hm.out, rLoop, if_neg hw]
        rw [hwt]
        clear hres hw hwt
        go_wp2
        go_ret
        exact ⟨_, rfl, by rw [hend.out]; exact Ls.nil _ _, by rw [hend.out]; exact hrr.out, hfr.out⟩
    · have hi1 : ¬ (k : Int) < (N : Int) := by omega
      have hend : Hid (R = (acc, st)) := by show _ = _; rw [hres.out, show N - k = 0 by omega, rLoop]
      go_wp2
      go_ret
      exact ⟨_, rfl, by rw [hend.out]; exact hrw.out.ls, by rw [hend.out]; exact hrr.out, hfr.out⟩
def RstepT (B g q : Nat) (w : World) (s : RS) (d : Int) (e : Ending) (w' : World) : Prop := ∃ vd va : Value, e = .returned (.agg #[.int .i64 (rSt s).1.k, .int .i64 (rSt s).1.f, .int .i64 (rSt s).1.t, .int .i64 (rSt s).1.g, .int .i64 (rSt s).1.e, .int .i64 (rSt s).1.i, vd, .string (rSt s).1.m.t, va, .string (rSt s).1.n, .string (rSt s).1.v]) ∧ Ls w' (fun k => w.heap.size ≤ k) vd (rSt s).1.mid ∧ Ls w' (fun k => w.heap.size ≤ k) va (rSt s).1.m.a ∧ Rr w' B g q (rSt s).2 d ∧ Fr (gq g q) (gq g q) w w'
set_option maxRecDepth 100000 in
set_option maxHeartbeats 4000000 in
theorem rstep_1 (w : World) (B g q : Nat) (s : RS) (d : Int) (h : Rr w B g q s d) (s1 : RS) (e1 : Hid ((1, s1) = rK 6 s)) : Calls Tryz.prog 44 #[.pointer (some ⟨g, 0, none⟩)] w (RstepT B g q w s d) := by
  obtain ⟨⟨y2, s2⟩, e2⟩ : ∃ x, Hid (x = rI s1) := ⟨_, Lib.hid rfl⟩
  obtain ⟨⟨y3, s3⟩, e3⟩ : ∃ x, Hid (x = rI s2) := ⟨_, Lib.hid rfl⟩
  obtain ⟨⟨y4, s4⟩, e4⟩ : ∃ x, Hid (x = rL rTk s3) := ⟨_, Lib.hid rfl⟩
  have qB : rStB 1 y2 = rS2 (fun t d => ⟨(1 : Nat), y2, t, 0, 0, 0, d, noM, .empty, .empty⟩) rI (rL rTk) := by unfold rStB; rw [if_pos (by decide)]
  have hR : Hid (rSt s = (⟨1, y2, y3, 0, 0, 0, y4, noM, .empty, .empty⟩, s4)) := by show _ = _; simp only [rSt, ← e1.out, ← e2.out, qB, rS2, ← e3.out, ← e4.out]; rfl
  have hlo := Lib.hid h.lo
  have hbs := h.base
  obtain ⟨x0, hx0⟩ : ∃ x0, Hid (x0 = w.heap.size) := ⟨_, Lib.hid rfl⟩
  obtain ⟨W0, hW0⟩ : ∃ x, Hid (x = w.alloc (.cells #[.int .i64 0, .int .i64 0, .int .i64 0, .int .i64 0, .int .i64 0, .int .i64 0, .slice none 0 0, .string ⟨#[]⟩, .slice none 0 0, .string ⟨#[]⟩, .string ⟨#[]⟩] 62)) := ⟨_, Lib.hid rfl⟩
  have H0 : Hid (Rr W0 B g q s d) := by show Rr _ _ _ _ _ _; rw [hW0.out]; exact h.alloc _
  have B0 : Hid (Fr (gq g q) (gq g q) w W0) := by show Fr _ _ _ _; rw [hW0.out]; exact (Fr.refl h.own).alloc _
  have K0 : Hid (Bk W0 x0 62 #[.int .i64 0, .int .i64 0, .int .i64 0, .int .i64 0, .int .i64 0, .int .i64 0, .slice none 0 0, .string ⟨#[]⟩, .slice none 0 0, .string ⟨#[]⟩, .string ⟨#[]⟩]) := by show Bk _ _ _ _; rw [hW0.out, hx0.out]; exact Bk.new _ _ _
  have hn0 : ¬ gq g q x0 := fun hh => by have := hlo.out _ hh; have := hx0.out; omega
  have hxB : B ≤ x0 := by rw [hx0.out]; exact hbs
  have hxw : w.heap.size ≤ x0 := by rw [hx0.out]; exact Nat.le_refl _
  clear h
  go_enter Tryz.func44, Tryz.ntmps44
  go_wp2_with fail
  rw [← hW0.out, ← hx0.out]
  have KK := kind_any W0 B g q s d H0.out 6 (by decide)
  rw [← e1.out] at KK
  refine KK.mono ?_
  clear KK
  rintro e W1 ⟨rfl, h1, f1⟩
  try dsimp only at h1 ⊢
  have B1 := Lib.hid (B0.out.trans f1)
  have K1 := Lib.hid (bk_fr K0.out f1 hn0)
  have H1 := Lib.hid h1
  have z1 := f1.size
  clear h1 f1
  have p1 := rr_cell0 H1.out
  go_wp2_with fail
  have KK := number_r W1 B g q s1 d H1.out
  rw [← e2.out] at KK
  refine KK.mono ?_
  clear KK
  rintro e W2 ⟨rfl, h2, f2⟩
  try dsimp only at h2 ⊢
  have B2 := Lib.hid (B1.out.trans f2)
  have K2 := Lib.hid (bk_fr K1.out f2 hn0)
  have H2 := Lib.hid h2
  have z2 := f2.size
  clear h2 f2
  have p2 := rr_cell0 H2.out
  obtain ⟨x1, hx1⟩ : ∃ x1, Hid (x1 = W2.heap.size) := ⟨_, Lib.hid rfl⟩
  obtain ⟨W2v, hW2v⟩ : ∃ x, Hid (x = W2.alloc (.cells #[.int .i64 1, .int .i64 y2, .int .i64 0, .int .i64 0, .int .i64 0, .int .i64 0, .slice none 0 0, .string ⟨#[]⟩, .slice none 0 0, .string ⟨#[]⟩, .string ⟨#[]⟩] 62)) := ⟨_, Lib.hid rfl⟩
  have hx01 : x0 < x1 := by rw [hx1.out]; exact K2.out.lt
  have hn1 : ¬ gq g q x1 := fun hh => by have := hlo.out _ hh; omega
  have HG1 : Hid (∀ k, x1 < k → ¬ gq g q k) := fun k hk hh => by have := hlo.out _ hh; omega
  have hxg : x1 ≠ g := fun e => hn1 (.inl e)
  have hgx : g ≠ x1 := fun e => hxg e.symm
  have hx10 : x1 ≠ x0 := by omega
  have hx01n : x0 ≠ x1 := by omega
  have hgl1 : g < W2.heap.size := H2.out.own g (.inl rfl)
  have B2v : Hid (Fr (gq g q) (gq g q) w W2v) := by show Fr _ _ _ _; rw [hW2v.out]; exact B2.out.alloc _
  have K2v : Hid (Bk W2v x0 62 #[.int .i64 0, .int .i64 0, .int .i64 0, .int .i64 0, .int .i64 0, .int .i64 0, .slice none 0 0, .string ⟨#[]⟩, .slice none 0 0, .string ⟨#[]⟩, .string ⟨#[]⟩]) := by show Bk _ _ _ _; rw [hW2v.out]; exact K2.out.alloc _
  have V2v : Hid (Bk W2v x1 62 #[.int .i64 1, .int .i64 y2, .int .i64 0, .int .i64 0, .int .i64 0, .int .i64 0, .slice none 0 0, .string ⟨#[]⟩, .slice none 0 0, .string ⟨#[]⟩, .string ⟨#[]⟩]) := by show Bk _ _ _ _; rw [hW2v.out, hx1.out]; exact Bk.new _ _ _
  have H2v : Hid (Rr W2v B g q s2 d) := by show Rr _ _ _ _ _ _; rw [hW2v.out]; exact H2.out.alloc _
  have pv := rr_cell0 H2v.out
  have cv_0 : W2v.cell? ⟨x1, 0, none⟩ = some (.int .i64 1) := cell_of V2v.out 0 (by simp)
  have cv_1 : W2v.cell? ⟨x1, 1, none⟩ = some (.int .i64 y2) := cell_of V2v.out 1 (by simp)
  have cv_2 : W2v.cell? ⟨x1, 2, none⟩ = some (.int .i64 0) := cell_of V2v.out 2 (by simp)
  have cv_3 : W2v.cell? ⟨x1, 3, none⟩ = some (.int .i64 0) := cell_of V2v.out 3 (by simp)
  have cv_4 : W2v.cell? ⟨x1, 4, none⟩ = some (.int .i64 0) := cell_of V2v.out 4 (by simp)
  have cv_5 : W2v.cell? ⟨x1, 5, none⟩ = some (.int .i64 0) := cell_of V2v.out 5 (by simp)
  have cv_6 : W2v.cell? ⟨x1, 6, none⟩ = some (.slice none 0 0) := cell_of V2v.out 6 (by simp)
  have cv_7 : W2v.cell? ⟨x1, 7, none⟩ = some (.string ⟨#[]⟩) := cell_of V2v.out 7 (by simp)
  have cv_8 : W2v.cell? ⟨x1, 8, none⟩ = some (.slice none 0 0) := cell_of V2v.out 8 (by simp)
  have cv_9 : W2v.cell? ⟨x1, 9, none⟩ = some (.string ⟨#[]⟩) := cell_of V2v.out 9 (by simp)
  have cv_10 : W2v.cell? ⟨x1, 10, none⟩ = some (.string ⟨#[]⟩) := cell_of V2v.out 10 (by simp)
  have hxw1 : w.heap.size ≤ x1 := by omega
  have hxB1 : B ≤ x1 := by omega
  have hfv : ∀ k, W2v.frozen? ⟨x1, k, none⟩ = false := fun k => V2v.out.frozen k
  go_wp2_with fail
  rw [← hW2v.out, ← hx1.out]
  have KK := number_r W2v B g q s2 d H2v.out
  rw [← e3.out] at KK
  refine KK.mono ?_
  clear KK
  rintro e W3 ⟨rfl, h3, f3⟩
  try dsimp only at h3 ⊢
  have B3 := Lib.hid (B2v.out.trans f3)
  have K3 := Lib.hid (bk_fr K2v.out f3 hn0)
  have V3 := Lib.hid (bk_fr V2v.out f3 hn1)
  have H3 := Lib.hid h3
  have z3 := f3.size
  clear h3 f3
  have p3 := rr_cell0 H3.out
  have c3_0 : W3.cell? ⟨x1, 0, none⟩ = some (.int .i64 1) := cell_of V3.out 0 (by simp)
  have c3_1 : W3.cell? ⟨x1, 1, none⟩ = some (.int .i64 y2) := cell_of V3.out 1 (by simp)
  have c3_2 : W3.cell? ⟨x1, 2, none⟩ = some (.int .i64 0) := cell_of V3.out 2 (by simp)
  have c3_3 : W3.cell? ⟨x1, 3, none⟩ = some (.int .i64 0) := cell_of V3.out 3 (by simp)
  have c3_4 : W3.cell? ⟨x1, 4, none⟩ = some (.int .i64 0) := cell_of V3.out 4 (by simp)
  have c3_5 : W3.cell? ⟨x1, 5, none⟩ = some (.int .i64 0) := cell_of V3.out 5 (by simp)
  have c3_6 : W3.cell? ⟨x1, 6, none⟩ = some (.slice none 0 0) := cell_of V3.out 6 (by simp)
  have c3_7 : W3.cell? ⟨x1, 7, none⟩ = some (.string ⟨#[]⟩) := cell_of V3.out 7 (by simp)
  have c3_8 : W3.cell? ⟨x1, 8, none⟩ = some (.slice none 0 0) := cell_of V3.out 8 (by simp)
  have c3_9 : W3.cell? ⟨x1, 9, none⟩ = some (.string ⟨#[]⟩) := cell_of V3.out 9 (by simp)
  have c3_10 : W3.cell? ⟨x1, 10, none⟩ = some (.string ⟨#[]⟩) := cell_of V3.out 10 (by simp)
  have fz3 : ∀ k, W3.frozen? ⟨x1, k, none⟩ = false := fun k => V3.out.frozen k
  have w3_2 := fz3 2
  obtain ⟨W3s, hW3s⟩ : ∃ x, Hid (x = (W3.setCell ⟨x1, 2, none⟩ (.int .i64 y3))) := ⟨_, Lib.hid rfl⟩
  have B3s : Hid (Fr (gq g q) (gq g q) w W3s) := by show Fr _ _ _ _; rw [hW3s.out]; exact (B3.out.set (p := ⟨x1, 2, none⟩) (.inr hxw1) (.int .i64 y3))
  have K3s : Hid (Bk W3s x0 62 #[.int .i64 0, .int .i64 0, .int .i64 0, .int .i64 0, .int .i64 0, .int .i64 0, .slice none 0 0, .string ⟨#[]⟩, .slice none 0 0, .string ⟨#[]⟩, .string ⟨#[]⟩]) := by show Bk _ _ _ _; rw [hW3s.out]; exact (K3.out.far (p := ⟨x1, 2, none⟩) hx01n (.int .i64 y3))
  have V3s : Hid (Bk W3s x1 62 #[.int .i64 1, .int .i64 y2, .int .i64 y3, .int .i64 0, .int .i64 0, .int .i64 0, .slice none 0 0, .string ⟨#[]⟩, .slice none 0 0, .string ⟨#[]⟩, .string ⟨#[]⟩]) := by show Bk _ _ _ _; rw [hW3s.out]; simpa using (V3.out.set 2 (.int .i64 y3))
  have H3s : Hid (Rr W3s B g q s3 d) := by show Rr _ _ _ _ _ _; rw [hW3s.out]; exact (rr_set H3.out hxB1 2 (.int .i64 y3))
  have p3s := rr_cell0 H3s.out
  have d3_0 : W3s.cell? ⟨x1, 0, none⟩ = some (.int .i64 1) := cell_of V3s.out 0 (by simp)
  have d3_1 : W3s.cell? ⟨x1, 1, none⟩ = some (.int .i64 y2) := cell_of V3s.out 1 (by simp)
  have d3_2 : W3s.cell? ⟨x1, 2, none⟩ = some (.int .i64 y3) := cell_of V3s.out 2 (by simp)
  have d3_3 : W3s.cell? ⟨x1, 3, none⟩ = some (.int .i64 0) := cell_of V3s.out 3 (by simp)
  have d3_4 : W3s.cell? ⟨x1, 4, none⟩ = some (.int .i64 0) := cell_of V3s.out 4 (by simp)
  have d3_5 : W3s.cell? ⟨x1, 5, none⟩ = some (.int .i64 0) := cell_of V3s.out 5 (by simp)
  have d3_6 : W3s.cell? ⟨x1, 6, none⟩ = some (.slice none 0 0) := cell_of V3s.out 6 (by simp)
  have d3_7 : W3s.cell? ⟨x1, 7, none⟩ = some (.string ⟨#[]⟩) := cell_of V3s.out 7 (by simp)
  have d3_8 : W3s.cell? ⟨x1, 8, none⟩ = some (.slice none 0 0) := cell_of V3s.out 8 (by simp)
  have d3_9 : W3s.cell? ⟨x1, 9, none⟩ = some (.string ⟨#[]⟩) := cell_of V3s.out 9 (by simp)
  have d3_10 : W3s.cell? ⟨x1, 10, none⟩ = some (.string ⟨#[]⟩) := cell_of V3s.out 10 (by simp)
  go_wp2_with fail
  rw [← hW3s.out]
  have KK := rl_tk W3s B g q s3 d H3s.out
  rw [← e4.out] at KK
  refine KK.mono ?_
  clear KK
  rintro e W4 ⟨vvd, rfl, rvd, h4, f4⟩
  try dsimp only at h4 rvd ⊢
  obtain ⟨Avd, cvd, rfl⟩ := rvd.form
  have Rvd4 : Hid (Ls W4 (fun k => x1 < k) (.slice Avd y4.length cvd) y4) := rvd.mono fun b hb _ => Nat.lt_of_lt_of_le V3s.out.lt hb
  clear rvd
  have B4 := Lib.hid (B3s.out.trans f4)
  have K4 := Lib.hid (bk_fr K3s.out f4 hn0)
  have V4 := Lib.hid (bk_fr V3s.out f4 hn1)
  have H4 := Lib.hid h4
  have z4 := f4.size
  clear h4 f4
  have p4 := rr_cell0 H4.out
  have c4_0 : W4.cell? ⟨x1, 0, none⟩ = some (.int .i64 1) := cell_of V4.out 0 (by simp)
  have c4_1 : W4.cell? ⟨x1, 1, none⟩ = some (.int .i64 y2) := cell_of V4.out 1 (by simp)
  have c4_2 : W4.cell? ⟨x1, 2, none⟩ = some (.int .i64 y3) := cell_of V4.out 2 (by simp)
  have c4_3 : W4.cell? ⟨x1, 3, none⟩ = some (.int .i64 0) := cell_of V4.out 3 (by simp)
  have c4_4 : W4.cell? ⟨x1, 4, none⟩ = some (.int .i64 0) := cell_of V4.out 4 (by simp)
  have c4_5 : W4.cell? ⟨x1, 5, none⟩ = some (.int .i64 0) := cell_of V4.out 5 (by simp)
  have c4_6 : W4.cell? ⟨x1, 6, none⟩ = some (.slice none 0 0) := cell_of V4.out 6 (by simp)
  have c4_7 : W4.cell? ⟨x1, 7, none⟩ = some (.string ⟨#[]⟩) := cell_of V4.out 7 (by simp)
  have c4_8 : W4.cell? ⟨x1, 8, none⟩ = some (.slice none 0 0) := cell_of V4.out 8 (by simp)
  have c4_9 : W4.cell? ⟨x1, 9, none⟩ = some (.string ⟨#[]⟩) := cell_of V4.out 9 (by simp)
  have c4_10 : W4.cell? ⟨x1, 10, none⟩ = some (.string ⟨#[]⟩) := cell_of V4.out 10 (by simp)
  have fz4 : ∀ k, W4.frozen? ⟨x1, k, none⟩ = false := fun k => V4.out.frozen k
  have w4_6 := fz4 6
  obtain ⟨W4s, hW4s⟩ : ∃ x, Hid (x = (W4.setCell ⟨x1, 6, none⟩ (.slice Avd y4.length cvd))) := ⟨_, Lib.hid rfl⟩
  have B4s : Hid (Fr (gq g q) (gq g q) w W4s) := by show Fr _ _ _ _; rw [hW4s.out]; exact (B4.out.set (p := ⟨x1, 6, none⟩) (.inr hxw1) (.slice Avd y4.length cvd))
  have K4s : Hid (Bk W4s x0 62 #[.int .i64 0, .int .i64 0, .int .i64 0, .int .i64 0, .int .i64 0, .int .i64 0, .slice none 0 0, .string ⟨#[]⟩, .slice none 0 0, .string ⟨#[]⟩, .string ⟨#[]⟩]) := by show Bk _ _ _ _; rw [hW4s.out]; exact (K4.out.far (p := ⟨x1, 6, none⟩) hx01n (.slice Avd y4.length cvd))
  have V4s : Hid (Bk W4s x1 62 #[.int .i64 1, .int .i64 y2, .int .i64 y3, .int .i64 0, .int .i64 0, .int .i64 0, .slice Avd y4.length cvd, .string ⟨#[]⟩, .slice none 0 0, .string ⟨#[]⟩, .string ⟨#[]⟩]) := by show Bk _ _ _ _; rw [hW4s.out]; simpa using (V4.out.set 6 (.slice Avd y4.length cvd))
  have H4s : Hid (Rr W4s B g q s4 d) := by show Rr _ _ _ _ _ _; rw [hW4s.out]; exact (rr_set H4.out hxB1 6 (.slice Avd y4.length cvd))
  have Qvd : Ls ((W4.setCell ⟨x1, 6, none⟩ (.slice Avd y4.length cvd))) (fun k => x1 < k) (.slice Avd y4.length cvd) y4 := (ls_set Rvd4.out (fun k hk => by omega) 6 (.slice Avd y4.length cvd))
  rw [← hW4s.out] at Qvd
  replace Rvd4 := Lib.hid Qvd
  clear Qvd
  have p4s := rr_cell0 H4s.out
  have d4_0 : W4s.cell? ⟨x1, 0, none⟩ = some (.int .i64 1) := cell_of V4s.out 0 (by simp)
  have d4_1 : W4s.cell? ⟨x1, 1, none⟩ = some (.int .i64 y2) := cell_of V4s.out 1 (by simp)
  have d4_2 : W4s.cell? ⟨x1, 2, none⟩ = some (.int .i64 y3) := cell_of V4s.out 2 (by simp)
  have d4_3 : W4s.cell? ⟨x1, 3, none⟩ = some (.int .i64 0) := cell_of V4s.out 3 (by simp)
  have d4_4 : W4s.cell? ⟨x1, 4, none⟩ = some (.int .i64 0) := cell_of V4s.out 4 (by simp)
  have d4_5 : W4s.cell? ⟨x1, 5, none⟩ = some (.int .i64 0) := cell_of V4s.out 5 (by simp)
  have d4_6 : W4s.cell? ⟨x1, 6, none⟩ = some (.slice Avd y4.length cvd) := cell_of V4s.out 6 (by simp)
  have d4_7 : W4s.cell? ⟨x1, 7, none⟩ = some (.string ⟨#[]⟩) := cell_of V4s.out 7 (by simp)
  have d4_8 : W4s.cell? ⟨x1, 8, none⟩ = some (.slice none 0 0) := cell_of V4s.out 8 (by simp)
  have d4_9 : W4s.cell? ⟨x1, 9, none⟩ = some (.string ⟨#[]⟩) := cell_of V4s.out 9 (by simp)
  have d4_10 : W4s.cell? ⟨x1, 10, none⟩ = some (.string ⟨#[]⟩) := cell_of V4s.out 10 (by simp)
  have o0z : W4.cell? ⟨x0, 0, none⟩ = some (.int .i64 0) := cell_of K4.out 0 (by simp)
  have o0f : W4.frozen? ⟨x0, 0, none⟩ = false := K4.out.frozen 0
  have o1z : W4.cell? ⟨x0, 1, none⟩ = some (.int .i64 0) := cell_of K4.out 1 (by simp)
  have o1f : W4.frozen? ⟨x0, 1, none⟩ = false := K4.out.frozen 1
  have o2z : W4.cell? ⟨x0, 2, none⟩ = some (.int .i64 0) := cell_of K4.out 2 (by simp)
  have o2f : W4.frozen? ⟨x0, 2, none⟩ = false := K4.out.frozen 2
  have o3z : W4.cell? ⟨x0, 3, none⟩ = some (.int .i64 0) := cell_of K4.out 3 (by simp)
  have o3f : W4.frozen? ⟨x0, 3, none⟩ = false := K4.out.frozen 3
  have o4z : W4.cell? ⟨x0, 4, none⟩ = some (.int .i64 0) := cell_of K4.out 4 (by simp)
  have o4f : W4.frozen? ⟨x0, 4, none⟩ = false := K4.out.frozen 4
  have o5z : W4.cell? ⟨x0, 5, none⟩ = some (.int .i64 0) := cell_of K4.out 5 (by simp)
  have o5f : W4.frozen? ⟨x0, 5, none⟩ = false := K4.out.frozen 5
  have o6z : W4.cell? ⟨x0, 6, none⟩ = some (.slice none 0 0) := cell_of K4.out 6 (by simp)
  have o6f : W4.frozen? ⟨x0, 6, none⟩ = false := K4.out.frozen 6
  have o7z : W4.cell? ⟨x0, 7, none⟩ = some (.string ⟨#[]⟩) := cell_of K4.out 7 (by simp)
  have o7f : W4.frozen? ⟨x0, 7, none⟩ = false := K4.out.frozen 7
  have o8z : W4.cell? ⟨x0, 8, none⟩ = some (.slice none 0 0) := cell_of K4.out 8 (by simp)
  have o8f : W4.frozen? ⟨x0, 8, none⟩ = false := K4.out.frozen 8
  have o9z : W4.cell? ⟨x0, 9, none⟩ = some (.string ⟨#[]⟩) := cell_of K4.out 9 (by simp)
  have o9f : W4.frozen? ⟨x0, 9, none⟩ = false := K4.out.frozen 9
  have o10z : W4.cell? ⟨x0, 10, none⟩ = some (.string ⟨#[]⟩) := cell_of K4.out 10 (by simp)
  have o10f : W4.frozen? ⟨x0, 10, none⟩ = false := K4.out.frozen 10
  have hx0l : x0 < W4.heap.size := K4.out.lt
  obtain ⟨Wf, hWf⟩ : ∃ x, Hid (x = (((((((((((W4s.setCell ⟨x0, 0, none⟩ (.int .i64 1)).setCell ⟨x0, 1, none⟩ (.int .i64 y2)).setCell ⟨x0, 2, none⟩ (.int .i64 y3)).setCell ⟨x0, 3, none⟩ (.int .i64 0)).setCell ⟨x0, 4, none⟩ (.int .i64 0)).setCell ⟨x0, 5, none⟩ (.int .i64 0)).setCell ⟨x0, 6, none⟩ (.slice Avd y4.length cvd)).setCell ⟨x0, 7, none⟩ (.string ⟨#[]⟩)).setCell ⟨x0, 8, none⟩ (.slice none 0 0)).setCell ⟨x0, 9, none⟩ (.string ⟨#[]⟩)).setCell ⟨x0, 10, none⟩ (.string ⟨#[]⟩))) := ⟨_, Lib.hid rfl⟩
  have BF : Hid (Fr (gq g q) (gq g q) w Wf) := by show Fr _ _ _ _; rw [hWf.out]; exact (((((((((((B4s.out.set (p := ⟨x0, 0, none⟩) (.inr hxw) (.int .i64 1)).set (p := ⟨x0, 1, none⟩) (.inr hxw) (.int .i64 y2)).set (p := ⟨x0, 2, none⟩) (.inr hxw) (.int .i64 y3)).set (p := ⟨x0, 3, none⟩) (.inr hxw) (.int .i64 0)).set (p := ⟨x0, 4, none⟩) (.inr hxw) (.int .i64 0)).set (p := ⟨x0, 5, none⟩) (.inr hxw) (.int .i64 0)).set (p := ⟨x0, 6, none⟩) (.inr hxw) (.slice Avd y4.length cvd)).set (p := ⟨x0, 7, none⟩) (.inr hxw) (.string ⟨#[]⟩)).set (p := ⟨x0, 8, none⟩) (.inr hxw) (.slice none 0 0)).set (p := ⟨x0, 9, none⟩) (.inr hxw) (.string ⟨#[]⟩)).set (p := ⟨x0, 10, none⟩) (.inr hxw) (.string ⟨#[]⟩))
  have HF : Hid (Rr Wf B g q s4 d) := by show Rr _ _ _ _ _ _; rw [hWf.out]; exact (rr_set (rr_set (rr_set (rr_set (rr_set (rr_set (rr_set (rr_set (rr_set (rr_set (rr_set H4s.out hxB 0 (.int .i64 1)) hxB 1 (.int .i64 y2)) hxB 2 (.int .i64 y3)) hxB 3 (.int .i64 0)) hxB 4 (.int .i64 0)) hxB 5 (.int .i64 0)) hxB 6 (.slice Avd y4.length cvd)) hxB 7 (.string ⟨#[]⟩)) hxB 8 (.slice none 0 0)) hxB 9 (.string ⟨#[]⟩)) hxB 10 (.string ⟨#[]⟩))
  have KF : Hid (Bk Wf x0 62 #[.int .i64 1, .int .i64 y2, .int .i64 y3, .int .i64 0, .int .i64 0, .int .i64 0, .slice Avd y4.length cvd, .string ⟨#[]⟩, .slice none 0 0, .string ⟨#[]⟩, .string ⟨#[]⟩]) := by show Bk _ _ _ _; rw [hWf.out]; simpa using (((((((((((K4s.out.set 0 (.int .i64 1)).set 1 (.int .i64 y2)).set 2 (.int .i64 y3)).set 3 (.int .i64 0)).set 4 (.int .i64 0)).set 5 (.int .i64 0)).set 6 (.slice Avd y4.length cvd)).set 7 (.string ⟨#[]⟩)).set 8 (.slice none 0 0)).set 9 (.string ⟨#[]⟩)).set 10 (.string ⟨#[]⟩))
  have Lvd : Hid (Ls Wf (fun k => w.heap.size ≤ k) (.slice Avd y4.length cvd) y4) := by show Ls _ _ _ _; rw [hWf.out]; exact (ls_set (ls_set (ls_set (ls_set (ls_set (ls_set (ls_set (ls_set (ls_set (ls_set (ls_set Rvd4.out (fun k hk => by omega) 0 (.int .i64 1)) (fun k hk => by omega) 1 (.int .i64 y2)) (fun k hk => by omega) 2 (.int .i64 y3)) (fun k hk => by omega) 3 (.int .i64 0)) (fun k hk => by omega) 4 (.int .i64 0)) (fun k hk => by omega) 5 (.int .i64 0)) (fun k hk => by omega) 6 (.slice Avd y4.length cvd)) (fun k hk => by omega) 7 (.string ⟨#[]⟩)) (fun k hk => by omega) 8 (.slice none 0 0)) (fun k hk => by omega) 9 (.string ⟨#[]⟩)) (fun k hk => by omega) 10 (.string ⟨#[]⟩)).mono fun b hb _ => by omega
  have o0 : Wf.cell? ⟨x0, 0, none⟩ = some (.int .i64 1) := cell_of KF.out 0 (by simp)
  have o1 : Wf.cell? ⟨x0, 1, none⟩ = some (.int .i64 y2) := cell_of KF.out 1 (by simp)
  have o2 : Wf.cell? ⟨x0, 2, none⟩ = some (.int .i64 y3) := cell_of KF.out 2 (by simp)
  have o3 : Wf.cell? ⟨x0, 3, none⟩ = some (.int .i64 0) := cell_of KF.out 3 (by simp)
  have o4 : Wf.cell? ⟨x0, 4, none⟩ = some (.int .i64 0) := cell_of KF.out 4 (by simp)
  have o5 : Wf.cell? ⟨x0, 5, none⟩ = some (.int .i64 0) := cell_of KF.out 5 (by simp)
  have o6 : Wf.cell? ⟨x0, 6, none⟩ = some (.slice Avd y4.length cvd) := cell_of KF.out 6 (by simp)
  have o7 : Wf.cell? ⟨x0, 7, none⟩ = some (.string ⟨#[]⟩) := cell_of KF.out 7 (by simp)
  have o8 : Wf.cell? ⟨x0, 8, none⟩ = some (.slice none 0 0) := cell_of KF.out 8 (by simp)
  have o9 : Wf.cell? ⟨x0, 9, none⟩ = some (.string ⟨#[]⟩) := cell_of KF.out 9 (by simp)
  have o10 : Wf.cell? ⟨x0, 10, none⟩ = some (.string ⟨#[]⟩) := cell_of KF.out 10 (by simp)
  clear K4s V4s B4s H4s KF
  go_wp2
  try rw [← hW4s.out]
  try rw [← hWf.out]
  refine bodyPost_ret (v := .agg #[.int .i64 1, .int .i64 y2, .int .i64 y3, .int .i64 0, .int .i64 0, .int .i64 0, .slice Avd y4.length cvd, .string ⟨#[]⟩, .slice none 0 0, .string ⟨#[]⟩, .string ⟨#[]⟩]) (by simp [results, Tryz.results44, go_sem, o0, o1, o2, o3, o4, o5, o6, o7, o8, o9, o10]) rfl ?_
  show RstepT B g q w s d _ _
  unfold RstepT
  rw [hR.out]
  exact ⟨_, _, rfl, Lvd.out, Ls.nil _ _, HF.out, BF.out⟩
set_option maxRecDepth 100000 in
set_option maxHeartbeats 4000000 in
theorem rstep_6 (w : World) (B g q : Nat) (s : RS) (d : Int) (h : Rr w B g q s d) (s1 : RS) (e1 : Hid ((6, s1) = rK 6 s)) : Calls Tryz.prog 44 #[.pointer (some ⟨g, 0, none⟩)] w (RstepT B g q w s d) := by
  obtain ⟨⟨y2, s2⟩, e2⟩ : ∃ x, Hid (x = rI s1) := ⟨_, Lib.hid rfl⟩
  obtain ⟨⟨y3, s3⟩, e3⟩ : ∃ x, Hid (x = rI s2) := ⟨_, Lib.hid rfl⟩
  obtain ⟨⟨y4, s4⟩, e4⟩ : ∃ x, Hid (x = rL rTk s3) := ⟨_, Lib.hid rfl⟩
  have qB : rStB 6 y2 = rS2 (fun t d => ⟨(6 : Nat), y2, t, 0, 0, 0, d, noM, .empty, .empty⟩) rI (rL rTk) := by unfold rStB; rw [if_pos (by decide)]
  have hR : Hid (rSt s = (⟨6, y2, y3, 0, 0, 0, y4, noM, .empty, .empty⟩, s4)) := by show _ = _; simp only [rSt, ← e1.out, ← e2.out, qB, rS2, ← e3.out, ← e4.out]; rfl
  have hlo := Lib.hid h.lo
  have hbs := h.base
  obtain ⟨x0, hx0⟩ : ∃ x0, Hid (x0 = w.heap.size) := ⟨_, Lib.hid rfl⟩
  obtain ⟨W0, hW0⟩ : ∃ x, Hid (x = w.alloc (.cells #[.int .i64 0, .int .i64 0, .int .i64 0, .int .i64 0, .int .i64 0, .int .i64 0, .slice none 0 0, .string ⟨#[]⟩, .slice none 0 0, .string ⟨#[]⟩, .string ⟨#[]⟩] 62)) := ⟨_, Lib.hid rfl⟩
  have H0 : Hid (Rr W0 B g q s d) := by show Rr _ _ _ _ _ _; rw [hW0.out]; exact h.alloc _
  have B0 : Hid (Fr (gq g q) (gq g q) w W0) := by show Fr _ _ _ _; rw [hW0.out]; exact (Fr.refl h.own).alloc _
  have K0 : Hid (Bk W0 x0 62 #[.int .i64 0, .int .i64 0, .int .i64 0, .int .i64 0, .int .i64 0, .int .i64 0, .slice none 0 0, .string ⟨#[]⟩, .slice none 0 0, .string ⟨#[]⟩, .string ⟨#[]⟩]) := by show Bk _ _ _ _; rw [hW0.out, hx0.out]; exact Bk.new _ _ _
  have hn0 : ¬ gq g q x0 := fun hh => by have := hlo.out _ hh; have := hx0.out; omega
  have hxB : B ≤ x0 := by rw [hx0.out]; exact hbs
  have hxw : w.heap.size ≤ x0 := by rw [hx0.out]; exact Nat.le_refl _
  clear h
  go_enter Tryz.func44, Tryz.ntmps44
  go_wp2_with fail
  rw [← hW0.out, ← hx0.out]
  have KK := kind_any W0 B g q s d H0.out 6 (by decide)
  rw [← e1.out] at KK
  refine KK.mono ?_
  clear KK
  rintro e W1 ⟨rfl, h1, f1⟩
  try dsimp only at h1 ⊢
  have B1 := Lib.hid (B0.out.trans f1)
  have K1 := Lib.hid (bk_fr K0.out f1 hn0)
  have H1 := Lib.hid h1
  have z1 := f1.size
  clear h1 f1
  have p1 := rr_cell0 H1.out
  go_wp2_with fail
  have KK := number_r W1 B g q s1 d H1.out
  rw [← e2.out] at KK
  refine KK.mono ?_
  clear KK
  rintro e W2 ⟨rfl, h2, f2⟩
  try dsimp only at h2 ⊢
  have B2 := Lib.hid (B1.out.trans f2)
  have K2 := Lib.hid (bk_fr K1.out f2 hn0)
  have H2 := Lib.hid h2
  have z2 := f2.size
  clear h2 f2
  have p2 := rr_cell0 H2.out
  obtain ⟨x1, hx1⟩ : ∃ x1, Hid (x1 = W2.heap.size) := ⟨_, Lib.hid rfl⟩
  obtain ⟨W2v, hW2v⟩ : ∃ x, Hid (x = W2.alloc (.cells #[.int .i64 6, .int .i64 y2, .int .i64 0, .int .i64 0, .int .i64 0, .int .i64 0, .slice none 0 0, .string ⟨#[]⟩, .slice none 0 0, .string ⟨#[]⟩, .string ⟨#[]⟩] 62)) := ⟨_, Lib.hid rfl⟩
  have hx01 : x0 < x1 := by rw [hx1.out]; exact K2.out.lt
  have hn1 : ¬ gq g q x1 := fun hh => by have := hlo.out _ hh; omega
  have HG1 : Hid (∀ k, x1 < k → ¬ gq g q k) := fun k hk hh => by have := hlo.out _ hh; omega
  have hxg : x1 ≠ g := fun e => hn1 (.inl e)
  have hgx : g ≠ x1 := fun e => hxg e.symm
  have hx10 : x1 ≠ x0 := by omega
  have hx01n : x0 ≠ x1 := by omega
  have hgl1 : g < W2.heap.size := H2.out.own g (.inl rfl)
  have B2v : Hid (Fr (gq g q) (gq g q) w W2v) := by show Fr _ _ _ _; rw [hW2v.out]; exact B2.out.alloc _
  have K2v : Hid (Bk W2v x0 62 #[.int .i64 0, .int .i64 0, .int .i64 0, .int .i64 0, .int .i64 0, .int .i64 0, .slice none 0 0, .string ⟨#[]⟩, .slice none 0 0, .string ⟨#[]⟩, .string ⟨#[]⟩]) := by show Bk _ _ _ _; rw [hW2v.out]; exact K2.out.alloc _
  have V2v : Hid (Bk W2v x1 62 #[.int .i64 6, .int .i64 y2, .int .i64 0, .int .i64 0, .int .i64 0, .int .i64 0, .slice none 0 0, .string ⟨#[]⟩, .slice none 0 0, .string ⟨#[]⟩, .string ⟨#[]⟩]) := by show Bk _ _ _ _; rw [hW2v.out, hx1.out]; exact Bk.new _ _ _
  have H2v : Hid (Rr W2v B g q s2 d) := by show Rr _ _ _ _ _ _; rw [hW2v.out]; exact H2.out.alloc _
  have pv := rr_cell0 H2v.out
  have cv_0 : W2v.cell? ⟨x1, 0, none⟩ = some (.int .i64 6) := cell_of V2v.out 0 (by simp)
  have cv_1 : W2v.cell? ⟨x1, 1, none⟩ = some (.int .i64 y2) := cell_of V2v.out 1 (by simp)
  have cv_2 : W2v.cell? ⟨x1, 2, none⟩ = some (.int .i64 0) := cell_of V2v.out 2 (by simp)
  have cv_3 : W2v.cell? ⟨x1, 3, none⟩ = some (.int .i64 0) := cell_of V2v.out 3 (by simp)
  have cv_4 : W2v.cell? ⟨x1, 4, none⟩ = some (.int .i64 0) := cell_of V2v.out 4 (by simp)
  have cv_5 : W2v.cell? ⟨x1, 5, none⟩ = some (.int .i64 0) := cell_of V2v.out 5 (by simp)
  have cv_6 : W2v.cell? ⟨x1, 6, none⟩ = some (.slice none 0 0) := cell_of V2v.out 6 (by simp)
  have cv_7 : W2v.cell? ⟨x1, 7, none⟩ = some (.string ⟨#[]⟩) := cell_of V2v.out 7 (by simp)
  have cv_8 : W2v.cell? ⟨x1, 8, none⟩ = some (.slice none 0 0) := cell_of V2v.out 8 (by simp)
  have cv_9 : W2v.cell? ⟨x1, 9, none⟩ = some (.string ⟨#[]⟩) := cell_of V2v.out 9 (by simp)
  have cv_10 : W2v.cell? ⟨x1, 10, none⟩ = some (.string ⟨#[]⟩) := cell_of V2v.out 10 (by simp)
  have hxw1 : w.heap.size ≤ x1 := by omega
  have hxB1 : B ≤ x1 := by omega
  have hfv : ∀ k, W2v.frozen? ⟨x1, k, none⟩ = false := fun k => V2v.out.frozen k
  go_wp2_with fail
  rw [← hW2v.out, ← hx1.out]
  have KK := number_r W2v B g q s2 d H2v.out
  rw [← e3.out] at KK
  refine KK.mono ?_
  clear KK
  rintro e W3 ⟨rfl, h3, f3⟩
  try dsimp only at h3 ⊢
  have B3 := Lib.hid (B2v.out.trans f3)
  have K3 := Lib.hid (bk_fr K2v.out f3 hn0)
  have V3 := Lib.hid (bk_fr V2v.out f3 hn1)
  have H3 := Lib.hid h3
  have z3 := f3.size
  clear h3 f3
  have p3 := rr_cell0 H3.out
  have c3_0 : W3.cell? ⟨x1, 0, none⟩ = some (.int .i64 6) := cell_of V3.out 0 (by simp)
  have c3_1 : W3.cell? ⟨x1, 1, none⟩ = some (.int .i64 y2) := cell_of V3.out 1 (by simp)
  have c3_2 : W3.cell? ⟨x1, 2, none⟩ = some (.int .i64 0) := cell_of V3.out 2 (by simp)
  have c3_3 : W3.cell? ⟨x1, 3, none⟩ = some (.int .i64 0) := cell_of V3.out 3 (by simp)
  have c3_4 : W3.cell? ⟨x1, 4, none⟩ = some (.int .i64 0) := cell_of V3.out 4 (by simp)
  have c3_5 : W3.cell? ⟨x1, 5, none⟩ = some (.int .i64 0) := cell_of V3.out 5 (by simp)
  have c3_6 : W3.cell? ⟨x1, 6, none⟩ = some (.slice none 0 0) := cell_of V3.out 6 (by simp)
  have c3_7 : W3.cell? ⟨x1, 7, none⟩ = some (.string ⟨#[]⟩) := cell_of V3.out 7 (by simp)
  have c3_8 : W3.cell? ⟨x1, 8, none⟩ = some (.slice none 0 0) := cell_of V3.out 8 (by simp)
  have c3_9 : W3.cell? ⟨x1, 9, none⟩ = some (.string ⟨#[]⟩) := cell_of V3.out 9 (by simp)
  have c3_10 : W3.cell? ⟨x1, 10, none⟩ = some (.string ⟨#[]⟩) := cell_of V3.out 10 (by simp)
  have fz3 : ∀ k, W3.frozen? ⟨x1, k, none⟩ = false := fun k => V3.out.frozen k
  have w3_2 := fz3 2
  obtain ⟨W3s, hW3s⟩ : ∃ x, Hid (x = (W3.setCell ⟨x1, 2, none⟩ (.int .i64 y3))) := ⟨_, Lib.hid rfl⟩
  have B3s : Hid (Fr (gq g q) (gq g q) w W3s) := by show Fr _ _ _ _; rw [hW3s.out]; exact (B3.out.set (p := ⟨x1, 2, none⟩) (.inr hxw1) (.int .i64 y3))
  have K3s : Hid (Bk W3s x0 62 #[.int .i64 0, .int .i64 0, .int .i64 0, .int .i64 0, .int .i64 0, .int .i64 0, .slice none 0 0, .string ⟨#[]⟩, .slice none 0 0, .string ⟨#[]⟩, .string ⟨#[]⟩]) := by show Bk _ _ _ _; rw [hW3s.out]; exact (K3.out.far (p := ⟨x1, 2, none⟩) hx01n (.int .i64 y3))
  have V3s : Hid (Bk W3s x1 62 #[.int .i64 6, .int .i64 y2, .int .i64 y3, .int .i64 0, .int .i64 0, .int .i64 0, .slice none 0 0, .string ⟨#[]⟩, .slice none 0 0, .string ⟨#[]⟩, .string ⟨#[]⟩]) := by show Bk _ _ _ _; rw [hW3s.out]; simpa using (V3.out.set 2 (.int .i64 y3))
  have H3s : Hid (Rr W3s B g q s3 d) := by show Rr _ _ _ _ _ _; rw [hW3s.out]; exact (rr_set H3.out hxB1 2 (.int .i64 y3))
  have p3s := rr_cell0 H3s.out
  have d3_0 : W3s.cell? ⟨x1, 0, none⟩ = some (.int .i64 6) := cell_of V3s.out 0 (by simp)
  have d3_1 : W3s.cell? ⟨x1, 1, none⟩ = some (.int .i64 y2) := cell_of V3s.out 1 (by simp)
  have d3_2 : W3s.cell? ⟨x1, 2, none⟩ = some (.int .i64 y3) := cell_of V3s.out 2 (by simp)
  have d3_3 : W3s.cell? ⟨x1, 3, none⟩ = some (.int .i64 0) := cell_of V3s.out 3 (by simp)
  have d3_4 : W3s.cell? ⟨x1, 4, none⟩ = some (.int .i64 0) := cell_of V3s.out 4 (by simp)
  have d3_5 : W3s.cell? ⟨x1, 5, none⟩ = some (.int .i64 0) := cell_of V3s.out 5 (by simp)
  have d3_6 : W3s.cell? ⟨x1, 6, none⟩ = some (.slice none 0 0) := cell_of V3s.out 6 (by simp)
  have d3_7 : W3s.cell? ⟨x1, 7, none⟩ = some (.string ⟨#[]⟩) := cell_of V3s.out 7 (by simp)
  have d3_8 : W3s.cell? ⟨x1, 8, none⟩ = some (.slice none 0 0) := cell_of V3s.out 8 (by simp)
  have d3_9 : W3s.cell? ⟨x1, 9, none⟩ = some (.string ⟨#[]⟩) := cell_of V3s.out 9 (by simp)
  have d3_10 : W3s.cell? ⟨x1, 10, none⟩ = some (.string ⟨#[]⟩) := cell_of V3s.out 10 (by simp)
  go_wp2_with fail
  rw [← hW3s.out]
  have KK := rl_tk W3s B g q s3 d H3s.out
  rw [← e4.out] at KK
  refine KK.mono ?_
  clear KK
  rintro e W4 ⟨vvd, rfl, rvd, h4, f4⟩
  try dsimp only at h4 rvd ⊢
  obtain ⟨Avd, cvd, rfl⟩ := rvd.form
  have Rvd4 : Hid (Ls W4 (fun k => x1 < k) (.slice Avd y4.length cvd) y4) := rvd.mono fun b hb _ => Nat.lt_of_lt_of_le V3s.out.lt hb
  clear rvd
  have B4 := Lib.hid (B3s.out.trans f4)
  have K4 := Lib.hid (bk_fr K3s.out f4 hn0)
  have V4 := Lib.hid (bk_fr V3s.out f4 hn1)
  have H4 := Lib.hid h4
  have z4 := f4.size
  clear h4 f4
  have p4 := rr_cell0 H4.out
  have c4_0 : W4.cell? ⟨x1, 0, none⟩ = some (.int .i64 6) := cell_of V4.out 0 (by simp)
  have c4_1 : W4.cell? ⟨x1, 1, none⟩ = some (.int .i64 y2) := cell_of V4.out 1 (by simp)
  have c4_2 : W4.cell? ⟨x1, 2, none⟩ = some (.int .i64 y3) := cell_of V4.out 2 (by simp)
  have c4_3 : W4.cell? ⟨x1, 3, none⟩ = some (.int .i64 0) := cell_of V4.out 3 (by simp)
  have c4_4 : W4.cell? ⟨x1, 4, none⟩ = some (.int .i64 0) := cell_of V4.out 4 (by simp)
  have c4_5 : W4.cell? ⟨x1, 5, none⟩ = some (.int .i64 0) := cell_of V4.out 5 (by simp)
  have c4_6 : W4.cell? ⟨x1, 6, none⟩ = some (.slice none 0 0) := cell_of V4.out 6 (by simp)
  have c4_7 : W4.cell? ⟨x1, 7, none⟩ = some (.string ⟨#[]⟩) := cell_of V4.out 7 (by simp)
  have c4_8 : W4.cell? ⟨x1, 8, none⟩ = some (.slice none 0 0) := cell_of V4.out 8 (by simp)
  have c4_9 : W4.cell? ⟨x1, 9, none⟩ = some (.string ⟨#[]⟩) := cell_of V4.out 9 (by simp)
  have c4_10 : W4.cell? ⟨x1, 10, none⟩ = some (.string ⟨#[]⟩) := cell_of V4.out 10 (by simp)
  have fz4 : ∀ k, W4.frozen? ⟨x1, k, none⟩ = false := fun k => V4.out.frozen k
  have w4_6 := fz4 6
  obtain ⟨W4s, hW4s⟩ : ∃ x, Hid (x = (W4.setCell ⟨x1, 6, none⟩ (.slice Avd y4.length cvd))) := ⟨_, Lib.hid rfl⟩
  have B4s : Hid (Fr (gq g q) (gq g q) w W4s) := by show Fr _ _ _ _; rw [hW4s.out]; exact (B4.out.set (p := ⟨x1, 6, none⟩) (.inr hxw1) (.slice Avd y4.length cvd))
  have K4s : Hid (Bk W4s x0 62 #[.int .i64 0, .int .i64 0, .int .i64 0, .int .i64 0, .int .i64 0, .int .i64 0, .slice none 0 0, .string ⟨#[]⟩, .slice none 0 0, .string ⟨#[]⟩, .string ⟨#[]⟩]) := by show Bk _ _ _ _; rw [hW4s.out]; exact (K4.out.far (p := ⟨x1, 6, none⟩) hx01n (.slice Avd y4.length cvd))
  have V4s : Hid (Bk W4s x1 62 #[.int .i64 6, .int .i64 y2, .int .i64 y3, .int .i64 0, .int .i64 0, .int .i64 0, .slice Avd y4.length cvd, .string ⟨#[]⟩, .slice none 0 0, .string ⟨#[]⟩, .string ⟨#[]⟩]) := by show Bk _ _ _ _; rw [hW4s.out]; simpa using (V4.out.set 6 (.slice Avd y4.length cvd))
  have H4s : Hid (Rr W4s B g q s4 d) := by show Rr _ _ _ _ _ _; rw [hW4s.out]; exact (rr_set H4.out hxB1 6 (.slice Avd y4.length cvd))
  have Qvd : Ls ((W4.setCell ⟨x1, 6, none⟩ (.slice Avd y4.length cvd))) (fun k => x1 < k) (.slice Avd y4.length cvd) y4 := (ls_set Rvd4.out (fun k hk => by omega) 6 (.slice Avd y4.length cvd))
  rw [← hW4s.out] at Qvd
  replace Rvd4 := Lib.hid Qvd
  clear Qvd
  have p4s := rr_cell0 H4s.out
  have d4_0 : W4s.cell? ⟨x1, 0, none⟩ = some (.int .i64 6) := cell_of V4s.out 0 (by simp)
  have d4_1 : W4s.cell? ⟨x1, 1, none⟩ = some (.int .i64 y2) := cell_of V4s.out 1 (by simp)
  have d4_2 : W4s.cell? ⟨x1, 2, none⟩ = some (.int .i64 y3) := cell_of V4s.out 2 (by simp)
  have d4_3 : W4s.cell? ⟨x1, 3, none⟩ = some (.int .i64 0) := cell_of V4s.out 3 (by simp)
  have d4_4 : W4s.cell? ⟨x1, 4, none⟩ = some (.int .i64 0) := cell_of V4s.out 4 (by simp)
  have d4_5 : W4s.cell? ⟨x1, 5, none⟩ = some (.int .i64 0) := cell_of V4s.out 5 (by simp)
  have d4_6 : W4s.cell? ⟨x1, 6, none⟩ = some (.slice Avd y4.length cvd) := cell_of V4s.out 6 (by simp)
  have d4_7 : W4s.cell? ⟨x1, 7, none⟩ = some (.string ⟨#[]⟩) := cell_of V4s.out 7 (by simp)
  have d4_8 : W4s.cell? ⟨x1, 8, none⟩ = some (.slice none 0 0) := cell_of V4s.out 8 (by simp)
  have d4_9 : W4s.cell? ⟨x1, 9, none⟩ = some (.string ⟨#[]⟩) := cell_of V4s.out 9 (by simp)
  have d4_10 : W4s.cell? ⟨x1, 10, none⟩ = some (.string ⟨#[]⟩) := cell_of V4s.out 10 (by simp)
  have o0z : W4.cell? ⟨x0, 0, none⟩ = some (.int .i64 0) := cell_of K4.out 0 (by simp)
  have o0f : W4.frozen? ⟨x0, 0, none⟩ = false := K4.out.frozen 0
  have o1z : W4.cell? ⟨x0, 1, none⟩ = some (.int .i64 0) := cell_of K4.out 1 (by simp)
  have o1f : W4.frozen? ⟨x0, 1, none⟩ = false := K4.out.frozen 1
  have o2z : W4.cell? ⟨x0, 2, none⟩ = some (.int .i64 0) := cell_of K4.out 2 (by simp)
  have o2f : W4.frozen? ⟨x0, 2, none⟩ = false := K4.out.frozen 2
  have o3z : W4.cell? ⟨x0, 3, none⟩ = some (.int .i64 0) := cell_of K4.out 3 (by simp)
  have o3f : W4.frozen? ⟨x0, 3, none⟩ = false := K4.out.frozen 3
  have o4z : W4.cell? ⟨x0, 4, none⟩ = some (.int .i64 0) := cell_of K4.out 4 (by simp)
  have o4f : W4.frozen? ⟨x0, 4, none⟩ = false := K4.out.frozen 4
  have o5z : W4.cell? ⟨x0, 5, none⟩ = some (.int .i64 0) := cell_of K4.out 5 (by simp)
  have o5f : W4.frozen? ⟨x0, 5, none⟩ = false := K4.out.frozen 5
  have o6z : W4.cell? ⟨x0, 6, none⟩ = some (.slice none 0 0) := cell_of K4.out 6 (by simp)
  have o6f : W4.frozen? ⟨x0, 6, none⟩ = false := K4.out.frozen 6
  have o7z : W4.cell? ⟨x0, 7, none⟩ = some (.string ⟨#[]⟩) := cell_of K4.out 7 (by simp)
  have o7f : W4.frozen? ⟨x0, 7, none⟩ = false := K4.out.frozen 7
  have o8z : W4.cell? ⟨x0, 8, none⟩ = some (.slice none 0 0) := cell_of K4.out 8 (by simp)
  have o8f : W4.frozen? ⟨x0, 8, none⟩ = false := K4.out.frozen 8
  have o9z : W4.cell? ⟨x0, 9, none⟩ = some (.string ⟨#[]⟩) := cell_of K4.out 9 (by simp)
  have o9f : W4.frozen? ⟨x0, 9, none⟩ = false := K4.out.frozen 9
  have o10z : W4.cell? ⟨x0, 10, none⟩ = some (.string ⟨#[]⟩) := cell_of K4.out 10 (by simp)
  have o10f : W4.frozen? ⟨x0, 10, none⟩ = false := K4.out.frozen 10
  have hx0l : x0 < W4.heap.size := K4.out.lt
  obtain ⟨Wf, hWf⟩ : ∃ x, Hid (x = (((((((((((W4s.setCell ⟨x0, 0, none⟩ (.int .i64 6)).setCell ⟨x0, 1, none⟩ (.int .i64 y2)).setCell ⟨x0, 2, none⟩ (.int .i64 y3)).setCell ⟨x0, 3, none⟩ (.int .i64 0)).setCell ⟨x0, 4, none⟩ (.int .i64 0)).setCell ⟨x0, 5, none⟩ (.int .i64 0)).setCell ⟨x0, 6, none⟩ (.slice Avd y4.length cvd)).setCell ⟨x0, 7, none⟩ (.string ⟨#[]⟩)).setCell ⟨x0, 8, none⟩ (.slice none 0 0)).setCell ⟨x0, 9, none⟩ (.string ⟨#[]⟩)).setCell ⟨x0, 10, none⟩ (.string ⟨#[]⟩))) := ⟨_, Lib.hid rfl⟩
  have BF : Hid (Fr (gq g q) (gq g q) w Wf) := by show Fr _ _ _ _; rw [hWf.out]; exact (((((((((((B4s.out.set (p := ⟨x0, 0, none⟩) (.inr hxw) (.int .i64 6)).set (p := ⟨x0, 1, none⟩) (.inr hxw) (.int .i64 y2)).set (p := ⟨x0, 2, none⟩) (.inr hxw) (.int .i64 y3)).set (p := ⟨x0, 3, none⟩) (.inr hxw) (.int .i64 0)).set (p := ⟨x0, 4, none⟩) (.inr hxw) (.int .i64 0)).set (p := ⟨x0, 5, none⟩) (.inr hxw) (.int .i64 0)).set (p := ⟨x0, 6, none⟩) (.inr hxw) (.slice Avd y4.length cvd)).set (p := ⟨x0, 7, none⟩) (.inr hxw) (.string ⟨#[]⟩)).set (p := ⟨x0, 8, none⟩) (.inr hxw) (.slice none 0 0)).set (p := ⟨x0, 9, none⟩) (.inr hxw) (.string ⟨#[]⟩)).set (p := ⟨x0, 10, none⟩) (.inr hxw) (.string ⟨#[]⟩))
  have HF : Hid (Rr Wf B g q s4 d) := by show Rr _ _ _ _ _ _; rw [hWf.out]; exact (rr_set (rr_set (rr_set (rr_set (rr_set (rr_set (rr_set (rr_set (rr_set (rr_set (rr_set H4s.out hxB 0 (.int .i64 6)) hxB 1 (.int .i64 y2)) hxB 2 (.int .i64 y3)) hxB 3 (.int .i64 0)) hxB 4 (.int .i64 0)) hxB 5 (.int .i64 0)) hxB 6 (.slice Avd y4.length cvd)) hxB 7 (.string ⟨#[]⟩)) hxB 8 (.slice none 0 0)) hxB 9 (.string ⟨#[]⟩)) hxB 10 (.string ⟨#[]⟩))
  have KF : Hid (Bk Wf x0 62 #[.int .i64 6, .int .i64 y2, .int .i64 y3, .int .i64 0, .int .i64 0, .int .i64 0, .slice Avd y4.length cvd, .string ⟨#[]⟩, .slice none 0 0, .string ⟨#[]⟩, .string ⟨#[]⟩]) := by show Bk _ _ _ _; rw [hWf.out]; simpa using (((((((((((K4s.out.set 0 (.int .i64 6)).set 1 (.int .i64 y2)).set 2 (.int .i64 y3)).set 3 (.int .i64 0)).set 4 (.int .i64 0)).set 5 (.int .i64 0)).set 6 (.slice Avd y4.length cvd)).set 7 (.string ⟨#[]⟩)).set 8 (.slice none 0 0)).set 9 (.string ⟨#[]⟩)).set 10 (.string ⟨#[]⟩))
  have Lvd : Hid (Ls Wf (fun k => w.heap.size ≤ k) (.slice Avd y4.length cvd) y4) := by show Ls _ _ _ _; rw [hWf.out]; exact (ls_set (ls_set (ls_set (ls_set (ls_set (ls_set (ls_set (ls_set (ls_set (ls_set (ls_set Rvd4.out (fun k hk => by omega) 0 (.int .i64 6)) (fun k hk => by omega) 1 (.int .i64 y2)) (fun k hk => by omega) 2 (.int .i64 y3)) (fun k hk => by omega) 3 (.int .i64 0)) (fun k hk => by omega) 4 (.int .i64 0)) (fun k hk => by omega) 5 (.int .i64 0)) (fun k hk => by omega) 6 (.slice Avd y4.length cvd)) (fun k hk => by omega) 7 (.string ⟨#[]⟩)) (fun k hk => by omega) 8 (.slice none 0 0)) (fun k hk => by omega) 9 (.string ⟨#[]⟩)) (fun k hk => by omega) 10 (.string ⟨#[]⟩)).mono fun b hb _ => by omega
  have o0 : Wf.cell? ⟨x0, 0, none⟩ = some (.int .i64 6) := cell_of KF.out 0 (by simp)
  have o1 : Wf.cell? ⟨x0, 1, none⟩ = some (.int .i64 y2) := cell_of KF.out 1 (by simp)
  have o2 : Wf.cell? ⟨x0, 2, none⟩ = some (.int .i64 y3) := cell_of KF.out 2 (by simp)
  have o3 : Wf.cell? ⟨x0, 3, none⟩ = some (.int .i64 0) := cell_of KF.out 3 (by simp)
  have o4 : Wf.cell? ⟨x0, 4, none⟩ = some (.int .i64 0) := cell_of KF.out 4 (by simp)
  have o5 : Wf.cell? ⟨x0, 5, none⟩ = some (.int .i64 0) := cell_of KF.out 5 (by simp)
  have o6 : Wf.cell? ⟨x0, 6, none⟩ = some (.slice Avd y4.length cvd) := cell_of KF.out 6 (by simp)
  have o7 : Wf.cell? ⟨x0, 7, none⟩ = some (.string ⟨#[]⟩) := cell_of KF.out 7 (by simp)
  have o8 : Wf.cell? ⟨x0, 8, none⟩ = some (.slice none 0 0) := cell_of KF.out 8 (by simp)
  have o9 : Wf.cell? ⟨x0, 9, none⟩ = some (.string ⟨#[]⟩) := cell_of KF.out 9 (by simp)
  have o10 : Wf.cell? ⟨x0, 10, none⟩ = some (.string ⟨#[]⟩) := cell_of KF.out 10 (by simp)
  clear K4s V4s B4s H4s KF
  go_wp2
  try rw [← hW4s.out]
  try rw [← hWf.out]
  refine bodyPost_ret (v := .agg #[.int .i64 6, .int .i64 y2, .int .i64 y3, .int .i64 0, .int .i64 0, .int .i64 0, .slice Avd y4.length cvd, .string ⟨#[]⟩, .slice none 0 0, .string ⟨#[]⟩, .string ⟨#[]⟩]) (by simp [results, Tryz.results44, go_sem, o0, o1, o2, o3, o4, o5, o6, o7, o8, o9, o10]) rfl ?_
  show RstepT B g q w s d _ _
  unfold RstepT
  rw [hR.out]
  exact ⟨_, _, rfl, Lvd.out, Ls.nil _ _, HF.out, BF.out⟩
set_option maxRecDepth 100000 in
set_option maxHeartbeats 4000000 in
theorem rstep_2 (w : World) (B g q : Nat) (s : RS) (d : Int) (h : Rr w B g q s d) (s1 : RS) (e1 : Hid ((2, s1) = rK 6 s)) : Calls Tryz.prog 44 #[.pointer (some ⟨g, 0, none⟩)] w (RstepT B g q w s d) := by
  obtain ⟨⟨y2, s2⟩, e2⟩ : ∃ x, Hid (x = rI s1) := ⟨_, Lib.hid rfl⟩
  obtain ⟨⟨y3, s3⟩, e3⟩ : ∃ x, Hid (x = rI s2) := ⟨_, Lib.hid rfl⟩
  obtain ⟨⟨y4, s4⟩, e4⟩ : ∃ x, Hid (x = rI s3) := ⟨_, Lib.hid rfl⟩
  obtain ⟨⟨y5, s5⟩, e5⟩ : ∃ x, Hid (x = rI s4) := ⟨_, Lib.hid rfl⟩
  obtain ⟨⟨y6, s6⟩, e6⟩ : ∃ x, Hid (x = rI s5) := ⟨_, Lib.hid rfl⟩
  obtain ⟨⟨y7, s7⟩, e7⟩ : ∃ x, Hid (x = rL rTk s6) := ⟨_, Lib.hid rfl⟩
  have qB : rStB 2 y2 = rS5 (fun t g e i d => ⟨(2 : Nat), y2, t, g, e, i, d, noM, .empty, .empty⟩) rI rI rI rI (rL rTk) := by unfold rStB; rw [if_neg (by decide), if_pos rfl]
  have hR : Hid (rSt s = (⟨2, y2, y3, y4, y5, y6, y7, noM, .empty, .empty⟩, s7)) := by show _ = _; simp only [rSt, ← e1.out, ← e2.out, qB, rS5, ← e3.out, ← e4.out, ← e5.out, ← e6.out, ← e7.out]; rfl
  have hlo := Lib.hid h.lo
  have hbs := h.base
  obtain ⟨x0, hx0⟩ : ∃ x0, Hid (x0 = w.heap.size) := ⟨_, Lib.hid rfl⟩
  obtain ⟨W0, hW0⟩ : ∃ x, Hid (x = w.alloc (.cells #[.int .i64 0, .int .i64 0, .int .i64 0, .int .i64 0, .int .i64 0, .int .i64 0, .slice none 0 0, .string ⟨#[]⟩, .slice none 0 0, .string ⟨#[]⟩, .string ⟨#[]⟩] 62)) := ⟨_, Lib.hid rfl⟩
  have H0 : Hid (Rr W0 B g q s d) := by show Rr _ _ _ _ _ _; rw [hW0.out]; exact h.alloc _
  have B0 : Hid (Fr (gq g q) (gq g q) w W0) := by show Fr _ _ _ _; rw [hW0.out]; exact (Fr.refl h.own).alloc _
  have K0 : Hid (Bk W0 x0 62 #[.int .i64 0, .int .i64 0, .int .i64 0, .int .i64 0, .int .i64 0, .int .i64 0, .slice none 0 0, .string ⟨#[]⟩, .slice none 0 0, .string ⟨#[]⟩, .string ⟨#[]⟩]) := by show Bk _ _ _ _; rw [hW0.out, hx0.out]; exact Bk.new _ _ _
  have hn0 : ¬ gq g q x0 := fun hh => by have := hlo.out _ hh; have := hx0.out; omega
  have hxB : B ≤ x0 := by rw [hx0.out]; exact hbs
  have hxw : w.heap.size ≤ x0 := by rw [hx0.out]; exact Nat.le_refl _
  clear h
  go_enter Tryz.func44, Tryz.ntmps44
  go_wp2_with fail
  rw [← hW0.out, ← hx0.out]
  have KK := kind_any W0 B g q s d H0.out 6 (by decide)
  rw [← e1.out] at KK
  refine KK.mono ?_
  clear KK
  rintro e W1 ⟨rfl, h1, f1⟩
  try dsimp only at h1 ⊢
  have B1 := Lib.hid (B0.out.trans f1)
  have K1 := Lib.hid (bk_fr K0.out f1 hn0)
  have H1 := Lib.hid h1
  have z1 := f1.size
  clear h1 f1
  have p1 := rr_cell0 H1.out
  go_wp2_with fail
  have KK := number_r W1 B g q s1 d H1.out
  rw [← e2.out] at KK
  refine KK.mono ?_
  clear KK
  rintro e W2 ⟨rfl, h2, f2⟩
  try dsimp only at h2 ⊢
  have B2 := Lib.hid (B1.out.trans f2)
  have K2 := Lib.hid (bk_fr K1.out f2 hn0)
  have H2 := Lib.hid h2
  have z2 := f2.size
  clear h2 f2
  have p2 := rr_cell0 H2.out
  obtain ⟨x1, hx1⟩ : ∃ x1, Hid (x1 = W2.heap.size) := ⟨_, Lib.hid rfl⟩
  obtain ⟨W2v, hW2v⟩ : ∃ x, Hid (x = W2.alloc (.cells #[.int .i64 2, .int .i64 y2, .int .i64 0, .int .i64 0, .int .i64 0, .int .i64 0, .slice none 0 0, .string ⟨#[]⟩, .slice none 0 0, .string ⟨#[]⟩, .string ⟨#[]⟩] 62)) := ⟨_, Lib.hid rfl⟩
  have hx01 : x0 < x1 := by rw [hx1.out]; exact K2.out.lt
  have hn1 : ¬ gq g q x1 := fun hh => by have := hlo.out _ hh; omega
  have HG1 : Hid (∀ k, x1 < k → ¬ gq g q k) := fun k hk hh => by have := hlo.out _ hh; omega
  have hxg : x1 ≠ g := fun e => hn1 (.inl e)
  have hgx : g ≠ x1 := fun e => hxg e.symm
  have hx10 : x1 ≠ x0 := by omega
  have hx01n : x0 ≠ x1 := by omega
  have hgl1 : g < W2.heap.size := H2.out.own g (.inl rfl)
  have B2v : Hid (Fr (gq g q) (gq g q) w W2v) := by show Fr _ _ _ _; rw [hW2v.out]; exact B2.out.alloc _
  have K2v : Hid (Bk W2v x0 62 #[.int .i64 0, .int .i64 0, .int .i64 0, .int .i64 0, .int .i64 0, .int .i64 0, .slice none 0 0, .string ⟨#[]⟩, .slice none 0 0, .string ⟨#[]⟩, .string ⟨#[]⟩]) := by show Bk _ _ _ _; rw [hW2v.out]; exact K2.out.alloc _
  have V2v : Hid (Bk W2v x1 62 #[.int .i64 2, .int .i64 y2, .int .i64 0, .int .i64 0, .int .i64 0, .int .i64 0, .slice none 0 0, .string ⟨#[]⟩, .slice none 0 0, .string ⟨#[]⟩, .string ⟨#[]⟩]) := by show Bk _ _ _ _; rw [hW2v.out, hx1.out]; exact Bk.new _ _ _
  have H2v : Hid (Rr W2v B g q s2 d) := by show Rr _ _ _ _ _ _; rw [hW2v.out]; exact H2.out.alloc _
  have pv := rr_cell0 H2v.out
  have cv_0 : W2v.cell? ⟨x1, 0, none⟩ = some (.int .i64 2) := cell_of V2v.out 0 (by simp)
  have cv_1 : W2v.cell? ⟨x1, 1, none⟩ = some (.int .i64 y2) := cell_of V2v.out 1 (by simp)
  have cv_2 : W2v.cell? ⟨x1, 2, none⟩ = some (.int .i64 0) := cell_of V2v.out 2 (by simp)
  have cv_3 : W2v.cell? ⟨x1, 3, none⟩ = some (.int .i64 0) := cell_of V2v.out 3 (by simp)
  have cv_4 : W2v.cell? ⟨x1, 4, none⟩ = some (.int .i64 0) := cell_of V2v.out 4 (by simp)
  have cv_5 : W2v.cell? ⟨x1, 5, none⟩ = some (.int .i64 0) := cell_of V2v.out 5 (by simp)
  have cv_6 : W2v.cell? ⟨x1, 6, none⟩ = some (.slice none 0 0) := cell_of V2v.out 6 (by simp)
  have cv_7 : W2v.cell? ⟨x1, 7, none⟩ = some (.string ⟨#[]⟩) := cell_of V2v.out 7 (by simp)
  have cv_8 : W2v.cell? ⟨x1, 8, none⟩ = some (.slice none 0 0) := cell_of V2v.out 8 (by simp)
  have cv_9 : W2v.cell? ⟨x1, 9, none⟩ = some (.string ⟨#[]⟩) := cell_of V2v.out 9 (by simp)
  have cv_10 : W2v.cell? ⟨x1, 10, none⟩ = some (.string ⟨#[]⟩) := cell_of V2v.out 10 (by simp)
  have hxw1 : w.heap.size ≤ x1 := by omega
  have hxB1 : B ≤ x1 := by omega
  have hfv : ∀ k, W2v.frozen? ⟨x1, k, none⟩ = false := fun k => V2v.out.frozen k
  go_wp2_with fail
  rw [← hW2v.out, ← hx1.out]
  have KK := number_r W2v B g q s2 d H2v.out
  rw [← e3.out] at KK
  refine KK.mono ?_
  clear KK
  rintro e W3 ⟨rfl, h3, f3⟩
  try dsimp only at h3 ⊢
  have B3 := Lib.hid (B2v.out.trans f3)
  have K3 := Lib.hid (bk_fr K2v.out f3 hn0)
  have V3 := Lib.hid (bk_fr V2v.out f3 hn1)
  have H3 := Lib.hid h3
  have z3 := f3.size
  clear h3 f3
  have p3 := rr_cell0 H3.out
  have c3_0 : W3.cell? ⟨x1, 0, none⟩ = some (.int .i64 2) := cell_of V3.out 0 (by simp)
  have c3_1 : W3.cell? ⟨x1, 1, none⟩ = some (.int .i64 y2) := cell_of V3.out 1 (by simp)
  have c3_2 : W3.cell? ⟨x1, 2, none⟩ = some (.int .i64 0) := cell_of V3.out 2 (by simp)
  have c3_3 : W3.cell? ⟨x1, 3, none⟩ = some (.int .i64 0) := cell_of V3.out 3 (by simp)
  have c3_4 : W3.cell? ⟨x1, 4, none⟩ = some (.int .i64 0) := cell_of V3.out 4 (by simp)
  have c3_5 : W3.cell? ⟨x1, 5, none⟩ = some (.int .i64 0) := cell_of V3.out 5 (by simp)
  have c3_6 : W3.cell? ⟨x1, 6, none⟩ = some (.slice none 0 0) := cell_of V3.out 6 (by simp)
  have c3_7 : W3.cell? ⟨x1, 7, none⟩ = some (.string ⟨#[]⟩) := cell_of V3.out 7 (by simp)
  have c3_8 : W3.cell? ⟨x1, 8, none⟩ = some (.slice none 0 0) := cell_of V3.out 8 (by simp)
  have c3_9 : W3.cell? ⟨x1, 9, none⟩ = some (.string ⟨#[]⟩) := cell_of V3.out 9 (by simp)
  have c3_10 : W3.cell? ⟨x1, 10, none⟩ = some (.string ⟨#[]⟩) := cell_of V3.out 10 (by simp)
  have fz3 : ∀ k, W3.frozen? ⟨x1, k, none⟩ = false := fun k => V3.out.frozen k
  go_wp2_with fail
  have KK := number_r W3 B g q s3 d H3.out
  rw [← e4.out] at KK
  refine KK.mono ?_
  clear KK
  rintro e W4 ⟨rfl, h4, f4⟩
  try dsimp only at h4 ⊢
  have B4 := Lib.hid (B3.out.trans f4)
  have K4 := Lib.hid (bk_fr K3.out f4 hn0)
  have V4 := Lib.hid (bk_fr V3.out f4 hn1)
  have H4 := Lib.hid h4
  have z4 := f4.size
  clear h4 f4
  have p4 := rr_cell0 H4.out
  have c4_0 : W4.cell? ⟨x1, 0, none⟩ = some (.int .i64 2) := cell_of V4.out 0 (by simp)
  have c4_1 : W4.cell? ⟨x1, 1, none⟩ = some (.int .i64 y2) := cell_of V4.out 1 (by simp)
  have c4_2 : W4.cell? ⟨x1, 2, none⟩ = some (.int .i64 0) := cell_of V4.out 2 (by simp)
  have c4_3 : W4.cell? ⟨x1, 3, none⟩ = some (.int .i64 0) := cell_of V4.out 3 (by simp)
  have c4_4 : W4.cell? ⟨x1, 4, none⟩ = some (.int .i64 0) := cell_of V4.out 4 (by simp)
  have c4_5 : W4.cell? ⟨x1, 5, none⟩ = some (.int .i64 0) := cell_of V4.out 5 (by simp)
  have c4_6 : W4.cell? ⟨x1, 6, none⟩ = some (.slice none 0 0) := cell_of V4.out 6 (by simp)
  have c4_7 : W4.cell? ⟨x1, 7, none⟩ = some (.string ⟨#[]⟩) := cell_of V4.out 7 (by simp)
  have c4_8 : W4.cell? ⟨x1, 8, none⟩ = some (.slice none 0 0) := cell_of V4.out 8 (by simp)
  have c4_9 : W4.cell? ⟨x1, 9, none⟩ = some (.string ⟨#[]⟩) := cell_of V4.out 9 (by simp)
  have c4_10 : W4.cell? ⟨x1, 10, none⟩ = some (.string ⟨#[]⟩) := cell_of V4.out 10 (by simp)
  have fz4 : ∀ k, W4.frozen? ⟨x1, k, none⟩ = false := fun k => V4.out.frozen k
  go_wp2_with fail
  have KK := number_r W4 B g q s4 d H4.out
  rw [← e5.out] at KK
  refine KK.mono ?_
  clear KK
  rintro e W5 ⟨rfl, h5, f5⟩
  try dsimp only at h5 ⊢
  have B5 := Lib.hid (B4.out.trans f5)
  have K5 := Lib.hid (bk_fr K4.out f5 hn0)
  have V5 := Lib.hid (bk_fr V4.out f5 hn1)
  have H5 := Lib.hid h5
  have z5 := f5.size
  clear h5 f5
  have p5 := rr_cell0 H5.out
  have c5_0 : W5.cell? ⟨x1, 0, none⟩ = some (.int .i64 2) := cell_of V5.out 0 (by simp)
  have c5_1 : W5.cell? ⟨x1, 1, none⟩ = some (.int .i64 y2) := cell_of V5.out 1 (by simp)
  have c5_2 : W5.cell? ⟨x1, 2, none⟩ = some (.int .i64 0) := cell_of V5.out 2 (by simp)
  have c5_3 : W5.cell? ⟨x1, 3, none⟩ = some (.int .i64 0) := cell_of V5.out 3 (by simp)
  have c5_4 : W5.cell? ⟨x1, 4, none⟩ = some (.int .i64 0) := cell_of V5.out 4 (by simp)
  have c5_5 : W5.cell? ⟨x1, 5, none⟩ = some (.int .i64 0) := cell_of V5.out 5 (by simp)
  have c5_6 : W5.cell? ⟨x1, 6, none⟩ = some (.slice none 0 0) := cell_of V5.out 6 (by simp)
  have c5_7 : W5.cell? ⟨x1, 7, none⟩ = some (.string ⟨#[]⟩) := cell_of V5.out 7 (by simp)
  have c5_8 : W5.cell? ⟨x1, 8, none⟩ = some (.slice none 0 0) := cell_of V5.out 8 (by simp)
  have c5_9 : W5.cell? ⟨x1, 9, none⟩ = some (.string ⟨#[]⟩) := cell_of V5.out 9 (by simp)
  have c5_10 : W5.cell? ⟨x1, 10, none⟩ = some (.string ⟨#[]⟩) := cell_of V5.out 10 (by simp)
  have fz5 : ∀ k, W5.frozen? ⟨x1, k, none⟩ = false := fun k => V5.out.frozen k
  go_wp2_with fail
  have KK := number_r W5 B g q s5 d H5.out
  rw [← e6.out] at KK
  refine KK.mono ?_
  clear KK
  rintro e W6 ⟨rfl, h6, f6⟩
  try dsimp only at h6 ⊢
  have B6 := Lib.hid (B5.out.trans f6)
  have K6 := Lib.hid (bk_fr K5.out f6 hn0)
  have V6 := Lib.hid (bk_fr V5.out f6 hn1)
  have H6 := Lib.hid h6
  have z6 := f6.size
  clear h6 f6
  have p6 := rr_cell0 H6.out
  have c6_0 : W6.cell? ⟨x1, 0, none⟩ = some (.int .i64 2) := cell_of V6.out 0 (by simp)
  have c6_1 : W6.cell? ⟨x1, 1, none⟩ = some (.int .i64 y2) := cell_of V6.out 1 (by simp)
  have c6_2 : W6.cell? ⟨x1, 2, none⟩ = some (.int .i64 0) := cell_of V6.out 2 (by simp)
  have c6_3 : W6.cell? ⟨x1, 3, none⟩ = some (.int .i64 0) := cell_of V6.out 3 (by simp)
  have c6_4 : W6.cell? ⟨x1, 4, none⟩ = some (.int .i64 0) := cell_of V6.out 4 (by simp)
  have c6_5 : W6.cell? ⟨x1, 5, none⟩ = some (.int .i64 0) := cell_of V6.out 5 (by simp)
  have c6_6 : W6.cell? ⟨x1, 6, none⟩ = some (.slice none 0 0) := cell_of V6.out 6 (by simp)
  have c6_7 : W6.cell? ⟨x1, 7, none⟩ = some (.string ⟨#[]⟩) := cell_of V6.out 7 (by simp)
  have c6_8 : W6.cell? ⟨x1, 8, none⟩ = some (.slice none 0 0) := cell_of V6.out 8 (by simp)
  have c6_9 : W6.cell? ⟨x1, 9, none⟩ = some (.string ⟨#[]⟩) := cell_of V6.out 9 (by simp)
  have c6_10 : W6.cell? ⟨x1, 10, none⟩ = some (.string ⟨#[]⟩) := cell_of V6.out 10 (by simp)
  have fz6 : ∀ k, W6.frozen? ⟨x1, k, none⟩ = false := fun k => V6.out.frozen k
  have w6_2 := fz6 2
  have w6_3 := fz6 3
  have w6_4 := fz6 4
  have w6_5 := fz6 5
  obtain ⟨W6s, hW6s⟩ : ∃ x, Hid (x = ((((W6.setCell ⟨x1, 2, none⟩ (.int .i64 y3)).setCell ⟨x1, 3, none⟩ (.int .i64 y4)).setCell ⟨x1, 4, none⟩ (.int .i64 y5)).setCell ⟨x1, 5, none⟩ (.int .i64 y6))) := ⟨_, Lib.hid rfl⟩
  have B6s : Hid (Fr (gq g q) (gq g q) w W6s) := by show Fr _ _ _ _; rw [hW6s.out]; exact ((((B6.out.set (p := ⟨x1, 2, none⟩) (.inr hxw1) (.int .i64 y3)).set (p := ⟨x1, 3, none⟩) (.inr hxw1) (.int .i64 y4)).set (p := ⟨x1, 4, none⟩) (.inr hxw1) (.int .i64 y5)).set (p := ⟨x1, 5, none⟩) (.inr hxw1) (.int .i64 y6))
  have K6s : Hid (Bk W6s x0 62 #[.int .i64 0, .int .i64 0, .int .i64 0, .int .i64 0, .int .i64 0, .int .i64 0, .slice none 0 0, .string ⟨#[]⟩, .slice none 0 0, .string ⟨#[]⟩, .string ⟨#[]⟩]) := by show Bk _ _ _ _; rw [hW6s.out]; exact ((((K6.out.far (p := ⟨x1, 2, none⟩) hx01n (.int .i64 y3)).far (p := ⟨x1, 3, none⟩) hx01n (.int .i64 y4)).far (p := ⟨x1, 4, none⟩) hx01n (.int .i64 y5)).far (p := ⟨x1, 5, none⟩) hx01n (.int .i64 y6))
  have V6s : Hid (Bk W6s x1 62 #[.int .i64 2, .int .i64 y2, .int .i64 y3, .int .i64 y4, .int .i64 y5, .int .i64 y6, .slice none 0 0, .string ⟨#[]⟩, .slice none 0 0, .string ⟨#[]⟩, .string ⟨#[]⟩]) := by show Bk _ _ _ _; rw [hW6s.out]; simpa using ((((V6.out.set 2 (.int .i64 y3)).set 3 (.int .i64 y4)).set 4 (.int .i64 y5)).set 5 (.int .i64 y6))
  have H6s : Hid (Rr W6s B g q s6 d) := by show Rr _ _ _ _ _ _; rw [hW6s.out]; exact (rr_set (rr_set (rr_set (rr_set H6.out hxB1 2 (.int .i64 y3)) hxB1 3 (.int .i64 y4)) hxB1 4 (.int .i64 y5)) hxB1 5 (.int .i64 y6))
  have p6s := rr_cell0 H6s.out
  have d6_0 : W6s.cell? ⟨x1, 0, none⟩ = some (.int .i64 2) := cell_of V6s.out 0 (by simp)
  have d6_1 : W6s.cell? ⟨x1, 1, none⟩ = some (.int .i64 y2) := cell_of V6s.out 1 (by simp)
  have d6_2 : W6s.cell? ⟨x1, 2, none⟩ = some (.int .i64 y3) := cell_of V6s.out 2 (by simp)
  have d6_3 : W6s.cell? ⟨x1, 3, none⟩ = some (.int .i64 y4) := cell_of V6s.out 3 (by simp)
  have d6_4 : W6s.cell? ⟨x1, 4, none⟩ = some (.int .i64 y5) := cell_of V6s.out 4 (by simp)
  have d6_5 : W6s.cell? ⟨x1, 5, none⟩ = some (.int .i64 y6) := cell_of V6s.out 5 (by simp)
  have d6_6 : W6s.cell? ⟨x1, 6, none⟩ = some (.slice none 0 0) := cell_of V6s.out 6 (by simp)
  have d6_7 : W6s.cell? ⟨x1, 7, none⟩ = some (.string ⟨#[]⟩) := cell_of V6s.out 7 (by simp)
  have d6_8 : W6s.cell? ⟨x1, 8, none⟩ = some (.slice none 0 0) := cell_of V6s.out 8 (by simp)
  have d6_9 : W6s.cell? ⟨x1, 9, none⟩ = some (.string ⟨#[]⟩) := cell_of V6s.out 9 (by simp)
  have d6_10 : W6s.cell? ⟨x1, 10, none⟩ = some (.string ⟨#[]⟩) := cell_of V6s.out 10 (by simp)
  go_wp2_with fail
  rw [← hW6s.out]
  have KK := rl_tk W6s B g q s6 d H6s.out
  rw [← e7.out] at KK
  refine KK.mono ?_
  clear KK
  rintro e W7 ⟨vvd, rfl, rvd, h7, f7⟩
  try dsimp only at h7 rvd ⊢
  obtain ⟨Avd, cvd, rfl⟩ := rvd.form
  have Rvd7 : Hid (Ls W7 (fun k => x1 < k) (.slice Avd y7.length cvd) y7) := rvd.mono fun b hb _ => Nat.lt_of_lt_of_le V6s.out.lt hb
  clear rvd
  have B7 := Lib.hid (B6s.out.trans f7)
  have K7 := Lib.hid (bk_fr K6s.out f7 hn0)
  have V7 := Lib.hid (bk_fr V6s.out f7 hn1)
  have H7 := Lib.hid h7
  have z7 := f7.size
  clear h7 f7
  have p7 := rr_cell0 H7.out
  have c7_0 : W7.cell? ⟨x1, 0, none⟩ = some (.int .i64 2) := cell_of V7.out 0 (by simp)
  have c7_1 : W7.cell? ⟨x1, 1, none⟩ = some (.int .i64 y2) := cell_of V7.out 1 (by simp)
  have c7_2 : W7.cell? ⟨x1, 2, none⟩ = some (.int .i64 y3) := cell_of V7.out 2 (by simp)
  have c7_3 : W7.cell? ⟨x1, 3, none⟩ = some (.int .i64 y4) := cell_of V7.out 3 (by simp)
  have c7_4 : W7.cell? ⟨x1, 4, none⟩ = some (.int .i64 y5) := cell_of V7.out 4 (by simp)
  have c7_5 : W7.cell? ⟨x1, 5, none⟩ = some (.int .i64 y6) := cell_of V7.out 5 (by simp)
  have c7_6 : W7.cell? ⟨x1, 6, none⟩ = some (.slice none 0 0) := cell_of V7.out 6 (by simp)
  have c7_7 : W7.cell? ⟨x1, 7, none⟩ = some (.string ⟨#[]⟩) := cell_of V7.out 7 (by simp)
  have c7_8 : W7.cell? ⟨x1, 8, none⟩ = some (.slice none 0 0) := cell_of V7.out 8 (by simp)
  have c7_9 : W7.cell? ⟨x1, 9, none⟩ = some (.string ⟨#[]⟩) := cell_of V7.out 9 (by simp)
  have c7_10 : W7.cell? ⟨x1, 10, none⟩ = some (.string ⟨#[]⟩) := cell_of V7.out 10 (by simp)
  have fz7 : ∀ k, W7.frozen? ⟨x1, k, none⟩ = false := fun k => V7.out.frozen k
  have w7_6 := fz7 6
  obtain ⟨W7s, hW7s⟩ : ∃ x, Hid (x = (W7.setCell ⟨x1, 6, none⟩ (.slice Avd y7.length cvd))) := ⟨_, Lib.hid rfl⟩
  have B7s : Hid (Fr (gq g q) (gq g q) w W7s) := by show Fr _ _ _ _; rw [hW7s.out]; exact (B7.out.set (p := ⟨x1, 6, none⟩) (.inr hxw1) (.slice Avd y7.length cvd))
  have K7s : Hid (Bk W7s x0 62 #[.int .i64 0, .int .i64 0, .int .i64 0, .int .i64 0, .int .i64 0, .int .i64 0, .slice none 0 0, .string ⟨#[]⟩, .slice none 0 0, .string ⟨#[]⟩, .string ⟨#[]⟩]) := by show Bk _ _ _ _; rw [hW7s.out]; exact (K7.out.far (p := ⟨x1, 6, none⟩) hx01n (.slice Avd y7.length cvd))
  have V7s : Hid (Bk W7s x1 62 #[.int .i64 2, .int .i64 y2, .int .i64 y3, .int .i64 y4, .int .i64 y5, .int .i64 y6, .slice Avd y7.length cvd, .string ⟨#[]⟩, .slice none 0 0, .string ⟨#[]⟩, .string ⟨#[]⟩]) := by show Bk _ _ _ _; rw [hW7s.out]; simpa using (V7.out.set 6 (.slice Avd y7.length cvd))
  have H7s : Hid (Rr W7s B g q s7 d) := by show Rr _ _ _ _ _ _; rw [hW7s.out]; exact (rr_set H7.out hxB1 6 (.slice Avd y7.length cvd))
  have Qvd : Ls ((W7.setCell ⟨x1, 6, none⟩ (.slice Avd y7.length cvd))) (fun k => x1 < k) (.slice Avd y7.length cvd) y7 := (ls_set Rvd7.out (fun k hk => by omega) 6 (.slice Avd y7.length cvd))
  rw [← hW7s.out] at Qvd
  replace Rvd7 := Lib.hid Qvd
  clear Qvd
  have p7s := rr_cell0 H7s.out
  have d7_0 : W7s.cell? ⟨x1, 0, none⟩ = some (.int .i64 2) := cell_of V7s.out 0 (by simp)
  have d7_1 : W7s.cell? ⟨x1, 1, none⟩ = some (.int .i64 y2) := cell_of V7s.out 1 (by simp)
  have d7_2 : W7s.cell? ⟨x1, 2, none⟩ = some (.int .i64 y3) := cell_of V7s.out 2 (by simp)
  have d7_3 : W7s.cell? ⟨x1, 3, none⟩ = some (.int .i64 y4) := cell_of V7s.out 3 (by simp)
  have d7_4 : W7s.cell? ⟨x1, 4, none⟩ = some (.int .i64 y5) := cell_of V7s.out 4 (by simp)
  have d7_5 : W7s.cell? ⟨x1, 5, none⟩ = some (.int .i64 y6) := cell_of V7s.out 5 (by simp)
  have d7_6 : W7s.cell? ⟨x1, 6, none⟩ = some (.slice Avd y7.length cvd) := cell_of V7s.out 6 (by simp)
  have d7_7 : W7s.cell? ⟨x1, 7, none⟩ = some (.string ⟨#[]⟩) := cell_of V7s.out 7 (by simp)
  have d7_8 : W7s.cell? ⟨x1, 8, none⟩ = some (.slice none 0 0) := cell_of V7s.out 8 (by simp)
  have d7_9 : W7s.cell? ⟨x1, 9, none⟩ = some (.string ⟨#[]⟩) := cell_of V7s.out 9 (by simp)
  have d7_10 : W7s.cell? ⟨x1, 10, none⟩ = some (.string ⟨#[]⟩) := cell_of V7s.out 10 (by simp)
  have o0z : W7.cell? ⟨x0, 0, none⟩ = some (.int .i64 0) := cell_of K7.out 0 (by simp)
  have o0f : W7.frozen? ⟨x0, 0, none⟩ = false := K7.out.frozen 0
  have o1z : W7.cell? ⟨x0, 1, none⟩ = some (.int .i64 0) := cell_of K7.out 1 (by simp)
  have o1f : W7.frozen? ⟨x0, 1, none⟩ = false := K7.out.frozen 1
  have o2z : W7.cell? ⟨x0, 2, none⟩ = some (.int .i64 0) := cell_of K7.out 2 (by simp)
  have o2f : W7.frozen? ⟨x0, 2, none⟩ = false := K7.out.frozen 2
  have o3z : W7.cell? ⟨x0, 3, none⟩ = some (.int .i64 0) := cell_of K7.out 3 (by simp)
  have o3f : W7.frozen? ⟨x0, 3, none⟩ = false := K7.out.frozen 3
  have o4z : W7.cell? ⟨x0, 4, none⟩ = some (.int .i64 0) := cell_of K7.out 4 (by simp)
  have o4f : W7.frozen? ⟨x0, 4, none⟩ = false := K7.out.frozen 4
  have o5z : W7.cell? ⟨x0, 5, none⟩ = some (.int .i64 0) := cell_of K7.out 5 (by simp)
  have o5f : W7.frozen? ⟨x0, 5, none⟩ = false := K7.out.frozen 5
  have o6z : W7.cell? ⟨x0, 6, none⟩ = some (.slice none 0 0) := cell_of K7.out 6 (by simp)
  have o6f : W7.frozen? ⟨x0, 6, none⟩ = false := K7.out.frozen 6
  have o7z : W7.cell? ⟨x0, 7, none⟩ = some (.string ⟨#[]⟩) := cell_of K7.out 7 (by simp)
  have o7f : W7.frozen? ⟨x0, 7, none⟩ = false := K7.out.frozen 7
  have o8z : W7.cell? ⟨x0, 8, none⟩ = some (.slice none 0 0) := cell_of K7.out 8 (by simp)
  have o8f : W7.frozen? ⟨x0, 8, none⟩ = false := K7.out.frozen 8
  have o9z : W7.cell? ⟨x0, 9, none⟩ = some (.string ⟨#[]⟩) := cell_of K7.out 9 (by simp)
  have o9f : W7.frozen? ⟨x0, 9, none⟩ = false := K7.out.frozen 9
  have o10z : W7.cell? ⟨x0, 10, none⟩ = some (.string ⟨#[]⟩) := cell_of K7.out 10 (by simp)
  have o10f : W7.frozen? ⟨x0, 10, none⟩ = false := K7.out.frozen 10
  have hx0l : x0 < W7.heap.size := K7.out.lt
  obtain ⟨Wf, hWf⟩ : ∃ x, Hid (x = (((((((((((W7s.setCell ⟨x0, 0, none⟩ (.int .i64 2)).setCell ⟨x0, 1, none⟩ (.int .i64 y2)).setCell ⟨x0, 2, none⟩ (.int .i64 y3)).setCell ⟨x0, 3, none⟩ (.int .i64 y4)).setCell ⟨x0, 4, none⟩ (.int .i64 y5)).setCell ⟨x0, 5, none⟩ (.int .i64 y6)).setCell ⟨x0, 6, none⟩ (.slice Avd y7.length cvd)).setCell ⟨x0, 7, none⟩ (.string ⟨#[]⟩)).setCell ⟨x0, 8, none⟩ (.slice none 0 0)).setCell ⟨x0, 9, none⟩ (.string ⟨#[]⟩)).setCell ⟨x0, 10, none⟩ (.string ⟨#[]⟩))) := ⟨_, Lib.hid rfl⟩
  have BF : Hid (Fr (gq g q) (gq g q) w Wf) := by show Fr _ _ _ _; rw [hWf.out]; exact (((((((((((B7s.out.set (p := ⟨x0, 0, none⟩) (.inr hxw) (.int .i64 2)).set (p := ⟨x0, 1, none⟩) (.inr hxw) (.int .i64 y2)).set (p := ⟨x0, 2, none⟩) (.inr hxw) (.int .i64 y3)).set (p := ⟨x0, 3, none⟩) (.inr hxw) (.int .i64 y4)).set (p := ⟨x0, 4, none⟩) (.inr hxw) (.int .i64 y5)).set (p := ⟨x0, 5, none⟩) (.inr hxw) (.int .i64 y6)).set (p := ⟨x0, 6, none⟩) (.inr hxw) (.slice Avd y7.length cvd)).set (p := ⟨x0, 7, none⟩) (.inr hxw) (.string ⟨#[]⟩)).set (p := ⟨x0, 8, none⟩) (.inr hxw) (.slice none 0 0)).set (p := ⟨x0, 9, none⟩) (.inr hxw) (.string ⟨#[]⟩)).set (p := ⟨x0, 10, none⟩) (.inr hxw) (.string ⟨#[]⟩))
  have HF : Hid (Rr Wf B g q s7 d) := by show Rr _ _ _ _ _ _; rw [hWf.out]; exact (rr_set (rr_set (rr_set (rr_set (rr_set (rr_set (rr_set (rr_set (rr_set (rr_set (rr_set H7s.out hxB 0 (.int .i64 2)) hxB 1 (.int .i64 y2)) hxB 2 (.int .i64 y3)) hxB 3 (.int .i64 y4)) hxB 4 (.int .i64 y5)) hxB 5 (.int .i64 y6)) hxB 6 (.slice Avd y7.length cvd)) hxB 7 (.string ⟨#[]⟩)) hxB 8 (.slice none 0 0)) hxB 9 (.string ⟨#[]⟩)) hxB 10 (.string ⟨#[]⟩))
  have KF : Hid (Bk Wf x0 62 #[.int .i64 2, .int .i64 y2, .int .i64 y3, .int .i64 y4, .int .i64 y5, .int .i64 y6, .slice Avd y7.length cvd, .string ⟨#[]⟩, .slice none 0 0, .string ⟨#[]⟩, .string ⟨#[]⟩]) := by show Bk _ _ _ _; rw [hWf.out]; simpa using (((((((((((K7s.out.set 0 (.int .i64 2)).set 1 (.int .i64 y2)).set 2 (.int .i64 y3)).set 3 (.int .i64 y4)).set 4 (.int .i64 y5)).set 5 (.int .i64 y6)).set 6 (.slice Avd y7.length cvd)).set 7 (.string ⟨#[]⟩)).set 8 (.slice none 0 0)).set 9 (.string ⟨#[]⟩)).set 10 (.string ⟨#[]⟩))
  have Lvd : Hid (Ls Wf (fun k => w.heap.size ≤ k) (.slice Avd y7.length cvd) y7) := by show Ls _ _ _ _; rw [hWf.out]; exact (ls_set (ls_set (ls_set (ls_set (ls_set (ls_set (ls_set (ls_set (ls_set (ls_set (ls_set Rvd7.out (fun k hk => by omega) 0 (.int .i64 2)) (fun k hk => by omega) 1 (.int .i64 y2)) (fun k hk => by omega) 2 (.int .i64 y3)) (fun k hk => by omega) 3 (.int .i64 y4)) (fun k hk => by omega) 4 (.int .i64 y5)) (fun k hk => by omega) 5 (.int .i64 y6)) (fun k hk => by omega) 6 (.slice Avd y7.length cvd)) (fun k hk => by omega) 7 (.string ⟨#[]⟩)) (fun k hk => by omega) 8 (.slice none 0 0)) (fun k hk => by omega) 9 (.string ⟨#[]⟩)) (fun k hk => by omega) 10 (.string ⟨#[]⟩)).mono fun b hb _ => by omega
  have o0 : Wf.cell? ⟨x0, 0, none⟩ = some (.int .i64 2) := cell_of KF.out 0 (by simp)
  have o1 : Wf.cell? ⟨x0, 1, none⟩ = some (.int .i64 y2) := cell_of KF.out 1 (by simp)
  have o2 : Wf.cell? ⟨x0, 2, none⟩ = some (.int .i64 y3) := cell_of KF.out 2 (by simp)
  have o3 : Wf.cell? ⟨x0, 3, none⟩ = some (.int .i64 y4) := cell_of KF.out 3 (by simp)
  have o4 : Wf.cell? ⟨x0, 4, none⟩ = some (.int .i64 y5) := cell_of KF.out 4 (by simp)
  have o5 : Wf.cell? ⟨x0, 5, none⟩ = some (.int .i64 y6) := cell_of KF.out 5 (by simp)
  have o6 : Wf.cell? ⟨x0, 6, none⟩ = some (.slice Avd y7.length cvd) := cell_of KF.out 6 (by simp)
  have o7 : Wf.cell? ⟨x0, 7, none⟩ = some (.string ⟨#[]⟩) := cell_of KF.out 7 (by simp)
  have o8 : Wf.cell? ⟨x0, 8, none⟩ = some (.slice none 0 0) := cell_of KF.out 8 (by simp)
  have o9 : Wf.cell? ⟨x0, 9, none⟩ = some (.string ⟨#[]⟩) := cell_of KF.out 9 (by simp)
  have o10 : Wf.cell? ⟨x0, 10, none⟩ = some (.string ⟨#[]⟩) := cell_of KF.out 10 (by simp)
  clear K7s V7s B7s H7s KF
  go_wp2
  try rw [← hW7s.out]
  try rw [← hWf.out]
  refine bodyPost_ret (v := .agg #[.int .i64 2, .int .i64 y2, .int .i64 y3, .int .i64 y4, .int .i64 y5, .int .i64 y6, .slice Avd y7.length cvd, .string ⟨#[]⟩, .slice none 0 0, .string ⟨#[]⟩, .string ⟨#[]⟩]) (by simp [results, Tryz.results44, go_sem, o0, o1, o2, o3, o4, o5, o6, o7, o8, o9, o10]) rfl ?_
  show RstepT B g q w s d _ _
  unfold RstepT
  rw [hR.out]
  exact ⟨_, _, rfl, Lvd.out, Ls.nil _ _, HF.out, BF.out⟩
set_option maxRecDepth 100000 in
set_option maxHeartbeats 4000000 in
theorem rstep_3 (w : World) (B g q : Nat) (s : RS) (d : Int) (h : Rr w B g q s d) (s1 : RS) (e1 : Hid ((3, s1) = rK 6 s)) : Calls Tryz.prog 44 #[.pointer (some ⟨g, 0, none⟩)] w (RstepT B g q w s d) := by
  obtain ⟨⟨y2, s2⟩, e2⟩ : ∃ x, Hid (x = rI s1) := ⟨_, Lib.hid rfl⟩
  obtain ⟨⟨y3, s3⟩, e3⟩ : ∃ x, Hid (x = rI s2) := ⟨_, Lib.hid rfl⟩
  obtain ⟨⟨y4, s4⟩, e4⟩ : ∃ x, Hid (x = rMk s3) := ⟨_, Lib.hid rfl⟩
  have qB : rStB 3 y2 = rS2 (fun t m => ⟨(3 : Nat), y2, t, 0, 0, 0, [], m, .empty, .empty⟩) rI rMk := by unfold rStB; rw [if_neg (by decide), if_neg (by decide), if_pos (by decide)]
  have hR : Hid (rSt s = (⟨3, y2, y3, 0, 0, 0, [], y4, .empty, .empty⟩, s4)) := by show _ = _; simp only [rSt, ← e1.out, ← e2.out, qB, rS2, ← e3.out, ← e4.out]; rfl
  have hlo := Lib.hid h.lo
  have hbs := h.base
  obtain ⟨x0, hx0⟩ : ∃ x0, Hid (x0 = w.heap.size) := ⟨_, Lib.hid rfl⟩
  obtain ⟨W0, hW0⟩ : ∃ x, Hid (x = w.alloc (.cells #[.int .i64 0, .int .i64 0, .int .i64 0, .int .i64 0, .int .i64 0, .int .i64 0, .slice none 0 0, .string ⟨#[]⟩, .slice none 0 0, .string ⟨#[]⟩, .string ⟨#[]⟩] 62)) := ⟨_, Lib.hid rfl⟩
  have H0 : Hid (Rr W0 B g q s d) := by show Rr _ _ _ _ _ _; rw [hW0.out]; exact h.alloc _
  have B0 : Hid (Fr (gq g q) (gq g q) w W0) := by show Fr _ _ _ _; rw [hW0.out]; exact (Fr.refl h.own).alloc _
  have K0 : Hid (Bk W0 x0 62 #[.int .i64 0, .int .i64 0, .int .i64 0, .int .i64 0, .int .i64 0, .int .i64 0, .slice none 0 0, .string ⟨#[]⟩, .slice none 0 0, .string ⟨#[]⟩, .string ⟨#[]⟩]) := by show Bk _ _ _ _; rw [hW0.out, hx0.out]; exact Bk.new _ _ _
  have hn0 : ¬ gq g q x0 := fun hh => by have := hlo.out _ hh; have := hx0.out; omega
  have hxB : B ≤ x0 := by rw [hx0.out]; exact hbs
  have hxw : w.heap.size ≤ x0 := by rw [hx0.out]; exact Nat.le_refl _
  clear h
  go_enter Tryz.func44, Tryz.ntmps44
  go_wp2_with fail
  rw [← hW0.out, ← hx0.out]
  have KK := kind_any W0 B g q s d H0.out 6 (by decide)
  rw [← e1.out] at KK
  refine KK.mono ?_
  clear KK
  rintro e W1 ⟨rfl, h1, f1⟩
  try dsimp only at h1 ⊢
  have B1 := Lib.hid (B0.out.trans f1)
  have K1 := Lib.hid (bk_fr K0.out f1 hn0)
  have H1 := Lib.hid h1
  have z1 := f1.size
  clear h1 f1
  have p1 := rr_cell0 H1.out
  go_wp2_with fail
  have KK := number_r W1 B g q s1 d H1.out
  rw [← e2.out] at KK
  refine KK.mono ?_
  clear KK
  rintro e W2 ⟨rfl, h2, f2⟩
  try dsimp only at h2 ⊢
  have B2 := Lib.hid (B1.out.trans f2)
  have K2 := Lib.hid (bk_fr K1.out f2 hn0)
  have H2 := Lib.hid h2
  have z2 := f2.size
  clear h2 f2
  have p2 := rr_cell0 H2.out
  obtain ⟨x1, hx1⟩ : ∃ x1, Hid (x1 = W2.heap.size) := ⟨_, Lib.hid rfl⟩
  obtain ⟨W2v, hW2v⟩ : ∃ x, Hid (x = W2.alloc (.cells #[.int .i64 3, .int .i64 y2, .int .i64 0, .int .i64 0, .int .i64 0, .int .i64 0, .slice none 0 0, .string ⟨#[]⟩, .slice none 0 0, .string ⟨#[]⟩, .string ⟨#[]⟩] 62)) := ⟨_, Lib.hid rfl⟩
  have hx01 : x0 < x1 := by rw [hx1.out]; exact K2.out.lt
  have hn1 : ¬ gq g q x1 := fun hh => by have := hlo.out _ hh; omega
  have HG1 : Hid (∀ k, x1 < k → ¬ gq g q k) := fun k hk hh => by have := hlo.out _ hh; omega
  have hxg : x1 ≠ g := fun e => hn1 (.inl e)
  have hgx : g ≠ x1 := fun e => hxg e.symm
  have hx10 : x1 ≠ x0 := by omega
  have hx01n : x0 ≠ x1 := by omega
  have hgl1 : g < W2.heap.size := H2.out.own g (.inl rfl)
  have B2v : Hid (Fr (gq g q) (gq g q) w W2v) := by show Fr _ _ _ _; rw [hW2v.out]; exact B2.out.alloc _
  have K2v : Hid (Bk W2v x0 62 #[.int .i64 0, .int .i64 0, .int .i64 0, .int .i64 0, .int .i64 0, .int .i64 0, .slice none 0 0, .string ⟨#[]⟩, .slice none 0 0, .string ⟨#[]⟩, .string ⟨#[]⟩]) := by show Bk _ _ _ _; rw [hW2v.out]; exact K2.out.alloc _
  have V2v : Hid (Bk W2v x1 62 #[.int .i64 3, .int .i64 y2, .int .i64 0, .int .i64 0, .int .i64 0, .int .i64 0, .slice none 0 0, .string ⟨#[]⟩, .slice none 0 0, .string ⟨#[]⟩, .string ⟨#[]⟩]) := by show Bk _ _ _ _; rw [hW2v.out, hx1.out]; exact Bk.new _ _ _
  have H2v : Hid (Rr W2v B g q s2 d) := by show Rr _ _ _ _ _ _; rw [hW2v.out]; exact H2.out.alloc _
  have pv := rr_cell0 H2v.out
  have cv_0 : W2v.cell? ⟨x1, 0, none⟩ = some (.int .i64 3) := cell_of V2v.out 0 (by simp)
  have cv_1 : W2v.cell? ⟨x1, 1, none⟩ = some (.int .i64 y2) := cell_of V2v.out 1 (by simp)
  have cv_2 : W2v.cell? ⟨x1, 2, none⟩ = some (.int .i64 0) := cell_of V2v.out 2 (by simp)
  have cv_3 : W2v.cell? ⟨x1, 3, none⟩ = some (.int .i64 0) := cell_of V2v.out 3 (by simp)
  have cv_4 : W2v.cell? ⟨x1, 4, none⟩ = some (.int .i64 0) := cell_of V2v.out 4 (by simp)
  have cv_5 : W2v.cell? ⟨x1, 5, none⟩ = some (.int .i64 0) := cell_of V2v.out 5 (by simp)
  have cv_6 : W2v.cell? ⟨x1, 6, none⟩ = some (.slice none 0 0) := cell_of V2v.out 6 (by simp)
  have cv_7 : W2v.cell? ⟨x1, 7, none⟩ = some (.string ⟨#[]⟩) := cell_of V2v.out 7 (by simp)
  have cv_8 : W2v.cell? ⟨x1, 8, none⟩ = some (.slice none 0 0) := cell_of V2v.out 8 (by simp)
  have cv_9 : W2v.cell? ⟨x1, 9, none⟩ = some (.string ⟨#[]⟩) := cell_of V2v.out 9 (by simp)
  have cv_10 : W2v.cell? ⟨x1, 10, none⟩ = some (.string ⟨#[]⟩) := cell_of V2v.out 10 (by simp)
  have hxw1 : w.heap.size ≤ x1 := by omega
  have hxB1 : B ≤ x1 := by omega
  have hfv : ∀ k, W2v.frozen? ⟨x1, k, none⟩ = false := fun k => V2v.out.frozen k
  go_wp2_with fail
  rw [← hW2v.out, ← hx1.out]
  have KK := number_r W2v B g q s2 d H2v.out
  rw [← e3.out] at KK
  refine KK.mono ?_
  clear KK
  rintro e W3 ⟨rfl, h3, f3⟩
  try dsimp only at h3 ⊢
  have B3 := Lib.hid (B2v.out.trans f3)
  have K3 := Lib.hid (bk_fr K2v.out f3 hn0)
  have V3 := Lib.hid (bk_fr V2v.out f3 hn1)
  have H3 := Lib.hid h3
  have z3 := f3.size
  clear h3 f3
  have p3 := rr_cell0 H3.out
  have c3_0 : W3.cell? ⟨x1, 0, none⟩ = some (.int .i64 3) := cell_of V3.out 0 (by simp)
  have c3_1 : W3.cell? ⟨x1, 1, none⟩ = some (.int .i64 y2) := cell_of V3.out 1 (by simp)
  have c3_2 : W3.cell? ⟨x1, 2, none⟩ = some (.int .i64 0) := cell_of V3.out 2 (by simp)
  have c3_3 : W3.cell? ⟨x1, 3, none⟩ = some (.int .i64 0) := cell_of V3.out 3 (by simp)
  have c3_4 : W3.cell? ⟨x1, 4, none⟩ = some (.int .i64 0) := cell_of V3.out 4 (by simp)
  have c3_5 : W3.cell? ⟨x1, 5, none⟩ = some (.int .i64 0) := cell_of V3.out 5 (by simp)
  have c3_6 : W3.cell? ⟨x1, 6, none⟩ = some (.slice none 0 0) := cell_of V3.out 6 (by simp)
  have c3_7 : W3.cell? ⟨x1, 7, none⟩ = some (.string ⟨#[]⟩) := cell_of V3.out 7 (by simp)
  have c3_8 : W3.cell? ⟨x1, 8, none⟩ = some (.slice none 0 0) := cell_of V3.out 8 (by simp)
  have c3_9 : W3.cell? ⟨x1, 9, none⟩ = some (.string ⟨#[]⟩) := cell_of V3.out 9 (by simp)
  have c3_10 : W3.cell? ⟨x1, 10, none⟩ = some (.string ⟨#[]⟩) := cell_of V3.out 10 (by simp)
  have fz3 : ∀ k, W3.frozen? ⟨x1, k, none⟩ = false := fun k => V3.out.frozen k
  have w3_2 := fz3 2
  obtain ⟨W3s, hW3s⟩ : ∃ x, Hid (x = (W3.setCell ⟨x1, 2, none⟩ (.int .i64 y3))) := ⟨_, Lib.hid rfl⟩
  have B3s : Hid (Fr (gq g q) (gq g q) w W3s) := by show Fr _ _ _ _; rw [hW3s.out]; exact (B3.out.set (p := ⟨x1, 2, none⟩) (.inr hxw1) (.int .i64 y3))
  have K3s : Hid (Bk W3s x0 62 #[.int .i64 0, .int .i64 0, .int .i64 0, .int .i64 0, .int .i64 0, .int .i64 0, .slice none 0 0, .string ⟨#[]⟩, .slice none 0 0, .string ⟨#[]⟩, .string ⟨#[]⟩]) := by show Bk _ _ _ _; rw [hW3s.out]; exact (K3.out.far (p := ⟨x1, 2, none⟩) hx01n (.int .i64 y3))
  have V3s : Hid (Bk W3s x1 62 #[.int .i64 3, .int .i64 y2, .int .i64 y3, .int .i64 0, .int .i64 0, .int .i64 0, .slice none 0 0, .string ⟨#[]⟩, .slice none 0 0, .string ⟨#[]⟩, .string ⟨#[]⟩]) := by show Bk _ _ _ _; rw [hW3s.out]; simpa using (V3.out.set 2 (.int .i64 y3))
  have H3s : Hid (Rr W3s B g q s3 d) := by show Rr _ _ _ _ _ _; rw [hW3s.out]; exact (rr_set H3.out hxB1 2 (.int .i64 y3))
  have p3s := rr_cell0 H3s.out
  have d3_0 : W3s.cell? ⟨x1, 0, none⟩ = some (.int .i64 3) := cell_of V3s.out 0 (by simp)
  have d3_1 : W3s.cell? ⟨x1, 1, none⟩ = some (.int .i64 y2) := cell_of V3s.out 1 (by simp)
  have d3_2 : W3s.cell? ⟨x1, 2, none⟩ = some (.int .i64 y3) := cell_of V3s.out 2 (by simp)
  have d3_3 : W3s.cell? ⟨x1, 3, none⟩ = some (.int .i64 0) := cell_of V3s.out 3 (by simp)
  have d3_4 : W3s.cell? ⟨x1, 4, none⟩ = some (.int .i64 0) := cell_of V3s.out 4 (by simp)
  have d3_5 : W3s.cell? ⟨x1, 5, none⟩ = some (.int .i64 0) := cell_of V3s.out 5 (by simp)
  have d3_6 : W3s.cell? ⟨x1, 6, none⟩ = some (.slice none 0 0) := cell_of V3s.out 6 (by simp)
  have d3_7 : W3s.cell? ⟨x1, 7, none⟩ = some (.string ⟨#[]⟩) := cell_of V3s.out 7 (by simp)
  have d3_8 : W3s.cell? ⟨x1, 8, none⟩ = some (.slice none 0 0) := cell_of V3s.out 8 (by simp)
  have d3_9 : W3s.cell? ⟨x1, 9, none⟩ = some (.string ⟨#[]⟩) := cell_of V3s.out 9 (by simp)
  have d3_10 : W3s.cell? ⟨x1, 10, none⟩ = some (.string ⟨#[]⟩) := cell_of V3s.out 10 (by simp)
  go_wp2_with fail
  rw [← hW3s.out]
  have KK := rmark_any W3s B g q s3 d H3s.out
  unfold RmarkT at KK
  rw [← e4.out] at KK
  refine KK.mono ?_
  clear KK
  rintro e W4 ⟨vva, rfl, rva, h4, f4⟩
  try dsimp only at h4 rva ⊢
  obtain ⟨Ava, cva, rfl⟩ := rva.form
  have Rva4 : Hid (Ls W4 (fun k => x1 < k) (.slice Ava y4.a.length cva) y4.a) := rva.mono fun b hb _ => Nat.lt_of_lt_of_le V3s.out.lt hb
  clear rva
  have B4 := Lib.hid (B3s.out.trans f4)
  have K4 := Lib.hid (bk_fr K3s.out f4 hn0)
  have V4 := Lib.hid (bk_fr V3s.out f4 hn1)
  have H4 := Lib.hid h4
  have z4 := f4.size
  clear h4 f4
  have p4 := rr_cell0 H4.out
  have c4_0 : W4.cell? ⟨x1, 0, none⟩ = some (.int .i64 3) := cell_of V4.out 0 (by simp)
  have c4_1 : W4.cell? ⟨x1, 1, none⟩ = some (.int .i64 y2) := cell_of V4.out 1 (by simp)
  have c4_2 : W4.cell? ⟨x1, 2, none⟩ = some (.int .i64 y3) := cell_of V4.out 2 (by simp)
  have c4_3 : W4.cell? ⟨x1, 3, none⟩ = some (.int .i64 0) := cell_of V4.out 3 (by simp)
  have c4_4 : W4.cell? ⟨x1, 4, none⟩ = some (.int .i64 0) := cell_of V4.out 4 (by simp)
  have c4_5 : W4.cell? ⟨x1, 5, none⟩ = some (.int .i64 0) := cell_of V4.out 5 (by simp)
  have c4_6 : W4.cell? ⟨x1, 6, none⟩ = some (.slice none 0 0) := cell_of V4.out 6 (by simp)
  have c4_7 : W4.cell? ⟨x1, 7, none⟩ = some (.string ⟨#[]⟩) := cell_of V4.out 7 (by simp)
  have c4_8 : W4.cell? ⟨x1, 8, none⟩ = some (.slice none 0 0) := cell_of V4.out 8 (by simp)
  have c4_9 : W4.cell? ⟨x1, 9, none⟩ = some (.string ⟨#[]⟩) := cell_of V4.out 9 (by simp)
  have c4_10 : W4.cell? ⟨x1, 10, none⟩ = some (.string ⟨#[]⟩) := cell_of V4.out 10 (by simp)
  have fz4 : ∀ k, W4.frozen? ⟨x1, k, none⟩ = false := fun k => V4.out.frozen k
  have w4_7 := fz4 7
  have w4_8 := fz4 8
  obtain ⟨W4s, hW4s⟩ : ∃ x, Hid (x = ((W4.setCell ⟨x1, 7, none⟩ (.string y4.t)).setCell ⟨x1, 8, none⟩ (.slice Ava y4.a.length cva))) := ⟨_, Lib.hid rfl⟩
  have B4s : Hid (Fr (gq g q) (gq g q) w W4s) := by show Fr _ _ _ _; rw [hW4s.out]; exact ((B4.out.set (p := ⟨x1, 7, none⟩) (.inr hxw1) (.string y4.t)).set (p := ⟨x1, 8, none⟩) (.inr hxw1) (.slice Ava y4.a.length cva))
  have K4s : Hid (Bk W4s x0 62 #[.int .i64 0, .int .i64 0, .int .i64 0, .int .i64 0, .int .i64 0, .int .i64 0, .slice none 0 0, .string ⟨#[]⟩, .slice none 0 0, .string ⟨#[]⟩, .string ⟨#[]⟩]) := by show Bk _ _ _ _; rw [hW4s.out]; exact ((K4.out.far (p := ⟨x1, 7, none⟩) hx01n (.string y4.t)).far (p := ⟨x1, 8, none⟩) hx01n (.slice Ava y4.a.length cva))
  have V4s : Hid (Bk W4s x1 62 #[.int .i64 3, .int .i64 y2, .int .i64 y3, .int .i64 0, .int .i64 0, .int .i64 0, .slice none 0 0, .string y4.t, .slice Ava y4.a.length cva, .string ⟨#[]⟩, .string ⟨#[]⟩]) := by show Bk _ _ _ _; rw [hW4s.out]; simpa using ((V4.out.set 7 (.string y4.t)).set 8 (.slice Ava y4.a.length cva))
  have H4s : Hid (Rr W4s B g q s4 d) := by show Rr _ _ _ _ _ _; rw [hW4s.out]; exact (rr_set (rr_set H4.out hxB1 7 (.string y4.t)) hxB1 8 (.slice Ava y4.a.length cva))
  have Qva : Ls (((W4.setCell ⟨x1, 7, none⟩ (.string y4.t)).setCell ⟨x1, 8, none⟩ (.slice Ava y4.a.length cva))) (fun k => x1 < k) (.slice Ava y4.a.length cva) y4.a := (ls_set (ls_set Rva4.out (fun k hk => by omega) 7 (.string y4.t)) (fun k hk => by omega) 8 (.slice Ava y4.a.length cva))
  rw [← hW4s.out] at Qva
  replace Rva4 := Lib.hid Qva
  clear Qva
  have p4s := rr_cell0 H4s.out
  have d4_0 : W4s.cell? ⟨x1, 0, none⟩ = some (.int .i64 3) := cell_of V4s.out 0 (by simp)
  have d4_1 : W4s.cell? ⟨x1, 1, none⟩ = some (.int .i64 y2) := cell_of V4s.out 1 (by simp)
  have d4_2 : W4s.cell? ⟨x1, 2, none⟩ = some (.int .i64 y3) := cell_of V4s.out 2 (by simp)
  have d4_3 : W4s.cell? ⟨x1, 3, none⟩ = some (.int .i64 0) := cell_of V4s.out 3 (by simp)
  have d4_4 : W4s.cell? ⟨x1, 4, none⟩ = some (.int .i64 0) := cell_of V4s.out 4 (by simp)
  have d4_5 : W4s.cell? ⟨x1, 5, none⟩ = some (.int .i64 0) := cell_of V4s.out 5 (by simp)
  have d4_6 : W4s.cell? ⟨x1, 6, none⟩ = some (.slice none 0 0) := cell_of V4s.out 6 (by simp)
  have d4_7 : W4s.cell? ⟨x1, 7, none⟩ = some (.string y4.t) := cell_of V4s.out 7 (by simp)
  have d4_8 : W4s.cell? ⟨x1, 8, none⟩ = some (.slice Ava y4.a.length cva) := cell_of V4s.out 8 (by simp)
  have d4_9 : W4s.cell? ⟨x1, 9, none⟩ = some (.string ⟨#[]⟩) := cell_of V4s.out 9 (by simp)
  have d4_10 : W4s.cell? ⟨x1, 10, none⟩ = some (.string ⟨#[]⟩) := cell_of V4s.out 10 (by simp)
  have o0z : W4.cell? ⟨x0, 0, none⟩ = some (.int .i64 0) := cell_of K4.out 0 (by simp)
  have o0f : W4.frozen? ⟨x0, 0, none⟩ = false := K4.out.frozen 0
  have o1z : W4.cell? ⟨x0, 1, none⟩ = some (.int .i64 0) := cell_of K4.out 1 (by simp)
  have o1f : W4.frozen? ⟨x0, 1, none⟩ = false := K4.out.frozen 1
  have o2z : W4.cell? ⟨x0, 2, none⟩ = some (.int .i64 0) := cell_of K4.out 2 (by simp)
  have o2f : W4.frozen? ⟨x0, 2, none⟩ = false := K4.out.frozen 2
  have o3z : W4.cell? ⟨x0, 3, none⟩ = some (.int .i64 0) := cell_of K4.out 3 (by simp)
  have o3f : W4.frozen? ⟨x0, 3, none⟩ = false := K4.out.frozen 3
  have o4z : W4.cell? ⟨x0, 4, none⟩ = some (.int .i64 0) := cell_of K4.out 4 (by simp)
  have o4f : W4.frozen? ⟨x0, 4, none⟩ = false := K4.out.frozen 4
  have o5z : W4.cell? ⟨x0, 5, none⟩ = some (.int .i64 0) := cell_of K4.out 5 (by simp)
  have o5f : W4.frozen? ⟨x0, 5, none⟩ = false := K4.out.frozen 5
  have o6z : W4.cell? ⟨x0, 6, none⟩ = some (.slice none 0 0) := cell_of K4.out 6 (by simp)
  have o6f : W4.frozen? ⟨x0, 6, none⟩ = false := K4.out.frozen 6
  have o7z : W4.cell? ⟨x0, 7, none⟩ = some (.string ⟨#[]⟩) := cell_of K4.out 7 (by simp)
  have o7f : W4.frozen? ⟨x0, 7, none⟩ = false := K4.out.frozen 7
  have o8z : W4.cell? ⟨x0, 8, none⟩ = some (.slice none 0 0) := cell_of K4.out 8 (by simp)
  have o8f : W4.frozen? ⟨x0, 8, none⟩ = false := K4.out.frozen 8
  have o9z : W4.cell? ⟨x0, 9, none⟩ = some (.string ⟨#[]⟩) := cell_of K4.out 9 (by simp)
  have o9f : W4.frozen? ⟨x0, 9, none⟩ = false := K4.out.frozen 9
  have o10z : W4.cell? ⟨x0, 10, none⟩ = some (.string ⟨#[]⟩) := cell_of K4.out 10 (by simp)
  have o10f : W4.frozen? ⟨x0, 10, none⟩ = false := K4.out.frozen 10
  have hx0l : x0 < W4.heap.size := K4.out.lt
  obtain ⟨Wf, hWf⟩ : ∃ x, Hid (x = (((((((((((W4s.setCell ⟨x0, 0, none⟩ (.int .i64 3)).setCell ⟨x0, 1, none⟩ (.int .i64 y2)).setCell ⟨x0, 2, none⟩ (.int .i64 y3)).setCell ⟨x0, 3, none⟩ (.int .i64 0)).setCell ⟨x0, 4, none⟩ (.int .i64 0)).setCell ⟨x0, 5, none⟩ (.int .i64 0)).setCell ⟨x0, 6, none⟩ (.slice none 0 0)).setCell ⟨x0, 7, none⟩ (.string y4.t)).setCell ⟨x0, 8, none⟩ (.slice Ava y4.a.length cva)).setCell ⟨x0, 9, none⟩ (.string ⟨#[]⟩)).setCell ⟨x0, 10, none⟩ (.string ⟨#[]⟩))) := ⟨_, Lib.hid rfl⟩
  have BF : Hid (Fr (gq g q) (gq g q) w Wf) := by show Fr _ _ _ _; rw [hWf.out]; exact (((((((((((B4s.out.set (p := ⟨x0, 0, none⟩) (.inr hxw) (.int .i64 3)).set (p := ⟨x0, 1, none⟩) (.inr hxw) (.int .i64 y2)).set (p := ⟨x0, 2, none⟩) (.inr hxw) (.int .i64 y3)).set (p := ⟨x0, 3, none⟩) (.inr hxw) (.int .i64 0)).set (p := ⟨x0, 4, none⟩) (.inr hxw) (.int .i64 0)).set (p := ⟨x0, 5, none⟩) (.inr hxw) (.int .i64 0)).set (p := ⟨x0, 6, none⟩) (.inr hxw) (.slice none 0 0)).set (p := ⟨x0, 7, none⟩) (.inr hxw) (.string y4.t)).set (p := ⟨x0, 8, none⟩) (.inr hxw) (.slice Ava y4.a.length cva)).set (p := ⟨x0, 9, none⟩) (.inr hxw) (.string ⟨#[]⟩)).set (p := ⟨x0, 10, none⟩) (.inr hxw) (.string ⟨#[]⟩))
  have HF : Hid (Rr Wf B g q s4 d) := by show Rr _ _ _ _ _ _; rw [hWf.out]; exact (rr_set (rr_set (rr_set (rr_set (rr_set (rr_set (rr_set (rr_set (rr_set (rr_set (rr_set H4s.out hxB 0 (.int .i64 3)) hxB 1 (.int .i64 y2)) hxB 2 (.int .i64 y3)) hxB 3 (.int .i64 0)) hxB 4 (.int .i64 0)) hxB 5 (.int .i64 0)) hxB 6 (.slice none 0 0)) hxB 7 (.string y4.t)) hxB 8 (.slice Ava y4.a.length cva)) hxB 9 (.string ⟨#[]⟩)) hxB 10 (.string ⟨#[]⟩))
  have KF : Hid (Bk Wf x0 62 #[.int .i64 3, .int .i64 y2, .int .i64 y3, .int .i64 0, .int .i64 0, .int .i64 0, .slice none 0 0, .string y4.t, .slice Ava y4.a.length cva, .string ⟨#[]⟩, .string ⟨#[]⟩]) := by show Bk _ _ _ _; rw [hWf.out]; simpa using (((((((((((K4s.out.set 0 (.int .i64 3)).set 1 (.int .i64 y2)).set 2 (.int .i64 y3)).set 3 (.int .i64 0)).set 4 (.int .i64 0)).set 5 (.int .i64 0)).set 6 (.slice none 0 0)).set 7 (.string y4.t)).set 8 (.slice Ava y4.a.length cva)).set 9 (.string ⟨#[]⟩)).set 10 (.string ⟨#[]⟩))
  have Lva : Hid (Ls Wf (fun k => w.heap.size ≤ k) (.slice Ava y4.a.length cva) y4.a) := by show Ls _ _ _ _; rw [hWf.out]; exact (ls_set (ls_set (ls_set (ls_set (ls_set (ls_set (ls_set (ls_set (ls_set (ls_set (ls_set Rva4.out (fun k hk => by omega) 0 (.int .i64 3)) (fun k hk => by omega) 1 (.int .i64 y2)) (fun k hk => by omega) 2 (.int .i64 y3)) (fun k hk => by omega) 3 (.int .i64 0)) (fun k hk => by omega) 4 (.int .i64 0)) (fun k hk => by omega) 5 (.int .i64 0)) (fun k hk => by omega) 6 (.slice none 0 0)) (fun k hk => by omega) 7 (.string y4.t)) (fun k hk => by omega) 8 (.slice Ava y4.a.length cva)) (fun k hk => by omega) 9 (.string ⟨#[]⟩)) (fun k hk => by omega) 10 (.string ⟨#[]⟩)).mono fun b hb _ => by omega
  have o0 : Wf.cell? ⟨x0, 0, none⟩ = some (.int .i64 3) := cell_of KF.out 0 (by simp)
  have o1 : Wf.cell? ⟨x0, 1, none⟩ = some (.int .i64 y2) := cell_of KF.out 1 (by simp)
  have o2 : Wf.cell? ⟨x0, 2, none⟩ = some (.int .i64 y3) := cell_of KF.out 2 (by simp)
  have o3 : Wf.cell? ⟨x0, 3, none⟩ = some (.int .i64 0) := cell_of KF.out 3 (by simp)
  have o4 : Wf.cell? ⟨x0, 4, none⟩ = some (.int .i64 0) := cell_of KF.out 4 (by simp)
  have o5 : Wf.cell? ⟨x0, 5, none⟩ = some (.int .i64 0) := cell_of KF.out 5 (by simp)
  have o6 : Wf.cell? ⟨x0, 6, none⟩ = some (.slice none 0 0) := cell_of KF.out 6 (by simp)
  have o7 : Wf.cell? ⟨x0, 7, none⟩ = some (.string y4.t) := cell_of KF.out 7 (by simp)
  have o8 : Wf.cell? ⟨x0, 8, none⟩ = some (.slice Ava y4.a.length cva) := cell_of KF.out 8 (by simp)
  have o9 : Wf.cell? ⟨x0, 9, none⟩ = some (.string ⟨#[]⟩) := cell_of KF.out 9 (by simp)
  have o10 : Wf.cell? ⟨x0, 10, none⟩ = some (.string ⟨#[]⟩) := cell_of KF.out 10 (by simp)
  clear K4s V4s B4s H4s KF
  go_wp2
  try rw [← hW4s.out]
  try rw [← hWf.out]
  refine bodyPost_ret (v := .agg #[.int .i64 3, .int .i64 y2, .int .i64 y3, .int .i64 0, .int .i64 0, .int .i64 0, .slice none 0 0, .string y4.t, .slice Ava y4.a.length cva, .string ⟨#[]⟩, .string ⟨#[]⟩]) (by simp [results, Tryz.results44, go_sem, o0, o1, o2, o3, o4, o5, o6, o7, o8, o9, o10]) rfl ?_
  show RstepT B g q w s d _ _
  unfold RstepT
  rw [hR.out]
  exact ⟨_, _, rfl, Ls.nil _ _, Lva.out, HF.out, BF.out⟩
set_option maxRecDepth 100000 in
set_option maxHeartbeats 4000000 in
theorem rstep_4 (w : World) (B g q : Nat) (s : RS) (d : Int) (h : Rr w B g q s d) (s1 : RS) (e1 : Hid ((4, s1) = rK 6 s)) : Calls Tryz.prog 44 #[.pointer (some ⟨g, 0, none⟩)] w (RstepT B g q w s d) := by
  obtain ⟨⟨y2, s2⟩, e2⟩ : ∃ x, Hid (x = rI s1) := ⟨_, Lib.hid rfl⟩
  obtain ⟨⟨y3, s3⟩, e3⟩ : ∃ x, Hid (x = rI s2) := ⟨_, Lib.hid rfl⟩
  obtain ⟨⟨y4, s4⟩, e4⟩ : ∃ x, Hid (x = rMk s3) := ⟨_, Lib.hid rfl⟩
  have qB : rStB 4 y2 = rS2 (fun t m => ⟨(4 : Nat), y2, t, 0, 0, 0, [], m, .empty, .empty⟩) rI rMk := by unfold rStB; rw [if_neg (by decide), if_neg (by decide), if_pos (by decide)]
  have hR : Hid (rSt s = (⟨4, y2, y3, 0, 0, 0, [], y4, .empty, .empty⟩, s4)) := by show _ = _; simp only [rSt, ← e1.out, ← e2.out, qB, rS2, ← e3.out, ← e4.out]; rfl
  have hlo := Lib.hid h.lo
  have hbs := h.base
  obtain ⟨x0, hx0⟩ : ∃ x0, Hid (x0 = w.heap.size) := ⟨_, Lib.hid rfl⟩
  obtain ⟨W0, hW0⟩ : ∃ x, Hid (x = w.alloc (.cells #[.int .i64 0, .int .i64 0, .int .i64 0, .int .i64 0, .int .i64 0, .int .i64 0, .slice none 0 0, .string ⟨#[]⟩, .slice none 0 0, .string ⟨#[]⟩, .string ⟨#[]⟩] 62)) := ⟨_, Lib.hid rfl⟩
  have H0 : Hid (Rr W0 B g q s d) := by show Rr _ _ _ _ _ _; rw [hW0.out]; exact h.alloc _
  have B0 : Hid (Fr (gq g q) (gq g q) w W0) := by show Fr _ _ _ _; rw [hW0.out]; exact (Fr.refl h.own).alloc _
  have K0 : Hid (Bk W0 x0 62 #[.int .i64 0, .int .i64 0, .int .i64 0, .int .i64 0, .int .i64 0, .int .i64 0, .slice none 0 0, .string ⟨#[]⟩, .slice none 0 0, .string ⟨#[]⟩, .string ⟨#[]⟩]) := by show Bk _ _ _ _; rw [hW0.out, hx0.out]; exact Bk.new _ _ _
  have hn0 : ¬ gq g q x0 := fun hh => by have := hlo.out _ hh; have := hx0.out; omega
  have hxB : B ≤ x0 := by rw [hx0.out]; exact hbs
  have hxw : w.heap.size ≤ x0 := by rw [hx0.out]; exact Nat.le_refl _
  clear h
  go_enter Tryz.func44, Tryz.ntmps44
  go_wp2_with fail
  rw [← hW0.out, ← hx0.out]
  have KK := kind_any W0 B g q s d H0.out 6 (by decide)
  rw [← e1.out] at KK
  refine KK.mono ?_
  clear KK
  rintro e W1 ⟨rfl, h1, f1⟩
  try dsimp only at h1 ⊢
  have B1 := Lib.hid (B0.out.trans f1)
  have K1 := Lib.hid (bk_fr K0.out f1 hn0)
  have H1 := Lib.hid h1
  have z1 := f1.size
  clear h1 f1
  have p1 := rr_cell0 H1.out
  go_wp2_with fail
  have KK := number_r W1 B g q s1 d H1.out
  rw [← e2.out] at KK
  refine KK.mono ?_
  clear KK
  rintro e W2 ⟨rfl, h2, f2⟩
  try dsimp only at h2 ⊢
  have B2 := Lib.hid (B1.out.trans f2)
  have K2 := Lib.hid (bk_fr K1.out f2 hn0)
  have H2 := Lib.hid h2
  have z2 := f2.size
  clear h2 f2
  have p2 := rr_cell0 H2.out
  obtain ⟨x1, hx1⟩ : ∃ x1, Hid (x1 = W2.heap.size) := ⟨_, Lib.hid rfl⟩
  obtain ⟨W2v, hW2v⟩ : ∃ x, Hid (x = W2.alloc (.cells #[.int .i64 4, .int .i64 y2, .int .i64 0, .int .i64 0, .int .i64 0, .int .i64 0, .slice none 0 0, .string ⟨#[]⟩, .slice none 0 0, .string ⟨#[]⟩, .string ⟨#[]⟩] 62)) := ⟨_, Lib.hid rfl⟩
  have hx01 : x0 < x1 := by rw [hx1.out]; exact K2.out.lt
  have hn1 : ¬ gq g q x1 := fun hh => by have := hlo.out _ hh; omega
  have HG1 : Hid (∀ k, x1 < k → ¬ gq g q k) := fun k hk hh => by have := hlo.out _ hh; omega
  have hxg : x1 ≠ g := fun e => hn1 (.inl e)
  have hgx : g ≠ x1 := fun e => hxg e.symm
  have hx10 : x1 ≠ x0 := by omega
  have hx01n : x0 ≠ x1 := by omega
  have hgl1 : g < W2.heap.size := H2.out.own g (.inl rfl)
  have B2v : Hid (Fr (gq g q) (gq g q) w W2v) := by show Fr _ _ _ _; rw [hW2v.out]; exact B2.out.alloc _
  have K2v : Hid (Bk W2v x0 62 #[.int .i64 0, .int .i64 0, .int .i64 0, .int .i64 0, .int .i64 0, .int .i64 0, .slice none 0 0, .string ⟨#[]⟩, .slice none 0 0, .string ⟨#[]⟩, .string ⟨#[]⟩]) := by show Bk _ _ _ _; rw [hW2v.out]; exact K2.out.alloc _
  have V2v : Hid (Bk W2v x1 62 #[.int .i64 4, .int .i64 y2, .int .i64 0, .int .i64 0, .int .i64 0, .int .i64 0, .slice none 0 0, .string ⟨#[]⟩, .slice none 0 0, .string ⟨#[]⟩, .string ⟨#[]⟩]) := by show Bk _ _ _ _; rw [hW2v.out, hx1.out]; exact Bk.new _ _ _
  have H2v : Hid (Rr W2v B g q s2 d) := by show Rr _ _ _ _ _ _; rw [hW2v.out]; exact H2.out.alloc _
  have pv := rr_cell0 H2v.out
  have cv_0 : W2v.cell? ⟨x1, 0, none⟩ = some (.int .i64 4) := cell_of V2v.out 0 (by simp)
  have cv_1 : W2v.cell? ⟨x1, 1, none⟩ = some (.int .i64 y2) := cell_of V2v.out 1 (by simp)
  have cv_2 : W2v.cell? ⟨x1, 2, none⟩ = some (.int .i64 0) := cell_of V2v.out 2 (by simp)
  have cv_3 : W2v.cell? ⟨x1, 3, none⟩ = some (.int .i64 0) := cell_of V2v.out 3 (by simp)
  have cv_4 : W2v.cell? ⟨x1, 4, none⟩ = some (.int .i64 0) := cell_of V2v.out 4 (by simp)
  have cv_5 : W2v.cell? ⟨x1, 5, none⟩ = some (.int .i64 0) := cell_of V2v.out 5 (by simp)
  have cv_6 : W2v.cell? ⟨x1, 6, none⟩ = some (.slice none 0 0) := cell_of V2v.out 6 (by simp)
  have cv_7 : W2v.cell? ⟨x1, 7, none⟩ = some (.string ⟨#[]⟩) := cell_of V2v.out 7 (by simp)
  have cv_8 : W2v.cell? ⟨x1, 8, none⟩ = some (.slice none 0 0) := cell_of V2v.out 8 (by simp)
  have cv_9 : W2v.cell? ⟨x1, 9, none⟩ = some (.string ⟨#[]⟩) := cell_of V2v.out 9 (by simp)
  have cv_10 : W2v.cell? ⟨x1, 10, none⟩ = some (.string ⟨#[]⟩) := cell_of V2v.out 10 (by simp)
  have hxw1 : w.heap.size ≤ x1 := by omega
  have hxB1 : B ≤ x1 := by omega
  have hfv : ∀ k, W2v.frozen? ⟨x1, k, none⟩ = false := fun k => V2v.out.frozen k
  go_wp2_with fail
  rw [← hW2v.out, ← hx1.out]
  have KK := number_r W2v B g q s2 d H2v.out
  rw [← e3.out] at KK
  refine KK.mono ?_
  clear KK
  rintro e W3 ⟨rfl, h3, f3⟩
  try dsimp only at h3 ⊢
  have B3 := Lib.hid (B2v.out.trans f3)
  have K3 := Lib.hid (bk_fr K2v.out f3 hn0)
  have V3 := Lib.hid (bk_fr V2v.out f3 hn1)
  have H3 := Lib.hid h3
  have z3 := f3.size
  clear h3 f3
  have p3 := rr_cell0 H3.out
  have c3_0 : W3.cell? ⟨x1, 0, none⟩ = some (.int .i64 4) := cell_of V3.out 0 (by simp)
  have c3_1 : W3.cell? ⟨x1, 1, none⟩ = some (.int .i64 y2) := cell_of V3.out 1 (by simp)
  have c3_2 : W3.cell? ⟨x1, 2, none⟩ = some (.int .i64 0) := cell_of V3.out 2 (by simp)
  have c3_3 : W3.cell? ⟨x1, 3, none⟩ = some (.int .i64 0) := cell_of V3.out 3 (by simp)
  have c3_4 : W3.cell? ⟨x1, 4, none⟩ = some (.int .i64 0) := cell_of V3.out 4 (by simp)
  have c3_5 : W3.cell? ⟨x1, 5, none⟩ = some (.int .i64 0) := cell_of V3.out 5 (by simp)
  have c3_6 : W3.cell? ⟨x1, 6, none⟩ = some (.slice none 0 0) := cell_of V3.out 6 (by simp)
  have c3_7 : W3.cell? ⟨x1, 7, none⟩ = some (.string ⟨#[]⟩) := cell_of V3.out 7 (by simp)
  have c3_8 : W3.cell? ⟨x1, 8, none⟩ = some (.slice none 0 0) := cell_of V3.out 8 (by simp)
  have c3_9 : W3.cell? ⟨x1, 9, none⟩ = some (.string ⟨#[]⟩) := cell_of V3.out 9 (by simp)
  have c3_10 : W3.cell? ⟨x1, 10, none⟩ = some (.string ⟨#[]⟩) := cell_of V3.out 10 (by simp)
  have fz3 : ∀ k, W3.frozen? ⟨x1, k, none⟩ = false := fun k => V3.out.frozen k
  have w3_2 := fz3 2
  obtain ⟨W3s, hW3s⟩ : ∃ x, Hid (x = (W3.setCell ⟨x1, 2, none⟩ (.int .i64 y3))) := ⟨_, Lib.hid rfl⟩
  have B3s : Hid (Fr (gq g q) (gq g q) w W3s) := by show Fr _ _ _ _; rw [hW3s.out]; exact (B3.out.set (p := ⟨x1, 2, none⟩) (.inr hxw1) (.int .i64 y3))
  have K3s : Hid (Bk W3s x0 62 #[.int .i64 0, .int .i64 0, .int .i64 0, .int .i64 0, .int .i64 0, .int .i64 0, .slice none 0 0, .string ⟨#[]⟩, .slice none 0 0, .string ⟨#[]⟩, .string ⟨#[]⟩]) := by show Bk _ _ _ _; rw [hW3s.out]; exact (K3.out.far (p := ⟨x1, 2, none⟩) hx01n (.int .i64 y3))
  have V3s : Hid (Bk W3s x1 62 #[.int .i64 4, .int .i64 y2, .int .i64 y3, .int .i64 0, .int .i64 0, .int .i64 0, .slice none 0 0, .string ⟨#[]⟩, .slice none 0 0, .string ⟨#[]⟩, .string ⟨#[]⟩]) := by show Bk _ _ _ _; rw [hW3s.out]; simpa using (V3.out.set 2 (.int .i64 y3))
  have H3s : Hid (Rr W3s B g q s3 d) := by show Rr _ _ _ _ _ _; rw [hW3s.out]; exact (rr_set H3.out hxB1 2 (.int .i64 y3))
  have p3s := rr_cell0 H3s.out
  have d3_0 : W3s.cell? ⟨x1, 0, none⟩ = some (.int .i64 4) := cell_of V3s.out 0 (by simp)
  have d3_1 : W3s.cell? ⟨x1, 1, none⟩ = some (.int .i64 y2) := cell_of V3s.out 1 (by simp)
  have d3_2 : W3s.cell? ⟨x1, 2, none⟩ = some (.int .i64 y3) := cell_of V3s.out 2 (by simp)
  have d3_3 : W3s.cell? ⟨x1, 3, none⟩ = some (.int .i64 0) := cell_of V3s.out 3 (by simp)
  have d3_4 : W3s.cell? ⟨x1, 4, none⟩ = some (.int .i64 0) := cell_of V3s.out 4 (by simp)
  have d3_5 : W3s.cell? ⟨x1, 5, none⟩ = some (.int .i64 0) := cell_of V3s.out 5 (by simp)
  have d3_6 : W3s.cell? ⟨x1, 6, none⟩ = some (.slice none 0 0) := cell_of V3s.out 6 (by simp)
  have d3_7 : W3s.cell? ⟨x1, 7, none⟩ = some (.string ⟨#[]⟩) := cell_of V3s.out 7 (by simp)
  have d3_8 : W3s.cell? ⟨x1, 8, none⟩ = some (.slice none 0 0) := cell_of V3s.out 8 (by simp)
  have d3_9 : W3s.cell? ⟨x1, 9, none⟩ = some (.string ⟨#[]⟩) := cell_of V3s.out 9 (by simp)
  have d3_10 : W3s.cell? ⟨x1, 10, none⟩ = some (.string ⟨#[]⟩) := cell_of V3s.out 10 (by simp)
  go_wp2_with fail
  rw [← hW3s.out]
  have KK := rmark_any W3s B g q s3 d H3s.out
  unfold RmarkT at KK
  rw [← e4.out] at KK
  refine KK.mono ?_
  clear KK
  rintro e W4 ⟨vva, rfl, rva, h4, f4⟩
  try dsimp only at h4 rva ⊢
  obtain ⟨Ava, cva, rfl⟩ := rva.form
  have Rva4 : Hid (Ls W4 (fun k => x1 < k) (.slice Ava y4.a.length cva) y4.a) := rva.mono fun b hb _ => Nat.lt_of_lt_of_le V3s.out.lt hb
  clear rva
  have B4 := Lib.hid (B3s.out.trans f4)
  have K4 := Lib.hid (bk_fr K3s.out f4 hn0)
  have V4 := Lib.hid (bk_fr V3s.out f4 hn1)
  have H4 := Lib.hid h4
  have z4 := f4.size
  clear h4 f4
  have p4 := rr_cell0 H4.out
  have c4_0 : W4.cell? ⟨x1, 0, none⟩ = some (.int .i64 4) := cell_of V4.out 0 (by simp)
  have c4_1 : W4.cell? ⟨x1, 1, none⟩ = some (.int .i64 y2) := cell_of V4.out 1 (by simp)
  have c4_2 : W4.cell? ⟨x1, 2, none⟩ = some (.int .i64 y3) := cell_of V4.out 2 (by simp)
  have c4_3 : W4.cell? ⟨x1, 3, none⟩ = some (.int .i64 0) := cell_of V4.out 3 (by simp)
  have c4_4 : W4.cell? ⟨x1, 4, none⟩ = some (.int .i64 0) := cell_of V4.out 4 (by simp)
  have c4_5 : W4.cell? ⟨x1, 5, none⟩ = some (.int .i64 0) := cell_of V4.out 5 (by simp)
  have c4_6 : W4.cell? ⟨x1, 6, none⟩ = some (.slice none 0 0) := cell_of V4.out 6 (by simp)
  have c4_7 : W4.cell? ⟨x1, 7, none⟩ = some (.string ⟨#[]⟩) := cell_of V4.out 7 (by simp)
  have c4_8 : W4.cell? ⟨x1, 8, none⟩ = some (.slice none 0 0) := cell_of V4.out 8 (by simp)
  have c4_9 : W4.cell? ⟨x1, 9, none⟩ = some (.string ⟨#[]⟩) := cell_of V4.out 9 (by simp)
  have c4_10 : W4.cell? ⟨x1, 10, none⟩ = some (.string ⟨#[]⟩) := cell_of V4.out 10 (by simp)
  have fz4 : ∀ k, W4.frozen? ⟨x1, k, none⟩ = false := fun k => V4.out.frozen k
  have w4_7 := fz4 7
  have w4_8 := fz4 8
  obtain ⟨W4s, hW4s⟩ : ∃ x, Hid (x = ((W4.setCell ⟨x1, 7, none⟩ (.string y4.t)).setCell ⟨x1, 8, none⟩ (.slice Ava y4.a.length cva))) := ⟨_, Lib.hid rfl⟩
  have B4s : Hid (Fr (gq g q) (gq g q) w W4s) := by show Fr _ _ _ _; rw [hW4s.out]; exact ((B4.out.set (p := ⟨x1, 7, none⟩) (.inr hxw1) (.string y4.t)).set (p := ⟨x1, 8, none⟩) (.inr hxw1) (.slice Ava y4.a.length cva))
  have K4s : Hid (Bk W4s x0 62 #[.int .i64 0, .int .i64 0, .int .i64 0, .int .i64 0, .int .i64 0, .int .i64 0, .slice none 0 0, .string ⟨#[]⟩, .slice none 0 0, .string ⟨#[]⟩, .string ⟨#[]⟩]) := by show Bk _ _ _ _; rw [hW4s.out]; exact ((K4.out.far (p := ⟨x1, 7, none⟩) hx01n (.string y4.t)).far (p := ⟨x1, 8, none⟩) hx01n (.slice Ava y4.a.length cva))
  have V4s : Hid (Bk W4s x1 62 #[.int .i64 4, .int .i64 y2, .int .i64 y3, .int .i64 0, .int .i64 0, .int .i64 0, .slice none 0 0, .string y4.t, .slice Ava y4.a.length cva, .string ⟨#[]⟩, .string ⟨#[]⟩]) := by show Bk _ _ _ _; rw [hW4s.out]; simpa using ((V4.out.set 7 (.string y4.t)).set 8 (.slice Ava y4.a.length cva))
  have H4s : Hid (Rr W4s B g q s4 d) := by show Rr _ _ _ _ _ _; rw [hW4s.out]; exact (rr_set (rr_set H4.out hxB1 7 (.string y4.t)) hxB1 8 (.slice Ava y4.a.length cva))
  have Qva : Ls (((W4.setCell ⟨x1, 7, none⟩ (.string y4.t)).setCell ⟨x1, 8, none⟩ (.slice Ava y4.a.length cva))) (fun k => x1 < k) (.slice Ava y4.a.length cva) y4.a := (ls_set (ls_set Rva4.out (fun k hk => by omega) 7 (.string y4.t)) (fun k hk => by omega) 8 (.slice Ava y4.a.length cva))
  rw [← hW4s.out] at Qva
  replace Rva4 := Lib.hid Qva
  clear Qva
  have p4s := rr_cell0 H4s.out
  have d4_0 : W4s.cell? ⟨x1, 0, none⟩ = some (.int .i64 4) := cell_of V4s.out 0 (by simp)
  have d4_1 : W4s.cell? ⟨x1, 1, none⟩ = some (.int .i64 y2) := cell_of V4s.out 1 (by simp)
  have d4_2 : W4s.cell? ⟨x1, 2, none⟩ = some (.int .i64 y3) := cell_of V4s.out 2 (by simp)
  have d4_3 : W4s.cell? ⟨x1, 3, none⟩ = some (.int .i64 0) := cell_of V4s.out 3 (by simp)
  have d4_4 : W4s.cell? ⟨x1, 4, none⟩ = some (.int .i64 0) := cell_of V4s.out 4 (by simp)
  have d4_5 : W4s.cell? ⟨x1, 5, none⟩ = some (.int .i64 0) := cell_of V4s.out 5 (by simp)
  have d4_6 : W4s.cell? ⟨x1, 6, none⟩ = some (.slice none 0 0) := cell_of V4s.out 6 (by simp)
  have d4_7 : W4s.cell? ⟨x1, 7, none⟩ = some (.string y4.t) := cell_of V4s.out 7 (by simp)
  have d4_8 : W4s.cell? ⟨x1, 8, none⟩ = some (.slice Ava y4.a.length cva) := cell_of V4s.out 8 (by simp)
  have d4_9 : W4s.cell? ⟨x1, 9, none⟩ = some (.string ⟨#[]⟩) := cell_of V4s.out 9 (by simp)
  have d4_10 : W4s.cell? ⟨x1, 10, none⟩ = some (.string ⟨#[]⟩) := cell_of V4s.out 10 (by simp)
  have o0z : W4.cell? ⟨x0, 0, none⟩ = some (.int .i64 0) := cell_of K4.out 0 (by simp)
  have o0f : W4.frozen? ⟨x0, 0, none⟩ = false := K4.out.frozen 0
  have o1z : W4.cell? ⟨x0, 1, none⟩ = some (.int .i64 0) := cell_of K4.out 1 (by simp)
  have o1f : W4.frozen? ⟨x0, 1, none⟩ = false := K4.out.frozen 1
  have o2z : W4.cell? ⟨x0, 2, none⟩ = some (.int .i64 0) := cell_of K4.out 2 (by simp)
  have o2f : W4.frozen? ⟨x0, 2, none⟩ = false := K4.out.frozen 2
  have o3z : W4.cell? ⟨x0, 3, none⟩ = some (.int .i64 0) := cell_of K4.out 3 (by simp)
  have o3f : W4.frozen? ⟨x0, 3, none⟩ = false := K4.out.frozen 3
  have o4z : W4.cell? ⟨x0, 4, none⟩ = some (.int .i64 0) := cell_of K4.out 4 (by simp)
  have o4f : W4.frozen? ⟨x0, 4, none⟩ = false := K4.out.frozen 4
  have o5z : W4.cell? ⟨x0, 5, none⟩ = some (.int .i64 0) := cell_of K4.out 5 (by simp)
  have o5f : W4.frozen? ⟨x0, 5, none⟩ = false := K4.out.frozen 5
  have o6z : W4.cell? ⟨x0, 6, none⟩ = some (.slice none 0 0) := cell_of K4.out 6 (by simp)
  have o6f : W4.frozen? ⟨x0, 6, none⟩ = false := K4.out.frozen 6
  have o7z : W4.cell? ⟨x0, 7, none⟩ = some (.string ⟨#[]⟩) := cell_of K4.out 7 (by simp)
  have o7f : W4.frozen? ⟨x0, 7, none⟩ = false := K4.out.frozen 7
  have o8z : W4.cell? ⟨x0, 8, none⟩ = some (.slice none 0 0) := cell_of K4.out 8 (by simp)
  have o8f : W4.frozen? ⟨x0, 8, none⟩ = false := K4.out.frozen 8
  have o9z : W4.cell? ⟨x0, 9, none⟩ = some (.string ⟨#[]⟩) := cell_of K4.out 9 (by simp)
  have o9f : W4.frozen? ⟨x0, 9, none⟩ = false := K4.out.frozen 9
  have o10z : W4.cell? ⟨x0, 10, none⟩ = some (.string ⟨#[]⟩) := cell_of K4.out 10 (by simp)
  have o10f : W4.frozen? ⟨x0, 10, none⟩ = false := K4.out.frozen 10
  have hx0l : x0 < W4.heap.size := K4.out.lt
  obtain ⟨Wf, hWf⟩ : ∃ x, Hid (x = (((((((((((W4s.setCell ⟨x0, 0, none⟩ (.int .i64 4)).setCell ⟨x0, 1, none⟩ (.int .i64 y2)).setCell ⟨x0, 2, none⟩ (.int .i64 y3)).setCell ⟨x0, 3, none⟩ (.int .i64 0)).setCell ⟨x0, 4, none⟩ (.int .i64 0)).setCell ⟨x0, 5, none⟩ (.int .i64 0)).setCell ⟨x0, 6, none⟩ (.slice none 0 0)).setCell ⟨x0, 7, none⟩ (.string y4.t)).setCell ⟨x0, 8, none⟩ (.slice Ava y4.a.length cva)).setCell ⟨x0, 9, none⟩ (.string ⟨#[]⟩)).setCell ⟨x0, 10, none⟩ (.string ⟨#[]⟩))) := ⟨_, Lib.hid rfl⟩
  have BF : Hid (Fr (gq g q) (gq g q) w Wf) := by show Fr _ _ _ _; rw [hWf.out]; exact (((((((((((B4s.out.set (p := ⟨x0, 0, none⟩) (.inr hxw) (.int .i64 4)).set (p := ⟨x0, 1, none⟩) (.inr hxw) (.int .i64 y2)).set (p := ⟨x0, 2, none⟩) (.inr hxw) (.int .i64 y3)).set (p := ⟨x0, 3, none⟩) (.inr hxw) (.int .i64 0)).set (p := ⟨x0, 4, none⟩) (.inr hxw) (.int .i64 0)).set (p := ⟨x0, 5, none⟩) (.inr hxw) (.int .i64 0)).set (p := ⟨x0, 6, none⟩) (.inr hxw) (.slice none 0 0)).set (p := ⟨x0, 7, none⟩) (.inr hxw) (.string y4.t)).set (p := ⟨x0, 8, none⟩) (.inr hxw) (.slice Ava y4.a.length cva)).set (p := ⟨x0, 9, none⟩) (.inr hxw) (.string ⟨#[]⟩)).set (p := ⟨x0, 10, none⟩) (.inr hxw) (.string ⟨#[]⟩))
  have HF : Hid (Rr Wf B g q s4 d) := by show Rr _ _ _ _ _ _; rw [hWf.out]; exact (rr_set (rr_set (rr_set (rr_set (rr_set (rr_set (rr_set (rr_set (rr_set (rr_set (rr_set H4s.out hxB 0 (.int .i64 4)) hxB 1 (.int .i64 y2)) hxB 2 (.int .i64 y3)) hxB 3 (.int .i64 0)) hxB 4 (.int .i64 0)) hxB 5 (.int .i64 0)) hxB 6 (.slice none 0 0)) hxB 7 (.string y4.t)) hxB 8 (.slice Ava y4.a.length cva)) hxB 9 (.string ⟨#[]⟩)) hxB 10 (.string ⟨#[]⟩))
  have KF : Hid (Bk Wf x0 62 #[.int .i64 4, .int .i64 y2, .int .i64 y3, .int .i64 0, .int .i64 0, .int .i64 0, .slice none 0 0, .string y4.t, .slice Ava y4.a.length cva, .string ⟨#[]⟩, .string ⟨#[]⟩]) := by show Bk _ _ _ _; rw [hWf.out]; simpa using (((((((((((K4s.out.set 0 (.int .i64 4)).set 1 (.int .i64 y2)).set 2 (.int .i64 y3)).set 3 (.int .i64 0)).set 4 (.int .i64 0)).set 5 (.int .i64 0)).set 6 (.slice none 0 0)).set 7 (.string y4.t)).set 8 (.slice Ava y4.a.length cva)).set 9 (.string ⟨#[]⟩)).set 10 (.string ⟨#[]⟩))
  have Lva : Hid (Ls Wf (fun k => w.heap.size ≤ k) (.slice Ava y4.a.length cva) y4.a) := by show Ls _ _ _ _; rw [hWf.out]; exact (ls_set (ls_set (ls_set (ls_set (ls_set (ls_set (ls_set (ls_set (ls_set (ls_set (ls_set Rva4.out (fun k hk => by omega) 0 (.int .i64 4)) (fun k hk => by omega) 1 (.int .i64 y2)) (fun k hk => by omega) 2 (.int .i64 y3)) (fun k hk => by omega) 3 (.int .i64 0)) (fun k hk => by omega) 4 (.int .i64 0)) (fun k hk => by omega) 5 (.int .i64 0)) (fun k hk => by omega) 6 (.slice none 0 0)) (fun k hk => by omega) 7 (.string y4.t)) (fun k hk => by omega) 8 (.slice Ava y4.a.length cva)) (fun k hk => by omega) 9 (.string ⟨#[]⟩)) (fun k hk => by omega) 10 (.string ⟨#[]⟩)).mono fun b hb _ => by omega
  have o0 : Wf.cell? ⟨x0, 0, none⟩ = some (.int .i64 4) := cell_of KF.out 0 (by simp)
  have o1 : Wf.cell? ⟨x0, 1, none⟩ = some (.int .i64 y2) := cell_of KF.out 1 (by simp)
  have o2 : Wf.cell? ⟨x0, 2, none⟩ = some (.int .i64 y3) := cell_of KF.out 2 (by simp)
  have o3 : Wf.cell? ⟨x0, 3, none⟩ = some (.int .i64 0) := cell_of KF.out 3 (by simp)
  have o4 : Wf.cell? ⟨x0, 4, none⟩ = some (.int .i64 0) := cell_of KF.out 4 (by simp)
  have o5 : Wf.cell? ⟨x0, 5, none⟩ = some (.int .i64 0) := cell_of KF.out 5 (by simp)
  have o6 : Wf.cell? ⟨x0, 6, none⟩ = some (.slice none 0 0) := cell_of KF.out 6 (by simp)
  have o7 : Wf.cell? ⟨x0, 7, none⟩ = some (.string y4.t) := cell_of KF.out 7 (by simp)
  have o8 : Wf.cell? ⟨x0, 8, none⟩ = some (.slice Ava y4.a.length cva) := cell_of KF.out 8 (by simp)
  have o9 : Wf.cell? ⟨x0, 9, none⟩ = some (.string ⟨#[]⟩) := cell_of KF.out 9 (by simp)
  have o10 : Wf.cell? ⟨x0, 10, none⟩ = some (.string ⟨#[]⟩) := cell_of KF.out 10 (by simp)
  clear K4s V4s B4s H4s KF
  go_wp2
  try rw [← hW4s.out]
  try rw [← hWf.out]
  refine bodyPost_ret (v := .agg #[.int .i64 4, .int .i64 y2, .int .i64 y3, .int .i64 0, .int .i64 0, .int .i64 0, .slice none 0 0, .string y4.t, .slice Ava y4.a.length cva, .string ⟨#[]⟩, .string ⟨#[]⟩]) (by simp [results, Tryz.results44, go_sem, o0, o1, o2, o3, o4, o5, o6, o7, o8, o9, o10]) rfl ?_
  show RstepT B g q w s d _ _
  unfold RstepT
  rw [hR.out]
  exact ⟨_, _, rfl, Ls.nil _ _, Lva.out, HF.out, BF.out⟩
set_option maxRecDepth 100000 in
set_option maxHeartbeats 4000000 in
theorem rstep_x (w : World) (B g q : Nat) (s : RS) (d : Int) (h : Rr w B g q s d) (kk : Nat) (k1 : kk ≠ 1) (k2 : kk ≠ 2) (k6 : kk ≠ 6) (k3 : kk ≠ 3) (k4 : kk ≠ 4) (k5 : kk ≠ 5) (s1 : RS) (e1 : Hid ((kk, s1) = rK 6 s)) : Calls Tryz.prog 44 #[.pointer (some ⟨g, 0, none⟩)] w (RstepT B g q w s d) := by
  obtain ⟨⟨y2, s2⟩, e2⟩ : ∃ x, Hid (x = rI s1) := ⟨_, Lib.hid rfl⟩
  have f1 : ((kk : Int) == 1) = false := by simpa using (by omega : ¬ (kk : Int) = 1)
  have f2 : ((kk : Int) == 2) = false := by simpa using (by omega : ¬ (kk : Int) = 2)
  have f6 : ((kk : Int) == 6) = false := by simpa using (by omega : ¬ (kk : Int) = 6)
  have f3 : ((kk : Int) == 3) = false := by simpa using (by omega : ¬ (kk : Int) = 3)
  have f4 : ((kk : Int) == 4) = false := by simpa using (by omega : ¬ (kk : Int) = 4)
  have f5 : ((kk : Int) == 5) = false := by simpa using (by omega : ¬ (kk : Int) = 5)
  have hR : Hid (rSt s = (⟨kk, y2, 0, 0, 0, 0, [], noM, .empty, .empty⟩, s2)) := by show _ = _; simp only [rSt, ← e1.out, ← e2.out, rStB]; rw [if_neg (by omega), if_neg (by omega), if_neg (by omega), if_neg (by omega)]
  clear k1 k2 k6 k3 k4 k5
  have hlo := Lib.hid h.lo
  have hbs := h.base
  obtain ⟨x0, hx0⟩ : ∃ x0, Hid (x0 = w.heap.size) := ⟨_, Lib.hid rfl⟩
  obtain ⟨W0, hW0⟩ : ∃ x, Hid (x = w.alloc (.cells #[.int .i64 0, .int .i64 0, .int .i64 0, .int .i64 0, .int .i64 0, .int .i64 0, .slice none 0 0, .string ⟨#[]⟩, .slice none 0 0, .string ⟨#[]⟩, .string ⟨#[]⟩] 62)) := ⟨_, Lib.hid rfl⟩
  have H0 : Hid (Rr W0 B g q s d) := by show Rr _ _ _ _ _ _; rw [hW0.out]; exact h.alloc _
  have B0 : Hid (Fr (gq g q) (gq g q) w W0) := by show Fr _ _ _ _; rw [hW0.out]; exact (Fr.refl h.own).alloc _
  have K0 : Hid (Bk W0 x0 62 #[.int .i64 0, .int .i64 0, .int .i64 0, .int .i64 0, .int .i64 0, .int .i64 0, .slice none 0 0, .string ⟨#[]⟩, .slice none 0 0, .string ⟨#[]⟩, .string ⟨#[]⟩]) := by show Bk _ _ _ _; rw [hW0.out, hx0.out]; exact Bk.new _ _ _
  have hn0 : ¬ gq g q x0 := fun hh => by have := hlo.out _ hh; have := hx0.out; omega
  have hxB : B ≤ x0 := by rw [hx0.out]; exact hbs
  have hxw : w.heap.size ≤ x0 := by rw [hx0.out]; exact Nat.le_refl _
  clear h
  go_enter Tryz.func44, Tryz.ntmps44
  go_wp2_with fail
  rw [← hW0.out, ← hx0.out]
  have KK := kind_any W0 B g q s d H0.out 6 (by decide)
  rw [← e1.out] at KK
  refine KK.mono ?_
  clear KK
  rintro e W1 ⟨rfl, h1, f1⟩
  try dsimp only at h1 ⊢
  have B1 := Lib.hid (B0.out.trans f1)
  have K1 := Lib.hid (bk_fr K0.out f1 hn0)
  have H1 := Lib.hid h1
  have z1 := f1.size
  clear h1 f1
  have p1 := rr_cell0 H1.out
  go_wp2_with fail
  have KK := number_r W1 B g q s1 d H1.out
  rw [← e2.out] at KK
  refine KK.mono ?_
  clear KK
  rintro e W2 ⟨rfl, h2, f2⟩
  try dsimp only at h2 ⊢
  have B2 := Lib.hid (B1.out.trans f2)
  have K2 := Lib.hid (bk_fr K1.out f2 hn0)
  have H2 := Lib.hid h2
  have z2 := f2.size
  clear h2 f2
  have p2 := rr_cell0 H2.out
  obtain ⟨x1, hx1⟩ : ∃ x1, Hid (x1 = W2.heap.size) := ⟨_, Lib.hid rfl⟩
  obtain ⟨W2v, hW2v⟩ : ∃ x, Hid (x = W2.alloc (.cells #[.int .i64 (kk : Int), .int .i64 y2, .int .i64 0, .int .i64 0, .int .i64 0, .int .i64 0, .slice none 0 0, .string ⟨#[]⟩, .slice none 0 0, .string ⟨#[]⟩, .string ⟨#[]⟩] 62)) := ⟨_, Lib.hid rfl⟩
  have hx01 : x0 < x1 := by rw [hx1.out]; exact K2.out.lt
  have hn1 : ¬ gq g q x1 := fun hh => by have := hlo.out _ hh; omega
  have HG1 : Hid (∀ k, x1 < k → ¬ gq g q k) := fun k hk hh => by have := hlo.out _ hh; omega
  have hxg : x1 ≠ g := fun e => hn1 (.inl e)
  have hgx : g ≠ x1 := fun e => hxg e.symm
  have hx10 : x1 ≠ x0 := by omega
  have hx01n : x0 ≠ x1 := by omega
  have hgl1 : g < W2.heap.size := H2.out.own g (.inl rfl)
  have B2v : Hid (Fr (gq g q) (gq g q) w W2v) := by show Fr _ _ _ _; rw [hW2v.out]; exact B2.out.alloc _
  have K2v : Hid (Bk W2v x0 62 #[.int .i64 0, .int .i64 0, .int .i64 0, .int .i64 0, .int .i64 0, .int .i64 0, .slice none 0 0, .string ⟨#[]⟩, .slice none 0 0, .string ⟨#[]⟩, .string ⟨#[]⟩]) := by show Bk _ _ _ _; rw [hW2v.out]; exact K2.out.alloc _
  have V2v : Hid (Bk W2v x1 62 #[.int .i64 (kk : Int), .int .i64 y2, .int .i64 0, .int .i64 0, .int .i64 0, .int .i64 0, .slice none 0 0, .string ⟨#[]⟩, .slice none 0 0, .string ⟨#[]⟩, .string ⟨#[]⟩]) := by show Bk _ _ _ _; rw [hW2v.out, hx1.out]; exact Bk.new _ _ _
  have H2v : Hid (Rr W2v B g q s2 d) := by show Rr _ _ _ _ _ _; rw [hW2v.out]; exact H2.out.alloc _
  have pv := rr_cell0 H2v.out
  have cv_0 : W2v.cell? ⟨x1, 0, none⟩ = some (.int .i64 (kk : Int)) := cell_of V2v.out 0 (by simp)
  have cv_1 : W2v.cell? ⟨x1, 1, none⟩ = some (.int .i64 y2) := cell_of V2v.out 1 (by simp)
  have cv_2 : W2v.cell? ⟨x1, 2, none⟩ = some (.int .i64 0) := cell_of V2v.out 2 (by simp)
  have cv_3 : W2v.cell? ⟨x1, 3, none⟩ = some (.int .i64 0) := cell_of V2v.out 3 (by simp)
  have cv_4 : W2v.cell? ⟨x1, 4, none⟩ = some (.int .i64 0) := cell_of V2v.out 4 (by simp)
  have cv_5 : W2v.cell? ⟨x1, 5, none⟩ = some (.int .i64 0) := cell_of V2v.out 5 (by simp)
  have cv_6 : W2v.cell? ⟨x1, 6, none⟩ = some (.slice none 0 0) := cell_of V2v.out 6 (by simp)
  have cv_7 : W2v.cell? ⟨x1, 7, none⟩ = some (.string ⟨#[]⟩) := cell_of V2v.out 7 (by simp)
  have cv_8 : W2v.cell? ⟨x1, 8, none⟩ = some (.slice none 0 0) := cell_of V2v.out 8 (by simp)
  have cv_9 : W2v.cell? ⟨x1, 9, none⟩ = some (.string ⟨#[]⟩) := cell_of V2v.out 9 (by simp)
  have cv_10 : W2v.cell? ⟨x1, 10, none⟩ = some (.string ⟨#[]⟩) := cell_of V2v.out 10 (by simp)
  have hxw1 : w.heap.size ≤ x1 := by omega
  have hxB1 : B ≤ x1 := by omega
  have hfv : ∀ k, W2v.frozen? ⟨x1, k, none⟩ = false := fun k => V2v.out.frozen k
  have o0z : W2.cell? ⟨x0, 0, none⟩ = some (.int .i64 0) := cell_of K2.out 0 (by simp)
  have o0f : W2.frozen? ⟨x0, 0, none⟩ = false := K2.out.frozen 0
  have o1z : W2.cell? ⟨x0, 1, none⟩ = some (.int .i64 0) := cell_of K2.out 1 (by simp)
  have o1f : W2.frozen? ⟨x0, 1, none⟩ = false := K2.out.frozen 1
  have o2z : W2.cell? ⟨x0, 2, none⟩ = some (.int .i64 0) := cell_of K2.out 2 (by simp)
  have o2f : W2.frozen? ⟨x0, 2, none⟩ = false := K2.out.frozen 2
  have o3z : W2.cell? ⟨x0, 3, none⟩ = some (.int .i64 0) := cell_of K2.out 3 (by simp)
  have o3f : W2.frozen? ⟨x0, 3, none⟩ = false := K2.out.frozen 3
  have o4z : W2.cell? ⟨x0, 4, none⟩ = some (.int .i64 0) := cell_of K2.out 4 (by simp)
  have o4f : W2.frozen? ⟨x0, 4, none⟩ = false := K2.out.frozen 4
  have o5z : W2.cell? ⟨x0, 5, none⟩ = some (.int .i64 0) := cell_of K2.out 5 (by simp)
  have o5f : W2.frozen? ⟨x0, 5, none⟩ = false := K2.out.frozen 5
  have o6z : W2.cell? ⟨x0, 6, none⟩ = some (.slice none 0 0) := cell_of K2.out 6 (by simp)
  have o6f : W2.frozen? ⟨x0, 6, none⟩ = false := K2.out.frozen 6
  have o7z : W2.cell? ⟨x0, 7, none⟩ = some (.string ⟨#[]⟩) := cell_of K2.out 7 (by simp)
  have o7f : W2.frozen? ⟨x0, 7, none⟩ = false := K2.out.frozen 7
  have o8z : W2.cell? ⟨x0, 8, none⟩ = some (.slice none 0 0) := cell_of K2.out 8 (by simp)
  have o8f : W2.frozen? ⟨x0, 8, none⟩ = false := K2.out.frozen 8
  have o9z : W2.cell? ⟨x0, 9, none⟩ = some (.string ⟨#[]⟩) := cell_of K2.out 9 (by simp)
  have o9f : W2.frozen? ⟨x0, 9, none⟩ = false := K2.out.frozen 9
  have o10z : W2.cell? ⟨x0, 10, none⟩ = some (.string ⟨#[]⟩) := cell_of K2.out 10 (by simp)
  have o10f : W2.frozen? ⟨x0, 10, none⟩ = false := K2.out.frozen 10
  have hx0l : x0 < W2.heap.size := K2.out.lt
  obtain ⟨Wf, hWf⟩ : ∃ x, Hid (x = ((((((((((((W2.setCell ⟨x0, 0, none⟩ (.int .i64 (kk : Int))).setCell ⟨x0, 1, none⟩ (.int .i64 y2)).setCell ⟨x0, 2, none⟩ (.int .i64 0)).setCell ⟨x0, 3, none⟩ (.int .i64 0)).setCell ⟨x0, 4, none⟩ (.int .i64 0)).setCell ⟨x0, 5, none⟩ (.int .i64 0)).setCell ⟨x0, 6, none⟩ (.slice none 0 0)).setCell ⟨x0, 7, none⟩ (.string ⟨#[]⟩)).setCell ⟨x0, 8, none⟩ (.slice none 0 0)).setCell ⟨x0, 9, none⟩ (.string ⟨#[]⟩)).setCell ⟨x0, 10, none⟩ (.string ⟨#[]⟩)).alloc (.cells #[.int .i64 (kk : Int), .int .i64 y2, .int .i64 0, .int .i64 0, .int .i64 0, .int .i64 0, .slice none 0 0, .string ⟨#[]⟩, .slice none 0 0, .string ⟨#[]⟩, .string ⟨#[]⟩] 62))) := ⟨_, Lib.hid rfl⟩
  have BF : Hid (Fr (gq g q) (gq g q) w Wf) := by show Fr _ _ _ _; rw [hWf.out]; exact ((((((((((((B2.out.set (p := ⟨x0, 0, none⟩) (.inr hxw) (.int .i64 (kk : Int))).set (p := ⟨x0, 1, none⟩) (.inr hxw) (.int .i64 y2)).set (p := ⟨x0, 2, none⟩) (.inr hxw) (.int .i64 0)).set (p := ⟨x0, 3, none⟩) (.inr hxw) (.int .i64 0)).set (p := ⟨x0, 4, none⟩) (.inr hxw) (.int .i64 0)).set (p := ⟨x0, 5, none⟩) (.inr hxw) (.int .i64 0)).set (p := ⟨x0, 6, none⟩) (.inr hxw) (.slice none 0 0)).set (p := ⟨x0, 7, none⟩) (.inr hxw) (.string ⟨#[]⟩)).set (p := ⟨x0, 8, none⟩) (.inr hxw) (.slice none 0 0)).set (p := ⟨x0, 9, none⟩) (.inr hxw) (.string ⟨#[]⟩)).set (p := ⟨x0, 10, none⟩) (.inr hxw) (.string ⟨#[]⟩)).alloc _)
  have HF : Hid (Rr Wf B g q s2 d) := by show Rr _ _ _ _ _ _; rw [hWf.out]; exact ((rr_set (rr_set (rr_set (rr_set (rr_set (rr_set (rr_set (rr_set (rr_set (rr_set (rr_set H2.out hxB 0 (.int .i64 (kk : Int))) hxB 1 (.int .i64 y2)) hxB 2 (.int .i64 0)) hxB 3 (.int .i64 0)) hxB 4 (.int .i64 0)) hxB 5 (.int .i64 0)) hxB 6 (.slice none 0 0)) hxB 7 (.string ⟨#[]⟩)) hxB 8 (.slice none 0 0)) hxB 9 (.string ⟨#[]⟩)) hxB 10 (.string ⟨#[]⟩)).alloc _)
  have KF : Hid (Bk Wf x0 62 #[.int .i64 (kk : Int), .int .i64 y2, .int .i64 0, .int .i64 0, .int .i64 0, .int .i64 0, .slice none 0 0, .string ⟨#[]⟩, .slice none 0 0, .string ⟨#[]⟩, .string ⟨#[]⟩]) := by show Bk _ _ _ _; rw [hWf.out]; simpa using ((((((((((((K2.out.set 0 (.int .i64 (kk : Int))).set 1 (.int .i64 y2)).set 2 (.int .i64 0)).set 3 (.int .i64 0)).set 4 (.int .i64 0)).set 5 (.int .i64 0)).set 6 (.slice none 0 0)).set 7 (.string ⟨#[]⟩)).set 8 (.slice none 0 0)).set 9 (.string ⟨#[]⟩)).set 10 (.string ⟨#[]⟩)).alloc _)
  have o0 : Wf.cell? ⟨x0, 0, none⟩ = some (.int .i64 (kk : Int)) := cell_of KF.out 0 (by simp)
  have o1 : Wf.cell? ⟨x0, 1, none⟩ = some (.int .i64 y2) := cell_of KF.out 1 (by simp)
  have o2 : Wf.cell? ⟨x0, 2, none⟩ = some (.int .i64 0) := cell_of KF.out 2 (by simp)
  have o3 : Wf.cell? ⟨x0, 3, none⟩ = some (.int .i64 0) := cell_of KF.out 3 (by simp)
  have o4 : Wf.cell? ⟨x0, 4, none⟩ = some (.int .i64 0) := cell_of KF.out 4 (by simp)
  have o5 : Wf.cell? ⟨x0, 5, none⟩ = some (.int .i64 0) := cell_of KF.out 5 (by simp)
  have o6 : Wf.cell? ⟨x0, 6, none⟩ = some (.slice none 0 0) := cell_of KF.out 6 (by simp)
  have o7 : Wf.cell? ⟨x0, 7, none⟩ = some (.string ⟨#[]⟩) := cell_of KF.out 7 (by simp)
  have o8 : Wf.cell? ⟨x0, 8, none⟩ = some (.slice none 0 0) := cell_of KF.out 8 (by simp)
  have o9 : Wf.cell? ⟨x0, 9, none⟩ = some (.string ⟨#[]⟩) := cell_of KF.out 9 (by simp)
  have o10 : Wf.cell? ⟨x0, 10, none⟩ = some (.string ⟨#[]⟩) := cell_of KF.out 10 (by simp)
  clear K2v V2v B2v H2v KF
  go_wp2
  try rw [← hWf.out]
  refine bodyPost_ret (v := .agg #[.int .i64 (kk : Int), .int .i64 y2, .int .i64 0, .int .i64 0, .int .i64 0, .int .i64 0, .slice none 0 0, .string ⟨#[]⟩, .slice none 0 0, .string ⟨#[]⟩, .string ⟨#[]⟩]) (by simp [results, Tryz.results44, go_sem, o0, o1, o2, o3, o4, o5, o6, o7, o8, o9, o10]) rfl ?_
  show RstepT B g q w s d _ _
  unfold RstepT
  rw [hR.out]
  exact ⟨_, _, rfl, Ls.nil _ _, Ls.nil _ _, HF.out, BF.out⟩
set_option maxRecDepth 100000 in
set_option maxHeartbeats 4000000 in
theorem rstep_5 (w : World) (B g q : Nat) (s : RS) (d : Int) (h : Rr w B g q s d) (s1 : RS) (e1 : Hid ((5, s1) = rK 6 s)) : Calls Tryz.prog 44 #[.pointer (some ⟨g, 0, none⟩)] w (RstepT B g q w s d) := by
  obtain ⟨⟨y2, s2⟩, e2⟩ : ∃ x, Hid (x = rI s1) := ⟨_, Lib.hid rfl⟩
  obtain ⟨⟨y3, s3⟩, e3⟩ : ∃ x, Hid (x = rT s2) := ⟨_, Lib.hid rfl⟩
  obtain ⟨⟨y4, s4⟩, e4⟩ : ∃ x, Hid (x = rT s3) := ⟨_, Lib.hid rfl⟩
  have qB : rStB 5 y2 = rS2 (fun n v => ⟨(5 : Nat), y2, 0, 0, 0, 0, [], noM, n, v⟩) rT rT := by unfold rStB; rw [if_neg (by decide), if_neg (by decide), if_neg (by decide), if_pos rfl]
  have hR : Hid (rSt s = (⟨5, y2, 0, 0, 0, 0, [], noM, y3, y4⟩, s4)) := by show _ = _; simp only [rSt, ← e1.out, ← e2.out, qB, rS2, ← e3.out, ← e4.out]; rfl
  have hlo := Lib.hid h.lo
  have hbs := h.base
  obtain ⟨x0, hx0⟩ : ∃ x0, Hid (x0 = w.heap.size) := ⟨_, Lib.hid rfl⟩
  obtain ⟨W0, hW0⟩ : ∃ x, Hid (x = w.alloc (.cells #[.int .i64 0, .int .i64 0, .int .i64 0, .int .i64 0, .int .i64 0, .int .i64 0, .slice none 0 0, .string ⟨#[]⟩, .slice none 0 0, .string ⟨#[]⟩, .string ⟨#[]⟩] 62)) := ⟨_, Lib.hid rfl⟩
  have H0 : Hid (Rr W0 B g q s d) := by show Rr _ _ _ _ _ _; rw [hW0.out]; exact h.alloc _
  have B0 : Hid (Fr (gq g q) (gq g q) w W0) := by show Fr _ _ _ _; rw [hW0.out]; exact (Fr.refl h.own).alloc _
  have K0 : Hid (Bk W0 x0 62 #[.int .i64 0, .int .i64 0, .int .i64 0, .int .i64 0, .int .i64 0, .int .i64 0, .slice none 0 0, .string ⟨#[]⟩, .slice none 0 0, .string ⟨#[]⟩, .string ⟨#[]⟩]) := by show Bk _ _ _ _; rw [hW0.out, hx0.out]; exact Bk.new _ _ _
  have hn0 : ¬ gq g q x0 := fun hh => by have := hlo.out _ hh; have := hx0.out; omega
  have hxB : B ≤ x0 := by rw [hx0.out]; exact hbs
  have hxw : w.heap.size ≤ x0 := by rw [hx0.out]; exact Nat.le_refl _
  clear h
  go_enter Tryz.func44, Tryz.ntmps44
  go_wp2_with fail
  rw [← hW0.out, ← hx0.out]
  have KK := kind_any W0 B g q s d H0.out 6 (by decide)
  rw [← e1.out] at KK
  refine KK.mono ?_
  clear KK
  rintro e W1 ⟨rfl, h1, f1⟩
  try dsimp only at h1 ⊢
  have B1 := Lib.hid (B0.out.trans f1)
  have K1 := Lib.hid (bk_fr K0.out f1 hn0)
  have H1 := Lib.hid h1
  have z1 := f1.size
  clear h1 f1
  have p1 := rr_cell0 H1.out
  go_wp2_with fail
  have KK := number_r W1 B g q s1 d H1.out
  rw [← e2.out] at KK
  refine KK.mono ?_
  clear KK
  rintro e W2 ⟨rfl, h2, f2⟩
  try dsimp only at h2 ⊢
  have B2 := Lib.hid (B1.out.trans f2)
  have K2 := Lib.hid (bk_fr K1.out f2 hn0)
  have H2 := Lib.hid h2
  have z2 := f2.size
  clear h2 f2
  have p2 := rr_cell0 H2.out
  obtain ⟨x1, hx1⟩ : ∃ x1, Hid (x1 = W2.heap.size) := ⟨_, Lib.hid rfl⟩
  obtain ⟨W2v, hW2v⟩ : ∃ x, Hid (x = W2.alloc (.cells #[.int .i64 5, .int .i64 y2, .int .i64 0, .int .i64 0, .int .i64 0, .int .i64 0, .slice none 0 0, .string ⟨#[]⟩, .slice none 0 0, .string ⟨#[]⟩, .string ⟨#[]⟩] 62)) := ⟨_, Lib.hid rfl⟩
  have hx01 : x0 < x1 := by rw [hx1.out]; exact K2.out.lt
  have hn1 : ¬ gq g q x1 := fun hh => by have := hlo.out _ hh; omega
  have HG1 : Hid (∀ k, x1 < k → ¬ gq g q k) := fun k hk hh => by have := hlo.out _ hh; omega
  have hxg : x1 ≠ g := fun e => hn1 (.inl e)
  have hgx : g ≠ x1 := fun e => hxg e.symm
  have hx10 : x1 ≠ x0 := by omega
  have hx01n : x0 ≠ x1 := by omega
  have hgl1 : g < W2.heap.size := H2.out.own g (.inl rfl)
  have B2v : Hid (Fr (gq g q) (gq g q) w W2v) := by show Fr _ _ _ _; rw [hW2v.out]; exact B2.out.alloc _
  have K2v : Hid (Bk W2v x0 62 #[.int .i64 0, .int .i64 0, .int .i64 0, .int .i64 0, .int .i64 0, .int .i64 0, .slice none 0 0, .string ⟨#[]⟩, .slice none 0 0, .string ⟨#[]⟩, .string ⟨#[]⟩]) := by show Bk _ _ _ _; rw [hW2v.out]; exact K2.out.alloc _
  have V2v : Hid (Bk W2v x1 62 #[.int .i64 5, .int .i64 y2, .int .i64 0, .int .i64 0, .int .i64 0, .int .i64 0, .slice none 0 0, .string ⟨#[]⟩, .slice none 0 0, .string ⟨#[]⟩, .string ⟨#[]⟩]) := by show Bk _ _ _ _; rw [hW2v.out, hx1.out]; exact Bk.new _ _ _
  have H2v : Hid (Rr W2v B g q s2 d) := by show Rr _ _ _ _ _ _; rw [hW2v.out]; exact H2.out.alloc _
  have pv := rr_cell0 H2v.out
  have cv_0 : W2v.cell? ⟨x1, 0, none⟩ = some (.int .i64 5) := cell_of V2v.out 0 (by simp)
  have cv_1 : W2v.cell? ⟨x1, 1, none⟩ = some (.int .i64 y2) := cell_of V2v.out 1 (by simp)
  have cv_2 : W2v.cell? ⟨x1, 2, none⟩ = some (.int .i64 0) := cell_of V2v.out 2 (by simp)
  have cv_3 : W2v.cell? ⟨x1, 3, none⟩ = some (.int .i64 0) := cell_of V2v.out 3 (by simp)
  have cv_4 : W2v.cell? ⟨x1, 4, none⟩ = some (.int .i64 0) := cell_of V2v.out 4 (by simp)
  have cv_5 : W2v.cell? ⟨x1, 5, none⟩ = some (.int .i64 0) := cell_of V2v.out 5 (by simp)
  have cv_6 : W2v.cell? ⟨x1, 6, none⟩ = some (.slice none 0 0) := cell_of V2v.out 6 (by simp)
  have cv_7 : W2v.cell? ⟨x1, 7, none⟩ = some (.string ⟨#[]⟩) := cell_of V2v.out 7 (by simp)
  have cv_8 : W2v.cell? ⟨x1, 8, none⟩ = some (.slice none 0 0) := cell_of V2v.out 8 (by simp)
  have cv_9 : W2v.cell? ⟨x1, 9, none⟩ = some (.string ⟨#[]⟩) := cell_of V2v.out 9 (by simp)
  have cv_10 : W2v.cell? ⟨x1, 10, none⟩ = some (.string ⟨#[]⟩) := cell_of V2v.out 10 (by simp)
  have hxw1 : w.heap.size ≤ x1 := by omega
  have hxB1 : B ≤ x1 := by omega
  have hfv : ∀ k, W2v.frozen? ⟨x1, k, none⟩ = false := fun k => V2v.out.frozen k
  go_wp2_with fail
  try rw [← hW2v.out]
  try rw [← hx1.out]
  have HD : Hid (Rr W2v.drew B g q s2 d) := H2v.out.drew
  have BD : Hid (Fr (gq g q) (gq g q) w W2v.drew) := B2v.out.drewN 1
  have KD : Hid (Bk W2v.drew x0 62 #[.int .i64 0, .int .i64 0, .int .i64 0, .int .i64 0, .int .i64 0, .int .i64 0, .slice none 0 0, .string ⟨#[]⟩, .slice none 0 0, .string ⟨#[]⟩, .string ⟨#[]⟩]) := K2v.out.drew
  have VD : Hid (Bk W2v.drew x1 62 #[.int .i64 5, .int .i64 y2, .int .i64 0, .int .i64 0, .int .i64 0, .int .i64 0, .slice none 0 0, .string ⟨#[]⟩, .slice none 0 0, .string ⟨#[]⟩, .string ⟨#[]⟩]) := V2v.out.drew
  have pD := rr_cell0 HD.out
  go_region_law (first
    | (go_simp; (try go_at_call 59); (have KK := rpiece_any W2v.drew B g q s2 d HD.out); (rw [← e3.out] at KK); (refine KK.mono ?_); (clear KK); (rintro e W3 ⟨rfl, h3, f3⟩); (try dsimp only at h3 ⊢); (have B3 := Lib.hid (BD.out.trans f3)); (have K3 := Lib.hid (bk_fr KD.out f3 hn0)); (have V3 := Lib.hid (bk_fr VD.out f3 hn1)); (have H3 := Lib.hid h3); (have z3 := f3.size); (clear h3 f3); (have p3 := rr_cell0 H3.out); (have c3_0 : W3.cell? ⟨x1, 0, none⟩ = some (.int .i64 5) := cell_of V3.out 0 (by simp)); (have c3_1 : W3.cell? ⟨x1, 1, none⟩ = some (.int .i64 y2) := cell_of V3.out 1 (by simp)); (have c3_2 : W3.cell? ⟨x1, 2, none⟩ = some (.int .i64 0) := cell_of V3.out 2 (by simp)); (have c3_3 : W3.cell? ⟨x1, 3, none⟩ = some (.int .i64 0) := cell_of V3.out 3 (by simp)); (have c3_4 : W3.cell? ⟨x1, 4, none⟩ = some (.int .i64 0) := cell_of V3.out 4 (by simp)); (have c3_5 : W3.cell? ⟨x1, 5, none⟩ = some (.int .i64 0) := cell_of V3.out 5 (by simp)); (have c3_6 : W3.cell? ⟨x1, 6, none⟩ = some (.slice none 0 0) := cell_of V3.out 6 (by simp)); (have c3_7 : W3.cell? ⟨x1, 7, none⟩ = some (.string ⟨#[]⟩) := cell_of V3.out 7 (by simp)); (have c3_8 : W3.cell? ⟨x1, 8, none⟩ = some (.slice none 0 0) := cell_of V3.out 8 (by simp)); (have c3_9 : W3.cell? ⟨x1, 9, none⟩ = some (.string ⟨#[]⟩) := cell_of V3.out 9 (by simp)); (have c3_10 : W3.cell? ⟨x1, 10, none⟩ = some (.string ⟨#[]⟩) := cell_of V3.out 10 (by simp)); (have fz3 : ∀ k, W3.frozen? ⟨x1, k, none⟩ = false := fun k => V3.out.frozen k))
    | (go_simp; (try go_at_call 59); (have KK := rpiece_any W3 B g q s3 d H3.out); (rw [← e4.out] at KK); (refine KK.mono ?_); (clear KK); (rintro e W4 ⟨rfl, h4, f4⟩); (try dsimp only at h4 ⊢); (have B4 := Lib.hid (B3.out.trans f4)); (have K4 := Lib.hid (bk_fr K3.out f4 hn0)); (have V4 := Lib.hid (bk_fr V3.out f4 hn1)); (have H4 := Lib.hid h4); (have z4 := f4.size); (clear h4 f4); (have p4 := rr_cell0 H4.out); (have c4_0 : W4.cell? ⟨x1, 0, none⟩ = some (.int .i64 5) := cell_of V4.out 0 (by simp)); (have c4_1 : W4.cell? ⟨x1, 1, none⟩ = some (.int .i64 y2) := cell_of V4.out 1 (by simp)); (have c4_2 : W4.cell? ⟨x1, 2, none⟩ = some (.int .i64 0) := cell_of V4.out 2 (by simp)); (have c4_3 : W4.cell? ⟨x1, 3, none⟩ = some (.int .i64 0) := cell_of V4.out 3 (by simp)); (have c4_4 : W4.cell? ⟨x1, 4, none⟩ = some (.int .i64 0) := cell_of V4.out 4 (by simp)); (have c4_5 : W4.cell? ⟨x1, 5, none⟩ = some (.int .i64 0) := cell_of V4.out 5 (by simp)); (have c4_6 : W4.cell? ⟨x1, 6, none⟩ = some (.slice none 0 0) := cell_of V4.out 6 (by simp)); (have c4_7 : W4.cell? ⟨x1, 7, none⟩ = some (.string ⟨#[]⟩) := cell_of V4.out 7 (by simp)); (have c4_8 : W4.cell? ⟨x1, 8, none⟩ = some (.slice none 0 0) := cell_of V4.out 8 (by simp)); (have c4_9 : W4.cell? ⟨x1, 9, none⟩ = some (.string ⟨#[]⟩) := cell_of V4.out 9 (by simp)); (have c4_10 : W4.cell? ⟨x1, 10, none⟩ = some (.string ⟨#[]⟩) := cell_of V4.out 10 (by simp)); (have fz4 : ∀ k, W4.frozen? ⟨x1, k, none⟩ = false := fun k => V4.out.frozen k); (have w4_9 := fz4 9); (have w4_10 := fz4 10))
    | fail)
  all_goals
    have w4_9 := fz4 9
    have w4_10 := fz4 10
    obtain ⟨W4s, hW4s⟩ : ∃ x, Hid (x = ((W4.setCell ⟨x1, 9, none⟩ (.string y3)).setCell ⟨x1, 10, none⟩ (.string y4))) := ⟨_, Lib.hid rfl⟩
    have B4s : Hid (Fr (gq g q) (gq g q) w W4s) := by show Fr _ _ _ _; rw [hW4s.out]; exact ((B4.out.set (p := ⟨x1, 9, none⟩) (.inr hxw1) (.string y3)).set (p := ⟨x1, 10, none⟩) (.inr hxw1) (.string y4))
    have K4s : Hid (Bk W4s x0 62 #[.int .i64 0, .int .i64 0, .int .i64 0, .int .i64 0, .int .i64 0, .int .i64 0, .slice none 0 0, .string ⟨#[]⟩, .slice none 0 0, .string ⟨#[]⟩, .string ⟨#[]⟩]) := by show Bk _ _ _ _; rw [hW4s.out]; exact ((K4.out.far (p := ⟨x1, 9, none⟩) hx01n (.string y3)).far (p := ⟨x1, 10, none⟩) hx01n (.string y4))
    have V4s : Hid (Bk W4s x1 62 #[.int .i64 5, .int .i64 y2, .int .i64 0, .int .i64 0, .int .i64 0, .int .i64 0, .slice none 0 0, .string ⟨#[]⟩, .slice none 0 0, .string y3, .string y4]) := by show Bk _ _ _ _; rw [hW4s.out]; simpa using ((V4.out.set 9 (.string y3)).set 10 (.string y4))
    have H4s : Hid (Rr W4s B g q s4 d) := by show Rr _ _ _ _ _ _; rw [hW4s.out]; exact (rr_set (rr_set H4.out hxB1 9 (.string y3)) hxB1 10 (.string y4))
    have p4s := rr_cell0 H4s.out
    have d4_0 : W4s.cell? ⟨x1, 0, none⟩ = some (.int .i64 5) := cell_of V4s.out 0 (by simp)
    have d4_1 : W4s.cell? ⟨x1, 1, none⟩ = some (.int .i64 y2) := cell_of V4s.out 1 (by simp)
    have d4_2 : W4s.cell? ⟨x1, 2, none⟩ = some (.int .i64 0) := cell_of V4s.out 2 (by simp)
    have d4_3 : W4s.cell? ⟨x1, 3, none⟩ = some (.int .i64 0) := cell_of V4s.out 3 (by simp)
    have d4_4 : W4s.cell? ⟨x1, 4, none⟩ = some (.int .i64 0) := cell_of V4s.out 4 (by simp)
    have d4_5 : W4s.cell? ⟨x1, 5, none⟩ = some (.int .i64 0) := cell_of V4s.out 5 (by simp)
    have d4_6 : W4s.cell? ⟨x1, 6, none⟩ = some (.slice none 0 0) := cell_of V4s.out 6 (by simp)
    have d4_7 : W4s.cell? ⟨x1, 7, none⟩ = some (.string ⟨#[]⟩) := cell_of V4s.out 7 (by simp)
    have d4_8 : W4s.cell? ⟨x1, 8, none⟩ = some (.slice none 0 0) := cell_of V4s.out 8 (by simp)
    have d4_9 : W4s.cell? ⟨x1, 9, none⟩ = some (.string y3) := cell_of V4s.out 9 (by simp)
    have d4_10 : W4s.cell? ⟨x1, 10, none⟩ = some (.string y4) := cell_of V4s.out 10 (by simp)
    have o0z : W4.cell? ⟨x0, 0, none⟩ = some (.int .i64 0) := cell_of K4.out 0 (by simp)
    have o0f : W4.frozen? ⟨x0, 0, none⟩ = false := K4.out.frozen 0
    have o1z : W4.cell? ⟨x0, 1, none⟩ = some (.int .i64 0) := cell_of K4.out 1 (by simp)
    have o1f : W4.frozen? ⟨x0, 1, none⟩ = false := K4.out.frozen 1
    have o2z : W4.cell? ⟨x0, 2, none⟩ = some (.int .i64 0) := cell_of K4.out 2 (by simp)
    have o2f : W4.frozen? ⟨x0, 2, none⟩ = false := K4.out.frozen 2
    have o3z : W4.cell? ⟨x0, 3, none⟩ = some (.int .i64 0) := cell_of K4.out 3 (by simp)
    have o3f : W4.frozen? ⟨x0, 3, none⟩ = false := K4.out.frozen 3
    have o4z : W4.cell? ⟨x0, 4, none⟩ = some (.int .i64 0) := cell_of K4.out 4 (by simp)
    have o4f : W4.frozen? ⟨x0, 4, none⟩ = false := K4.out.frozen 4
    have o5z : W4.cell? ⟨x0, 5, none⟩ = some (.int .i64 0) := cell_of K4.out 5 (by simp)
    have o5f : W4.frozen? ⟨x0, 5, none⟩ = false := K4.out.frozen 5
    have o6z : W4.cell? ⟨x0, 6, none⟩ = some (.slice none 0 0) := cell_of K4.out 6 (by simp)
    have o6f : W4.frozen? ⟨x0, 6, none⟩ = false := K4.out.frozen 6
    have o7z : W4.cell? ⟨x0, 7, none⟩ = some (.string ⟨#[]⟩) := cell_of K4.out 7 (by simp)
    have o7f : W4.frozen? ⟨x0, 7, none⟩ = false := K4.out.frozen 7
    have o8z : W4.cell? ⟨x0, 8, none⟩ = some (.slice none 0 0) := cell_of K4.out 8 (by simp)
    have o8f : W4.frozen? ⟨x0, 8, none⟩ = false := K4.out.frozen 8
    have o9z : W4.cell? ⟨x0, 9, none⟩ = some (.string ⟨#[]⟩) := cell_of K4.out 9 (by simp)
    have o9f : W4.frozen? ⟨x0, 9, none⟩ = false := K4.out.frozen 9
    have o10z : W4.cell? ⟨x0, 10, none⟩ = some (.string ⟨#[]⟩) := cell_of K4.out 10 (by simp)
    have o10f : W4.frozen? ⟨x0, 10, none⟩ = false := K4.out.frozen 10
    have hx0l : x0 < W4.heap.size := K4.out.lt
    obtain ⟨Wf, hWf⟩ : ∃ x, Hid (x = (((((((((((W4s.setCell ⟨x0, 0, none⟩ (.int .i64 5)).setCell ⟨x0, 1, none⟩ (.int .i64 y2)).setCell ⟨x0, 2, none⟩ (.int .i64 0)).setCell ⟨x0, 3, none⟩ (.int .i64 0)).setCell ⟨x0, 4, none⟩ (.int .i64 0)).setCell ⟨x0, 5, none⟩ (.int .i64 0)).setCell ⟨x0, 6, none⟩ (.slice none 0 0)).setCell ⟨x0, 7, none⟩ (.string ⟨#[]⟩)).setCell ⟨x0, 8, none⟩ (.slice none 0 0)).setCell ⟨x0, 9, none⟩ (.string y3)).setCell ⟨x0, 10, none⟩ (.string y4))) := ⟨_, Lib.hid rfl⟩
    have BF : Hid (Fr (gq g q) (gq g q) w Wf) := by show Fr _ _ _ _; rw [hWf.out]; exact (((((((((((B4s.out.set (p := ⟨x0, 0, none⟩) (.inr hxw) (.int .i64 5)).set (p := ⟨x0, 1, none⟩) (.inr hxw) (.int .i64 y2)).set (p := ⟨x0, 2, none⟩) (.inr hxw) (.int .i64 0)).set (p := ⟨x0, 3, none⟩) (.inr hxw) (.int .i64 0)).set (p := ⟨x0, 4, none⟩) (.inr hxw) (.int .i64 0)).set (p := ⟨x0, 5, none⟩) (.inr hxw) (.int .i64 0)).set (p := ⟨x0, 6, none⟩) (.inr hxw) (.slice none 0 0)).set (p := ⟨x0, 7, none⟩) (.inr hxw) (.string ⟨#[]⟩)).set (p := ⟨x0, 8, none⟩) (.inr hxw) (.slice none 0 0)).set (p := ⟨x0, 9, none⟩) (.inr hxw) (.string y3)).set (p := ⟨x0, 10, none⟩) (.inr hxw) (.string y4))
    have HF : Hid (Rr Wf B g q s4 d) := by show Rr _ _ _ _ _ _; rw [hWf.out]; exact (rr_set (rr_set (rr_set (rr_set (rr_set (rr_set (rr_set (rr_set (rr_set (rr_set (rr_set H4s.out hxB 0 (.int .i64 5)) hxB 1 (.int .i64 y2)) hxB 2 (.int .i64 0)) hxB 3 (.int .i64 0)) hxB 4 (.int .i64 0)) hxB 5 (.int .i64 0)) hxB 6 (.slice none 0 0)) hxB 7 (.string ⟨#[]⟩)) hxB 8 (.slice none 0 0)) hxB 9 (.string y3)) hxB 10 (.string y4))
    have KF : Hid (Bk Wf x0 62 #[.int .i64 5, .int .i64 y2, .int .i64 0, .int .i64 0, .int .i64 0, .int .i64 0, .slice none 0 0, .string ⟨#[]⟩, .slice none 0 0, .string y3, .string y4]) := by show Bk _ _ _ _; rw [hWf.out]; simpa using (((((((((((K4s.out.set 0 (.int .i64 5)).set 1 (.int .i64 y2)).set 2 (.int .i64 0)).set 3 (.int .i64 0)).set 4 (.int .i64 0)).set 5 (.int .i64 0)).set 6 (.slice none 0 0)).set 7 (.string ⟨#[]⟩)).set 8 (.slice none 0 0)).set 9 (.string y3)).set 10 (.string y4))
    have o0 : Wf.cell? ⟨x0, 0, none⟩ = some (.int .i64 5) := cell_of KF.out 0 (by simp)
    have o1 : Wf.cell? ⟨x0, 1, none⟩ = some (.int .i64 y2) := cell_of KF.out 1 (by simp)
    have o2 : Wf.cell? ⟨x0, 2, none⟩ = some (.int .i64 0) := cell_of KF.out 2 (by simp)
    have o3 : Wf.cell? ⟨x0, 3, none⟩ = some (.int .i64 0) := cell_of KF.out 3 (by simp)
    have o4 : Wf.cell? ⟨x0, 4, none⟩ = some (.int .i64 0) := cell_of KF.out 4 (by simp)
    have o5 : Wf.cell? ⟨x0, 5, none⟩ = some (.int .i64 0) := cell_of KF.out 5 (by simp)
    have o6 : Wf.cell? ⟨x0, 6, none⟩ = some (.slice none 0 0) := cell_of KF.out 6 (by simp)
    have o7 : Wf.cell? ⟨x0, 7, none⟩ = some (.string ⟨#[]⟩) := cell_of KF.out 7 (by simp)
    have o8 : Wf.cell? ⟨x0, 8, none⟩ = some (.slice none 0 0) := cell_of KF.out 8 (by simp)
    have o9 : Wf.cell? ⟨x0, 9, none⟩ = some (.string y3) := cell_of KF.out 9 (by simp)
    have o10 : Wf.cell? ⟨x0, 10, none⟩ = some (.string y4) := cell_of KF.out 10 (by simp)
    clear K4s V4s B4s H4s KF
    go_wp2
    try rw [← hW4s.out]
    try rw [← hWf.out]
    refine bodyPost_ret (v := .agg #[.int .i64 5, .int .i64 y2, .int .i64 0, .int .i64 0, .int .i64 0, .int .i64 0, .slice none 0 0, .string ⟨#[]⟩, .slice none 0 0, .string y3, .string y4]) (by simp [results, Tryz.results44, go_sem, o0, o1, o2, o3, o4, o5, o6, o7, o8, o9, o10]) rfl ?_
    show RstepT B g q w s d _ _
    unfold RstepT
    rw [hR.out]
    exact ⟨_, _, rfl, Ls.nil _ _, Ls.nil _ _, HF.out, BF.out⟩
set_option maxRecDepth 100000 in
set_option maxHeartbeats 4000000 in
theorem rstep_any (w : World) (B g q : Nat) (s : RS) (d : Int) (h : Rr w B g q s d) : Calls Tryz.prog 44 #[.pointer (some ⟨g, 0, none⟩)] w (RstepT B g q w s d) := by
  obtain ⟨⟨kk, s1⟩, e1⟩ : ∃ x, Hid (x = rK 6 s) := ⟨_, Lib.hid rfl⟩
  by_cases k1 : kk = 1
  · subst k1; exact rstep_1 w B g q s d h s1 e1
  by_cases k2 : kk = 2
  · subst k2; exact rstep_2 w B g q s d h s1 e1
  by_cases k6 : kk = 6
  · subst k6; exact rstep_6 w B g q s d h s1 e1
  by_cases k3 : kk = 3
  · subst k3; exact rstep_3 w B g q s d h s1 e1
  by_cases k4 : kk = 4
  · subst k4; exact rstep_4 w B g q s d h s1 e1
  by_cases k5 : kk = 5
  · subst k5; exact rstep_5 w B g q s d h s1 e1
  exact rstep_x w B g q s d h kk k1 k2 k6 k3 k4 k5 s1 e1
theorem info_st : (Tryz.prog.info? 62).map (fun i => (i.zero, i.size, i.bytes)) = some (some (.agg #[.int .i64 0, .int .i64 0, .int .i64 0, .int .i64 0, .int .i64 0, .int .i64 0, .slice none 0 0, .string .empty, .slice none 0 0, .string .empty, .string .empty]), 11, 144) := by kernel_rfl
set_option maxRecDepth 100000 in
set_option maxHeartbeats 2000000 in
theorem rl_st (w : World) (B g q : Nat) (s : RS) (d : Int) (h : Rr w B g q s d) :
    Calls Tryz.prog 49 #[.pointer (some ⟨g, 0, none⟩), .func (.func 44) #[] #[]] w (RlT B g q w (rL rSt s) d) := by
  have hN := rU_le 65536 3 s
  have HL : Hid (rL rSt s = rLoop rSt (rU 65536 3 s).1 [] (rU 65536 3 s).2) := rfl
  have HU := Lib.hid (upTo_any w B g q s d h 65536 3 (by decide))
  obtain ⟨⟨N, s1⟩, hr⟩ : ∃ x, x = rU 65536 3 s := ⟨_, rfl⟩
  rw [← hr] at hN HL HU
  clear hr
  simp only at hN
  obtain ⟨R, hR⟩ : ∃ x, Hid (x = rL rSt s) := ⟨_, Lib.hid rfl⟩
  rw [← hR.out]
  have HR : Hid (R = rLoop rSt N [] s1) := hR.out.trans HL.out
  have hlo := Lib.hid h.lo
  have hbs := h.base
  clear hR HL h
  go_enter Tryz.func49, Tryz.ntmps49
  go_wp2_with fail
  refine HU.out.mono ?_
  rintro e w1 ⟨rfl, h1, f1⟩
  have H1 := Lib.hid h1
  have F1 := Lib.hid f1
  clear h1 f1 HU
  go_wp2
  go_loopg [5, 8] N (fun n s5 s8 wk => ∃ (k : Nat) (v5 : Value) (acc : List St) (st : RS), k ≤ N ∧ n = N - k ∧ s5 = v5 ∧ s8 = .int .i64 k ∧ Hid (Rw wk w.heap.size 62 v5 k acc) ∧ Hid (Rr wk B g q st d) ∧ Hid (Fr (gq g q) (gq g q) w wk) ∧ Hid (R = rLoop rSt (N - k) acc st))
  case atStart => exact ⟨0, _, [], s1, Nat.zero_le _, by omega, rfl, rfl, Rw.none _ _ _, H1.out, F1.out, HR.out⟩
  case round =>
    obtain ⟨k, v5, acc, st, hk, hn, h5, rfl, hrw, hrr, hfr, hres⟩ := hrel
    have h5 := h5.symm
    subst h5
    have HG := Lib.hid hn
    clear hn HR H1 F1
    by_cases hlt : k < N
    · have hi1 : (k : Int) < (N : Int) := by omega
      obtain ⟨m, hm⟩ : ∃ m, Hid (N - k = m + 1) := ⟨N - k - 1, by show _ = _; omega⟩
      have hm2 : Hid (N - (k + 1) = m) := by show _ = _; have := hm.out; omega
      go_wp2_with fail
      refine (well_any wr B g q st d hrr.out).mono ?_
      rintro e w' ⟨rfl, rfl⟩
      by_cases hw : st.n = 0 ∧ st.f = 0
      · have hwt : decide (st.n = 0 ∧ st.f = 0) = true := by simpa using hw
        have hnext : Hid (R = rLoop rSt m (acc ++ [(rSt st).1]) (rSt st).2) := by show _ = _; rw [hres.out, hm.out, rLoop, if_pos hw]
        rw [hwt]
        clear hres hw hwt
        obtain ⟨⟨y, st2⟩, hy⟩ : ∃ x, x = rSt st := ⟨_, rfl⟩
        have HE := rstep_any wr B g q st d hrr.out
        unfold RstepT at HE; rw [← hy] at hnext HE
        have HE := Lib.hid HE
        clear hy
        go_wp2_with fail
        refine HE.out.mono ?_
        rintro e w2 ⟨vd, va, rfl, rvd, rva, hr1, hf1⟩
        try dsimp only at hr1 rvd rva
        obtain ⟨Avd, cvd, rfl⟩ := rvd.form
        obtain ⟨Ava, cva, rfl⟩ := rva.form
        have hce : Hid (Cs w2 (fun x => wr.heap.size ≤ x) [.int .i64 y.k, .int .i64 y.f, .int .i64 y.t, .int .i64 y.g, .int .i64 y.e, .int .i64 y.i, .slice Avd y.mid.length cvd, .string y.m.t, .slice Ava y.m.a.length cva, .string y.n, .string y.v] (Cl.c y)) := by show Cs _ _ _ _; exact Cs.cons (.v _ rfl) (Cs.cons (.v _ rfl) (Cs.cons (.v _ rfl) (Cs.cons (.v _ rfl) (Cs.cons (.v _ rfl) (Cs.cons (.v _ rfl) (Cs.cons rvd (Cs.cons (.v _ rfl) (Cs.cons rva (Cs.cons (.v _ rfl) (Cs.cons (.v _ rfl) (Cs.nil)))))))))))
        have hrw2 := hrw.out.fr hf1 fun x hx => Nat.lt_of_lt_of_le (hlo.out x hx) hbs
        have hle : w.heap.size ≤ wr.heap.size := hfr.out.size
        have hle2 : wr.heap.size ≤ w2.heap.size := hf1.size
        have HR2 := Lib.hid hr1
        have HF2 := Lib.hid (hfr.out.trans hf1)
        obtain ⟨cs, ho, hcc⟩ := hrw2.ex
        have hvlt : ∀ x, v5.ownBlock = some x → x < wr.heap.size := fun x hx => by
          obtain ⟨cs', ho', _⟩ := hrw.out.ex
          exact (World.ownsRow.lt ho' x hx).2
        have HV := Lib.hid hvlt
        have HRW := Lib.hid hrw2
        have HCC := Lib.hid hcc
        have HO := Lib.hid ho
        clear hr1 hf1 hrr hfr hrw hrw2 hcc hvlt ho HE rvd rva
        go_wp2_with (at_builtin; refine wpList_appR _ rfl _ _ 27 62 rfl _ 11 144 Tryz.underlying27 info_st rfl (by decide) w.heap.size rfl rfl (World.ownsRow.alloc HO.out _) (Rd.lit w2 62 11 1 #[.int .i64 y.k, .int .i64 y.f, .int .i64 y.t, .int .i64 y.g, .int .i64 y.e, .int .i64 y.i, .slice Avd y.mid.length cvd, .string y.m.t, .slice Ava y.m.a.length cva, .string y.n, .string y.v] (0, 0) rfl (by omega)) (by simp [Value.oneCell']) ?_ ?_ ?_ ?_)
        · unfold maxLen; omega
        · omega
        · simp; omega
        intro v' w4 ho4 hg4 hat
        have hal : Below w2.heap.size w2 (w2.alloc (.cells #[.int .i64 y.k, .int .i64 y.f, .int .i64 y.t, .int .i64 y.g, .int .i64 y.e, .int .i64 y.i, .slice Avd y.mid.length cvd, .string y.m.t, .slice Ava y.m.a.length cva, .string y.n, .string y.v] 62)) := (Below.refl _ _).alloc (Nat.le_refl _) _
        have H4 : Hid (Rw w4 w.heap.size 62 v' (k + 1) (acc ++ [y])) := by
          refine Rw.more (w := w2.alloc (.cells #[.int .i64 y.k, .int .i64 y.f, .int .i64 y.t, .int .i64 y.g, .int .i64 y.e, .int .i64 y.i, .slice Avd y.mid.length cvd, .string y.m.t, .slice Ava y.m.a.length cva, .string y.n, .string y.v] 62)) (N := wr.heap.size) (HRW.out.all hal) (hce.out.keep (.below hal)) HV.out hle (HCC.out.keep (.below hal)) (by show World.ownsRow w4 w.heap.size _ 11 _ _ _; simpa using ho4) hg4 (by simpa using hat)
        have R4 : Hid (Rr w4 B g q st2 d) := (HR2.out.all hal).grown hg4 fun x hx => Nat.le_trans hbs (World.ownsRow.lt HO.out x hx).1
        have F4 : Hid (Fr (gq g q) (gq g q) w w4) := (HF2.out.alloc _).grown hg4 fun x hx => .inr (World.ownsRow.lt HO.out x hx).1
        clear ho4 hg4 hat HRW HCC HR2 HF2 HO hal HV hce
        go_wp2
        go_roundg (N - (k + 1))
        case measure => have := HG.out; omega
        case rel => exact ⟨k + 1, v', acc ++ [y], st2, by omega, rfl, rfl, by go_num, H4, R4, F4, by show _ = _; rw [hm2.out]; exact hnext.out⟩
      · have hwt : decide (st.n = 0 ∧ st.f = 0) = false := by simpa using hw
        have hend : Hid (R = ([], st)) := by show _ = _; rw [hres.out, hm.out, rLoop, if_neg hw]
        rw [hwt]
        clear hres hw hwt
        go_wp2
        go_ret
        exact ⟨_, rfl, by rw [hend.out]; exact Ls.nil _ _, by rw [hend.out]; exact hrr.out, hfr.out⟩
    · have hi1 : ¬ (k : Int) < (N : Int) := by omega
      have hend : Hid (R = (acc, st)) := by show _ = _; rw [hres.out, show N - k = 0 by omega, rLoop]
      go_wp2
      go_ret
      exact ⟨_, rfl, by rw [hend.out]; exact hrw.out.ls, by rw [hend.out]; exact hrr.out, hfr.out⟩
end Go.Proofs.YtjajcecenflejaaGreat
