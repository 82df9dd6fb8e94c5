/- YtjajcecenflejaaGreatCz18 -/
import Derived.Test.YtjajcecenflejaaGreatCz14
import Derived.Deep.DeepCutAuto
namespace Go.Proofs.YtjajcecenflejaaGreat
open Go.RowKit
def RnodeT (f : Nat) (B g q : Nat) (w : World) (s : RS) (d : Int) (e : Ending) (w' : World) : Prop := ∃ va vm vk : Value, e = .returned (.agg #[.string (rNd f s).1.t, va, vm, .string (rNd f s).1.x, vk]) ∧ Ls w' (fun k => w.heap.size ≤ k) va (rNd f s).1.a ∧ Ls w' (fun k => w.heap.size ≤ k) vm (rNd f s).1.m ∧ Ls w' (fun k => w.heap.size ≤ k) vk (rNd f s).1.k ∧ Rr w' B g q (rNd f s).2 d ∧ Fr (gq g q) (gq g q) w w'
def NdR (f : Nat) (d : Int) : Prop := ∀ (w : World) (B g q : Nat) (s : RS), Rr w B g q s d → Calls Tryz.prog 31 #[.pointer (some ⟨g, 0, none⟩)] w (RnodeT f B g q w s d)
theorem info_nd : (Tryz.prog.info? 26).map (fun i => (i.zero, i.size, i.bytes)) = some (some (.agg #[.string .empty, .slice none 0 0, .slice none 0 0, .string .empty, .slice none 0 0]), 5, 104) := by kernel_rfl
set_option maxRecDepth 100000 in
set_option maxHeartbeats 2000000 in
theorem rl_nd (f : Nat) (w : World) (B g q : Nat) (s : RS) (d : Int) (HC : NdR f d) (h : Rr w B g q s d) :
    Calls Tryz.prog 64 #[.pointer (some ⟨g, 0, none⟩), .func (.func 31) #[] #[]] w (RlT B g q w (rL (rNd f) s) d) := by
  have hN := rU_le 65536 3 s
  have HL : Hid (rL (rNd f) s = rLoop (rNd f) (rU 65536 3 s).1 [] (rU 65536 3 s).2) := rfl
  have HU := Lib.hid (upTo_any w B g q s d h 65536 3 (by decide))
  obtain ⟨⟨N, s1⟩, hr⟩ : ∃ x, x = rU 65536 3 s := ⟨_, rfl⟩
  rw [← hr] at hN HL HU
  clear hr
  simp only at hN
  obtain ⟨R, hR⟩ : ∃ x, Hid (x = rL (rNd f) s) := ⟨_, Lib.hid rfl⟩
  rw [← hR.out]
  have HR : Hid (R = rLoop (rNd f) N [] s1) := hR.out.trans HL.out
  have hlo := Lib.hid h.lo
  have hbs := h.base
  clear hR HL h
  have HCH := Lib.hid HC
  clear HC
  go_enter Tryz.func64, Tryz.ntmps64
  go_wp2_with fail
  refine HU.out.mono ?_
  rintro e w1 ⟨rfl, h1, f1⟩
  have H1 := Lib.hid h1
  have F1 := Lib.hid f1
  clear h1 f1 HU
  go_wp2
  go_loopg [5, 8] N (fun n s5 s8 wk => ∃ (k : Nat) (v5 : Value) (acc : List Nd) (st : RS), k ≤ N ∧ n = N - k ∧ s5 = v5 ∧ s8 = .int .i64 k ∧ Hid (Rw wk w.heap.size 26 v5 k acc) ∧ Hid (Rr wk B g q st d) ∧ Hid (Fr (gq g q) (gq g q) w wk) ∧ Hid (R = rLoop (rNd f) (N - k) acc st))
  case atStart => exact ⟨0, _, [], s1, Nat.zero_le _, by omega, rfl, rfl, Rw.none _ _ _, H1.out, F1.out, HR.out⟩
  case round =>
    obtain ⟨k, v5, acc, st, hk, hn, h5, rfl, hrw, hrr, hfr, hres⟩ := hrel
    have h5 := h5.symm
    subst h5
    have HG := Lib.hid hn
    clear hn HR H1 F1
    by_cases hlt : k < N
    · have hi1 : (k : Int) < (N : Int) := by omega
      obtain ⟨m, hm⟩ : ∃ m, Hid (N - k = m + 1) := ⟨N - k - 1, by show _ = _; omega⟩
      have hm2 : Hid (N - (k + 1) = m) := by show _ = _; have := hm.out; omega
      go_wp2_with fail
      refine (well_any wr B g q st d hrr.out).mono ?_
      rintro e w' ⟨rfl, rfl⟩
      by_cases hw : st.n = 0 ∧ st.f = 0
      · have hwt : decide (st.n = 0 ∧ st.f = 0) = true := by simpa using hw
        have hnext : Hid (R = rLoop (rNd f) m (acc ++ [((rNd f) st).1]) ((rNd f) st).2) := by show _ = _; rw [hres.out, hm.out, rLoop, if_pos hw]
        rw [hwt]
        clear hres hw hwt
        obtain ⟨⟨y, st2⟩, hy⟩ : ∃ x, x = (rNd f) st := ⟨_, rfl⟩
        have HE := HCH.out wr B g q st hrr.out
        unfold RnodeT at HE; rw [← hy] at hnext HE
        have HE := Lib.hid HE
        clear hy
        go_wp2_with fail
        refine HE.out.mono ?_
        rintro e w2 ⟨va, vm, vk, rfl, rva, rvm, rvk, hr1, hf1⟩
        try dsimp only at hr1 rva rvm rvk
        obtain ⟨Ava, cva, rfl⟩ := rva.form
        obtain ⟨Avm, cvm, rfl⟩ := rvm.form
        obtain ⟨Avk, cvk, rfl⟩ := rvk.form
        have hce : Hid (Cs w2 (fun x => wr.heap.size ≤ x) [.string y.t, .slice Ava y.a.length cva, .slice Avm y.m.length cvm, .string y.x, .slice Avk y.k.length cvk] (Cl.c y)) := by show Cs _ _ _ _; rw [show Cl.c y = Nd.c y from rfl, Nd.c_eq]; exact Cs.cons (.v _ rfl) (Cs.cons rva (Cs.cons rvm (Cs.cons (.v _ rfl) (Cs.cons rvk (Cs.nil)))))
        have hrw2 := hrw.out.fr hf1 fun x hx => Nat.lt_of_lt_of_le (hlo.out x hx) hbs
        have hle : w.heap.size ≤ wr.heap.size := hfr.out.size
        have hle2 : wr.heap.size ≤ w2.heap.size := hf1.size
        have HR2 := Lib.hid hr1
        have HF2 := Lib.hid (hfr.out.trans hf1)
        obtain ⟨cs, ho, hcc⟩ := hrw2.ex
        have hvlt : ∀ x, v5.ownBlock = some x → x < wr.heap.size := fun x hx => by
          obtain ⟨cs', ho', _⟩ := hrw.out.ex
          exact (World.ownsRow.lt ho' x hx).2
        have HV := Lib.hid hvlt
        have HRW := Lib.hid hrw2
        have HCC := Lib.hid hcc
        have HO := Lib.hid ho
        clear hr1 hf1 hrr hfr hrw hrw2 hcc hvlt ho HE rva rvm rvk
        go_wp2_with (at_builtin; refine wpList_appR _ rfl _ _ 24 26 rfl _ 5 104 Tryz.underlying24 info_nd rfl (by decide) w.heap.size rfl rfl (World.ownsRow.alloc HO.out _) (Rd.lit w2 26 5 1 #[.string y.t, .slice Ava y.a.length cva, .slice Avm y.m.length cvm, .string y.x, .slice Avk y.k.length cvk] (0, 0) rfl (by omega)) (by simp [Value.oneCell']) ?_ ?_ ?_ ?_)
        · unfold maxLen; omega
        · omega
        · simp; omega
        intro v' w4 ho4 hg4 hat
        have hal : Below w2.heap.size w2 (w2.alloc (.cells #[.string y.t, .slice Ava y.a.length cva, .slice Avm y.m.length cvm, .string y.x, .slice Avk y.k.length cvk] 26)) := (Below.refl _ _).alloc (Nat.le_refl _) _
        have H4 : Hid (Rw w4 w.heap.size 26 v' (k + 1) (acc ++ [y])) := by
          refine Rw.more (w := w2.alloc (.cells #[.string y.t, .slice Ava y.a.length cva, .slice Avm y.m.length cvm, .string y.x, .slice Avk y.k.length cvk] 26)) (N := wr.heap.size) (HRW.out.all hal) (hce.out.keep (.below hal)) HV.out hle (HCC.out.keep (.below hal)) (by show World.ownsRow w4 w.heap.size _ 5 _ _ _; simpa using ho4) hg4 (by simpa using hat)
        have R4 : Hid (Rr w4 B g q st2 d) := (HR2.out.all hal).grown hg4 fun x hx => Nat.le_trans hbs (World.ownsRow.lt HO.out x hx).1
        have F4 : Hid (Fr (gq g q) (gq g q) w w4) := (HF2.out.alloc _).grown hg4 fun x hx => .inr (World.ownsRow.lt HO.out x hx).1
        clear ho4 hg4 hat HRW HCC HR2 HF2 HO hal HV hce
        go_wp2
        go_roundg (N - (k + 1))
        case measure => have := HG.out; omega
        case rel => exact ⟨k + 1, v', acc ++ [y], st2, by omega, rfl, rfl, by go_num, H4, R4, F4, by show _ = _; rw [hm2.out]; exact hnext.out⟩
      · have hwt : decide (st.n = 0 ∧ st.f = 0) = false := by simpa using hw
        have hend : Hid (R = ([], st)) := by show _ = _; rw [hres.out, hm.out, rLoop, if_neg hw]
        rw [hwt]
        clear hres hw hwt
        go_wp2
        go_ret
        exact ⟨_, rfl, by rw [hend.out]; exact Ls.nil _ _, by rw [hend.out]; exact hrr.out, hfr.out⟩
    · have hi1 : ¬ (k : Int) < (N : Int) := by omega
      have hend : Hid (R = (acc, st)) := by show _ = _; rw [hres.out, show N - k = 0 by omega, rLoop]
      go_wp2
      go_ret
      exact ⟨_, rfl, by rw [hend.out]; exact hrw.out.ls, by rw [hend.out]; exact hrr.out, hfr.out⟩
set_option maxRecDepth 100000 in
set_option maxHeartbeats 4000000 in
theorem rnode_0 : NdR 0 16 := by
  intro w B g q s h
  have c2w : w.cell? ⟨g, 2, none⟩ = some (.int .i64 16) := by have := h.1.cell 2; simpa using this
  have hgl : g < w.heap.size := h.own g (.inl rfl)
  have hlo := Lib.hid h.lo
  have hbs := h.base
  obtain ⟨x0, hx0⟩ : ∃ x0, Hid (x0 = w.heap.size) := ⟨_, Lib.hid rfl⟩
  obtain ⟨W0, hW0⟩ : ∃ x, Hid (x = w.alloc (.cells #[.string ⟨#[]⟩, .slice none 0 0, .slice none 0 0, .string ⟨#[]⟩, .slice none 0 0] 26)) := ⟨_, Lib.hid rfl⟩
  have H0 : Hid (Rr W0 B g q s 16) := by show Rr _ _ _ _ _ _; rw [hW0.out]; exact h.alloc _
  have B0 : Hid (Fr (gq g q) (gq g q) w W0) := by show Fr _ _ _ _; rw [hW0.out]; exact (Fr.refl h.own).alloc _
  have K0 : Hid (Bk W0 x0 26 #[.string ⟨#[]⟩, .slice none 0 0, .slice none 0 0, .string ⟨#[]⟩, .slice none 0 0]) := by show Bk _ _ _ _; rw [hW0.out, hx0.out]; exact Bk.new _ _ _
  have hn0 : ¬ gq g q x0 := fun hh => by have := hlo.out _ hh; have := hx0.out; omega
  have hxB : B ≤ x0 := by rw [hx0.out]; exact hbs
  have hxw : w.heap.size ≤ x0 := by rw [hx0.out]; exact Nat.le_refl _
  clear h
  have c2 : W0.cell? ⟨g, 2, none⟩ = some (.int .i64 16) := by have := H0.out.1.cell 2; simpa using this
  go_enter Tryz.func31, Tryz.ntmps31
  go_wp2_with fail
  rw [← hW0.out, ← hx0.out]
  have KK := fail_any W0 B g q s 16 H0.out 3
  refine KK.mono ?_
  clear KK
  rintro e W1 ⟨rfl, h1, f1⟩
  have B1 := Lib.hid (B0.out.trans f1)
  have K1 := Lib.hid (bk_fr K0.out f1 hn0)
  have H1 := Lib.hid h1
  clear h1 f1
  have o0z : W1.cell? ⟨x0, 0, none⟩ = some (.string ⟨#[]⟩) := cell_of K1.out 0 (by simp)
  have o0f : W1.frozen? ⟨x0, 0, none⟩ = false := K1.out.frozen 0
  have o1z : W1.cell? ⟨x0, 1, none⟩ = some (.slice none 0 0) := cell_of K1.out 1 (by simp)
  have o1f : W1.frozen? ⟨x0, 1, none⟩ = false := K1.out.frozen 1
  have o2z : W1.cell? ⟨x0, 2, none⟩ = some (.slice none 0 0) := cell_of K1.out 2 (by simp)
  have o2f : W1.frozen? ⟨x0, 2, none⟩ = false := K1.out.frozen 2
  have o3z : W1.cell? ⟨x0, 3, none⟩ = some (.string ⟨#[]⟩) := cell_of K1.out 3 (by simp)
  have o3f : W1.frozen? ⟨x0, 3, none⟩ = false := K1.out.frozen 3
  have o4z : W1.cell? ⟨x0, 4, none⟩ = some (.slice none 0 0) := cell_of K1.out 4 (by simp)
  have o4f : W1.frozen? ⟨x0, 4, none⟩ = false := K1.out.frozen 4
  obtain ⟨Wf, hWf⟩ : ∃ x, Hid (x = (((((W1.setCell ⟨x0, 0, none⟩ (.string ⟨#[]⟩)).setCell ⟨x0, 1, none⟩ (.slice none 0 0)).setCell ⟨x0, 2, none⟩ (.slice none 0 0)).setCell ⟨x0, 3, none⟩ (.string ⟨#[]⟩)).setCell ⟨x0, 4, none⟩ (.slice none 0 0))) := ⟨_, Lib.hid rfl⟩
  have BF : Hid (Fr (gq g q) (gq g q) w Wf) := by show Fr _ _ _ _; rw [hWf.out]; exact (((((B1.out.set (p := ⟨x0, 0, none⟩) (.inr hxw) (.string ⟨#[]⟩)).set (p := ⟨x0, 1, none⟩) (.inr hxw) (.slice none 0 0)).set (p := ⟨x0, 2, none⟩) (.inr hxw) (.slice none 0 0)).set (p := ⟨x0, 3, none⟩) (.inr hxw) (.string ⟨#[]⟩)).set (p := ⟨x0, 4, none⟩) (.inr hxw) (.slice none 0 0))
  have HF : Hid (Rr Wf B g q (RS.fail 3 s) 16) := by show Rr _ _ _ _ _ _; rw [hWf.out]; exact (rr_set (rr_set (rr_set (rr_set (rr_set H1.out hxB 0 (.string ⟨#[]⟩)) hxB 1 (.slice none 0 0)) hxB 2 (.slice none 0 0)) hxB 3 (.string ⟨#[]⟩)) hxB 4 (.slice none 0 0))
  have KF : Hid (Bk Wf x0 26 #[.string ⟨#[]⟩, .slice none 0 0, .slice none 0 0, .string ⟨#[]⟩, .slice none 0 0]) := by show Bk _ _ _ _; rw [hWf.out]; simpa using (((((K1.out.set 0 (.string ⟨#[]⟩)).set 1 (.slice none 0 0)).set 2 (.slice none 0 0)).set 3 (.string ⟨#[]⟩)).set 4 (.slice none 0 0))
  have o0 : Wf.cell? ⟨x0, 0, none⟩ = some (.string ⟨#[]⟩) := cell_of KF.out 0 (by simp)
  have o1 : Wf.cell? ⟨x0, 1, none⟩ = some (.slice none 0 0) := cell_of KF.out 1 (by simp)
  have o2 : Wf.cell? ⟨x0, 2, none⟩ = some (.slice none 0 0) := cell_of KF.out 2 (by simp)
  have o3 : Wf.cell? ⟨x0, 3, none⟩ = some (.string ⟨#[]⟩) := cell_of KF.out 3 (by simp)
  have o4 : Wf.cell? ⟨x0, 4, none⟩ = some (.slice none 0 0) := cell_of KF.out 4 (by simp)
  clear B1 K1 H1 KF
  go_wp2
  try rw [← hWf.out]
  refine bodyPost_ret (v := .agg #[.string ⟨#[]⟩, .slice none 0 0, .slice none 0 0, .string ⟨#[]⟩, .slice none 0 0]) (by simp [results, Tryz.results31, go_sem, o0, o1, o2, o3, o4]) rfl ?_
  exact ⟨_, _, _, rfl, Ls.nil _ _, Ls.nil _ _, Ls.nil _ _, HF.out, BF.out⟩
set_option maxRecDepth 100000 in
set_option maxHeartbeats 4000000 in
theorem rnode_s (f : Nat) (d : Int) (hd0 : 0 ≤ d) (hd : d < 16) (HC : NdR f (d + 1)) : NdR (f + 1) d := by
  intro w B g q s h
  have c2w : w.cell? ⟨g, 2, none⟩ = some (.int .i64 d) := by have := h.1.cell 2; simpa using this
  have z2w : w.frozen? ⟨g, 2, none⟩ = false := h.1.frozen 2
  have hgl : g < w.heap.size := h.own g (.inl rfl)
  have hdb : (d == 16) = false := by simpa using (by omega : ¬ d = 16)
  obtain ⟨⟨y1, s1⟩, e1⟩ : ∃ x, Hid (x = rT s) := ⟨_, Lib.hid rfl⟩
  obtain ⟨⟨y2, s2⟩, e2⟩ : ∃ x, Hid (x = rL rAt s1) := ⟨_, Lib.hid rfl⟩
  obtain ⟨⟨y3, s3⟩, e3⟩ : ∃ x, Hid (x = rL rMk s2) := ⟨_, Lib.hid rfl⟩
  obtain ⟨⟨y4, s4⟩, e4⟩ : ∃ x, Hid (x = rT s3) := ⟨_, Lib.hid rfl⟩
  obtain ⟨⟨y5, s5⟩, e5⟩ : ∃ x, Hid (x = rL (rNd f) s4) := ⟨_, Lib.hid rfl⟩
  have hR : Hid (rNd (f + 1) s = (.mk y1 y2 y3 y4 y5, s5)) := by show _ = _; simp only [rNd, rS5, ← e1.out, ← e2.out, ← e3.out, ← e4.out, ← e5.out]
  have hlo := Lib.hid h.lo
  have hbs := h.base
  obtain ⟨x0, hx0⟩ : ∃ x0, Hid (x0 = w.heap.size) := ⟨_, Lib.hid rfl⟩
  have hn0 : ¬ gq g q x0 := fun hh => by have := hlo.out _ hh; have := hx0.out; omega
  have hxB : B ≤ x0 := by rw [hx0.out]; exact hbs
  have hxw : w.heap.size ≤ x0 := by rw [hx0.out]; exact Nat.le_refl _
  have HCH := Lib.hid HC
  clear HC
  have hxg : x0 ≠ g := fun e => hn0 (.inl e)
  have hgx : g ≠ x0 := fun e => hxg e.symm
  obtain ⟨Wd, hWd⟩ : ∃ x, Hid (x = (w.setCell ⟨g, 2, none⟩ (.int .i64 (d + 1))).alloc (.cells #[.string ⟨#[]⟩, .slice none 0 0, .slice none 0 0, .string ⟨#[]⟩, .slice none 0 0] 26)) := ⟨_, Lib.hid rfl⟩
  obtain ⟨hr, hf⟩ := h.deep (d + 1)
  obtain ⟨WD, hWD⟩ : ∃ x, Hid (x = Wd.drew) := ⟨_, Lib.hid rfl⟩
  have HD : Hid (Rr WD B g q s (d + 1)) := by show Rr _ _ _ _ _ _; rw [hWD.out, hWd.out]; exact (hr.alloc _).drew
  have BD : Hid (Fr (gq g q) (gq g q) w WD) := by show Fr _ _ _ _; rw [hWD.out, hWd.out]; exact (hf.alloc _).drewN 1
  have KD : Hid (Bk WD x0 26 #[.string ⟨#[]⟩, .slice none 0 0, .slice none 0 0, .string ⟨#[]⟩, .slice none 0 0]) := by show Bk _ _ _ _; rw [hWD.out, hWd.out, hx0.out, show w.heap.size = (w.setCell ⟨g, 2, none⟩ (.int .i64 (d + 1))).heap.size by simp [World.setCell]]; exact (Bk.new _ _ _).drew
  have pD := rr_cell0 HD.out
  have HG0 : Hid (∀ k, x0 < k → ¬ gq g q k) := fun k hk hh => by have := hlo.out _ hh; omega
  have hzD := KD.out.lt
  clear hr hf h
  have HG0b := HG0
  go_enter Tryz.func31, Tryz.ntmps31
  go_upto_region 5 with (fail)
  rw [← hWd.out]
  try rw [← hx0.out]
  go_cut [3] (fun s3 wx => ∃ (x1 : Nat) (Ava Avm Avk : Option Addr) (cva cvm cvk : Nat), s3 = .pointer (some ⟨x1, 0, none⟩) ∧ x0 < x1 ∧ Hid (Bk wx x1 26 #[.string y1, .slice Ava y2.length cva, .slice Avm y3.length cvm, .string y4, .slice Avk y5.length cvk]) ∧ Hid (Bk wx x0 26 #[.string ⟨#[]⟩, .slice none 0 0, .slice none 0 0, .string ⟨#[]⟩, .slice none 0 0]) ∧ Hid (Rr wx B g q s5 (d + 1)) ∧ Hid (Fr (gq g q) (gq g q) w wx) ∧
    Hid (Ls wx (fun k => x0 < k) (.slice Ava y2.length cva) y2) ∧ Hid (Ls wx (fun k => x0 < k) (.slice Avm y3.length cvm) y3) ∧ Hid (Ls wx (fun k => x0 < k) (.slice Avk y5.length cvk) y5))
  case first =>
    refine wp_region_held_drew (S := fun W => W.cell? ⟨g, 0, none⟩ = some (.pointer (some ⟨q, 0, none⟩))) (by kernel_rfl) (by show Wd.drew.cell? _ = _; rw [← hWD.out]; exact pD) (fun hHeld => ?_)
    rw [← hWD.out] at hHeld ⊢
    refine wpAnyH_take (i := 0) (oi := ?o101) (v := ?v101) ?hi101 (by kernel_rfl) (by kernel_rfl) (by kernel_rfl) ?hq101 ?hy101 (by assumption) ?hr101
    case hi101 => (simp only [List.getElem?_toArray, List.getElem?_cons_zero]; exact rfl)
    case hq101 => exact fun _ _ _ h => h
    case hy101 => (refine Or.inl ⟨by rfl, ?_⟩; intro w hSw; (try dsimp only at hSw); go_simp; (try with_reducible rfl))
    try simp only [Act.put, List.setIfInBounds_toArray, List.set_cons_zero, List.set_cons_succ]
    refine wpAnyH_take (i := 1) (oi := ?o102) (v := ?v102) ?hi102 (by kernel_rfl) (by kernel_rfl) (by kernel_rfl) ?hq102 ?hy102 (by assumption) ?hr102
    case hi102 => (simp only [List.getElem?_toArray, List.getElem?_cons_succ, List.getElem?_cons_zero]; exact rfl)
    case hq102 => exact fun _ _ _ h => h
    case hy102 => (refine Or.inl ⟨by rfl, ?_⟩; intro w hSw; (try dsimp only at hSw); go_simp; (try with_reducible rfl))
    try simp only [Act.put, List.setIfInBounds_toArray, List.set_cons_zero, List.set_cons_succ]
    refine wpAnyH_take (i := 2) (oi := ?o103) (v := ?v103) ?hi103 (by kernel_rfl) (by kernel_rfl) (by kernel_rfl) ?hq103 ?hy103 (by assumption) ?hr103
    case hi103 => (simp only [List.getElem?_toArray, List.getElem?_cons_succ, List.getElem?_cons_zero]; exact rfl)
    case hq103 => exact fun _ _ _ h => h
    case hy103 => (refine Or.inl ⟨by rfl, ?_⟩; intro w hSw; (try dsimp only at hSw); go_simp; (try with_reducible rfl))
    try simp only [Act.put, List.setIfInBounds_toArray, List.set_cons_zero, List.set_cons_succ]
    refine wpAnyH_take (i := 3) (oi := ?o104) (v := ?v104) ?hi104 (by kernel_rfl) (by kernel_rfl) (by kernel_rfl) ?hq104 ?hy104 (by assumption) ?hr104
    case hi104 => (simp only [List.getElem?_toArray, List.getElem?_cons_succ, List.getElem?_cons_zero]; exact rfl)
    case hq104 => exact fun _ _ _ h => h
    case hy104 => (refine Or.inl ⟨by rfl, ?_⟩; intro w hSw; (try dsimp only at hSw); go_simp; (try with_reducible rfl))
    try simp only [Act.put, List.setIfInBounds_toArray, List.set_cons_zero, List.set_cons_succ]
    refine wpAnyH_take (i := 5) (oi := ?o105) (v := ?v105) ?hi105 (by kernel_rfl) (by kernel_rfl) (by kernel_rfl) ?hq105 ?hy105 (by assumption) ?hr105
    case hi105 => (simp only [List.getElem?_toArray, List.getElem?_cons_succ, List.getElem?_cons_zero]; exact rfl)
    case hq105 => exact fun _ _ _ h => h
    case hy105 => (refine Or.inl ⟨by rfl, ?_⟩; intro w hSw; (try dsimp only at hSw); go_simp; (try with_reducible rfl))
    try simp only [Act.put, List.setIfInBounds_toArray, List.set_cons_zero, List.set_cons_succ]
    refine wpAnyH_take (i := 7) (oi := ?o106) (v := ?v106) ?hi106 (by kernel_rfl) (by kernel_rfl) (by kernel_rfl) ?hq106 ?hy106 (by assumption) ?hr106
    case hi106 => (simp only [List.getElem?_toArray, List.getElem?_cons_succ, List.getElem?_cons_zero]; exact rfl)
    case hq106 => exact fun _ _ _ h => h
    case hy106 => (refine Or.inl ⟨by rfl, ?_⟩; intro w hSw; (try dsimp only at hSw); go_simp; (try with_reducible rfl))
    try simp only [Act.put, List.setIfInBounds_toArray, List.set_cons_zero, List.set_cons_succ]
    refine wpAnyH_take (i := 9) (oi := ?o107) (v := ?v107) ?hi107 (by kernel_rfl) (by kernel_rfl) (by kernel_rfl) ?hq107 ?hy107 (by assumption) ?hr107
    case hi107 => (simp only [List.getElem?_toArray, List.getElem?_cons_succ, List.getElem?_cons_zero]; exact rfl)
    case hq107 => exact fun _ _ _ h => h
    case hy107 => (refine Or.inl ⟨by rfl, ?_⟩; intro w hSw; (try dsimp only at hSw); go_simp; (try with_reducible rfl))
    try simp only [Act.put, List.setIfInBounds_toArray, List.set_cons_zero, List.set_cons_succ]
    refine wpAnyH_take (i := 10) (oi := ?o108) (v := ?v108) ?hi108 (by kernel_rfl) (by kernel_rfl) (by kernel_rfl) ?hq108 ?hy108 (by assumption) ?hr108
    case hi108 => (simp only [List.getElem?_toArray, List.getElem?_cons_succ, List.getElem?_cons_zero]; exact rfl)
    case hq108 => exact fun _ _ _ h => h
    case hy108 => (refine Or.inl ⟨by rfl, ?_⟩; intro w hSw; (try dsimp only at hSw); go_simp; (try with_reducible rfl))
    try simp only [Act.put, List.setIfInBounds_toArray, List.set_cons_zero, List.set_cons_succ]
    refine wpAnyH_take (i := 11) (oi := ?o109) (v := ?v109) ?hi109 (by kernel_rfl) (by kernel_rfl) (by kernel_rfl) ?hq109 ?hy109 (by assumption) ?hr109
    case hi109 => (simp only [List.getElem?_toArray, List.getElem?_cons_succ, List.getElem?_cons_zero]; exact rfl)
    case hq109 => exact fun _ _ _ h => h
    case hy109 => (refine Or.inl ⟨by rfl, ?_⟩; intro w hSw; (try dsimp only at hSw); go_simp; (try with_reducible rfl))
    try simp only [Act.put, List.setIfInBounds_toArray, List.set_cons_zero, List.set_cons_succ]
    refine wpAnyH_take (i := 12) (oi := ?o110) (v := ?v110) ?hi110 (by kernel_rfl) (by kernel_rfl) (by kernel_rfl) ?hq110 ?hy110 (by assumption) ?hr110
    case hi110 => (simp only [List.getElem?_toArray, List.getElem?_cons_succ, List.getElem?_cons_zero]; exact rfl)
    case hq110 => exact fun _ _ _ h => h
    case hy110 => (refine Or.inl ⟨by rfl, ?_⟩; intro w hSw; (try dsimp only at hSw); go_simp; (try with_reducible rfl))
    try simp only [Act.put, List.setIfInBounds_toArray, List.set_cons_zero, List.set_cons_succ]
    refine wpAnyH_take (i := 14) (oi := ?o111) (v := ?v111) ?hi111 (by kernel_rfl) (by kernel_rfl) (by kernel_rfl) ?hq111 ?hy111 (by assumption) ?hr111
    case hi111 => (simp only [List.getElem?_toArray, List.getElem?_cons_succ, List.getElem?_cons_zero]; exact rfl)
    case hq111 => exact fun _ _ _ h => h
    case hy111 => (refine Or.inl ⟨by rfl, ?_⟩; intro w hSw; (try dsimp only at hSw); go_simp; (try with_reducible rfl))
    try simp only [Act.put, List.setIfInBounds_toArray, List.set_cons_zero, List.set_cons_succ]
    refine wpAnyH_ready (rs := [4, 17]) (by kernel_rfl) (by simp) ?_
    refine AllReadyH.cons (o := ?o112) ?hi112 (fun K hK => ?hk112) ?hr112
    case hi112 => (simp only [List.getElem?_toArray, List.getElem?_cons_succ, List.getElem?_cons_zero]; exact rfl)
    case hr112 =>
      refine AllReadyH.cons (o := ?o113) ?hi113 (fun K hK => ?hk113) ?hr113
      case hi113 => (simp only [List.getElem?_toArray, List.getElem?_cons_succ, List.getElem?_cons_zero]; exact rfl)
      case hr113 => exact AllReadyH.nil
      go_simp
      obtain ⟨x1, hx1⟩ : ∃ x, Hid (x = WD.heap.size) := ⟨_, Lib.hid rfl⟩
      obtain ⟨WA, hWA⟩ : ∃ x, Hid (x = WD.alloc (.cells #[.string ⟨#[]⟩, .slice none 0 0, .slice none 0 0, .string ⟨#[]⟩, .slice none 0 0] 26)) := ⟨_, Lib.hid rfl⟩
      have HA : Hid (Rr WA B g q s (d + 1)) := by show Rr _ _ _ _ _ _; rw [hWA.out]; exact HD.out.alloc _
      have BA : Hid (Fr (gq g q) (gq g q) w WA) := by show Fr _ _ _ _; rw [hWA.out]; exact BD.out.alloc _
      have KA : Hid (Bk WA x0 26 #[.string ⟨#[]⟩, .slice none 0 0, .slice none 0 0, .string ⟨#[]⟩, .slice none 0 0]) := by show Bk _ _ _ _; rw [hWA.out]; exact KD.out.alloc _
      have VA : Hid (Bk WA x1 26 #[.string ⟨#[]⟩, .slice none 0 0, .slice none 0 0, .string ⟨#[]⟩, .slice none 0 0]) := by show Bk _ _ _ _; rw [hWA.out, hx1.out]; exact Bk.new _ _ _
      have hx01 : x0 < x1 := by rw [hx1.out]; exact KD.out.lt
      have hn1 : ¬ gq g q x1 := fun hh => HG0.out _ hx01 hh
      have hbA : Below WD.heap.size WD WA := by rw [hWA.out]; exact (Below.refl _ _).alloc (Nat.le_refl _) _
      have pA := rr_cell0 HA.out
      rw [← hWA.out]
      try rw [← hx1.out]
      refine hK _ _ pA (fun hHeld => ?_)
      clear hK K
      try simp only [Act.put, List.setIfInBounds_toArray, List.set_cons_zero, List.set_cons_succ]
      refine wpAnyH_ready (rs := [4]) (by kernel_rfl) (by simp) ?_
      refine AllReadyH.cons (o := ?o114) ?hi114 (fun K hK => ?hk114) ?hr114
      case hi114 => (simp only [List.getElem?_toArray, List.getElem?_cons_succ, List.getElem?_cons_zero]; exact rfl)
      case hr114 => exact AllReadyH.nil
      go_simp
      try go_at_call 59
      have KK := rpiece_any WA B g q s (d + 1) HA.out
      rw [← e1.out] at KK
      refine KK.mono ?_
      clear KK
      rintro e W1a ⟨rfl, h, f9⟩
      try dsimp only at h ⊢
      have B1a := Lib.hid (BA.out.trans f9)
      have K1a := Lib.hid (bk_fr KA.out f9 hn0)
      have H1a := Lib.hid h
      have p1a := rr_cell0 h
      have V1a := Lib.hid (bk_fr VA.out f9 hn1)
      clear h f9
      refine hK _ _ p1a (fun hHeld => ?_)
      clear hK K
      try simp only [Act.put, List.setIfInBounds_toArray, List.set_cons_zero, List.set_cons_succ]
      refine wpAnyH_ready (rs := [6]) (by kernel_rfl) (by simp) ?_
      refine AllReadyH.cons (o := ?o115) ?hi115 (fun K hK => ?hk115) ?hr115
      case hi115 => (simp only [List.getElem?_toArray, List.getElem?_cons_succ, List.getElem?_cons_zero]; exact rfl)
      case hr115 => exact AllReadyH.nil
      go_simp
      try go_at_call 60
      have KK := rl_at W1a B g q s1 (d + 1) H1a.out
      rw [← e2.out] at KK
      refine KK.mono ?_
      clear KK
      rintro e W2a ⟨vva, rfl, rva, h, f9⟩
      try dsimp only at h rva ⊢
      obtain ⟨Ava, cva, rfl⟩ := rva.form
      have Rva2a : Hid (Ls W2a (fun k => x0 < k ∧ k ≠ x1) (.slice Ava y2.length cva) y2) := rva.mono fun b hb _ => ⟨Nat.lt_of_lt_of_le K1a.out.lt hb, fun e => by have := Nat.lt_of_lt_of_le V1a.out.lt hb; omega⟩
      clear rva
      have B2a := Lib.hid (B1a.out.trans f9)
      have K2a := Lib.hid (bk_fr K1a.out f9 hn0)
      have H2a := Lib.hid h
      have p2a := rr_cell0 h
      have V2a := Lib.hid (bk_fr V1a.out f9 hn1)
      clear h f9
      refine hK _ _ p2a (fun hHeld => ?_)
      clear hK K
      try simp only [Act.put, List.setIfInBounds_toArray, List.set_cons_zero, List.set_cons_succ]
      refine wpAnyH_ready (rs := [8]) (by kernel_rfl) (by simp) ?_
      refine AllReadyH.cons (o := ?o116) ?hi116 (fun K hK => ?hk116) ?hr116
      case hi116 => (simp only [List.getElem?_toArray, List.getElem?_cons_succ, List.getElem?_cons_zero]; exact rfl)
      case hr116 => exact AllReadyH.nil
      go_simp
      try go_at_call 62
      have KK := rl_mk W2a B g q s2 (d + 1) H2a.out
      rw [← e3.out] at KK
      refine KK.mono ?_
      clear KK
      rintro e W3a ⟨vvm, rfl, rvm, h, f9⟩
      try dsimp only at h rvm ⊢
      have Rva3a := Lib.hid (Rva2a.out.keep (f9.kept fun b hb => HG0.out b hb.1))
      obtain ⟨Avm, cvm, rfl⟩ := rvm.form
      have Rvm3a : Hid (Ls W3a (fun k => x0 < k ∧ k ≠ x1) (.slice Avm y3.length cvm) y3) := rvm.mono fun b hb _ => ⟨Nat.lt_of_lt_of_le K2a.out.lt hb, fun e => by have := Nat.lt_of_lt_of_le V2a.out.lt hb; omega⟩
      clear rvm
      have B3a := Lib.hid (B2a.out.trans f9)
      have K3a := Lib.hid (bk_fr K2a.out f9 hn0)
      have H3a := Lib.hid h
      have p3a := rr_cell0 h
      have V3a := Lib.hid (bk_fr V2a.out f9 hn1)
      clear h f9
      refine hK _ _ p3a (fun hHeld => ?_)
      clear hK K
      try simp only [Act.put, List.setIfInBounds_toArray, List.set_cons_zero, List.set_cons_succ]
      refine wpAnyH_ready (rs := [13]) (by kernel_rfl) (by simp) ?_
      refine AllReadyH.cons (o := ?o117) ?hi117 (fun K hK => ?hk117) ?hr117
      case hi117 => (simp only [List.getElem?_toArray, List.getElem?_cons_succ, List.getElem?_cons_zero]; exact rfl)
      case hr117 => exact AllReadyH.nil
      go_simp
      try go_at_call 59
      have KK := rpiece_any W3a B g q s3 (d + 1) H3a.out
      rw [← e4.out] at KK
      refine KK.mono ?_
      clear KK
      rintro e W4a ⟨rfl, h, f9⟩
      try dsimp only at h ⊢
      have Rva4a := Lib.hid (Rva3a.out.keep (f9.kept fun b hb => HG0.out b hb.1))
      have Rvm4a := Lib.hid (Rvm3a.out.keep (f9.kept fun b hb => HG0.out b hb.1))
      have B4a := Lib.hid (B3a.out.trans f9)
      have K4a := Lib.hid (bk_fr K3a.out f9 hn0)
      have H4a := Lib.hid h
      have p4a := rr_cell0 h
      have V4a := Lib.hid (bk_fr V3a.out f9 hn1)
      clear h f9
      refine hK _ _ p4a (fun hHeld => ?_)
      clear hK K
      try simp only [Act.put, List.setIfInBounds_toArray, List.set_cons_zero, List.set_cons_succ]
      refine wpAnyH_ready (rs := [15]) (by kernel_rfl) (by simp) ?_
      refine AllReadyH.cons (o := ?o118) ?hi118 (fun K hK => ?hk118) ?hr118
      case hi118 => (simp only [List.getElem?_toArray, List.getElem?_cons_succ, List.getElem?_cons_zero]; exact rfl)
      case hr118 => exact AllReadyH.nil
      go_simp
      try go_at_call 64
      have KK := rl_nd f W4a B g q s4 (d + 1) HCH.out H4a.out
      rw [← e5.out] at KK
      refine KK.mono ?_
      clear KK
      rintro e W5a ⟨vvk, rfl, rvk, h, f9⟩
      try dsimp only at h rvk ⊢
      have Rva5a := Lib.hid (Rva4a.out.keep (f9.kept fun b hb => HG0.out b hb.1))
      have Rvm5a := Lib.hid (Rvm4a.out.keep (f9.kept fun b hb => HG0.out b hb.1))
      obtain ⟨Avk, cvk, rfl⟩ := rvk.form
      have Rvk5a : Hid (Ls W5a (fun k => x0 < k ∧ k ≠ x1) (.slice Avk y5.length cvk) y5) := rvk.mono fun b hb _ => ⟨Nat.lt_of_lt_of_le K4a.out.lt hb, fun e => by have := Nat.lt_of_lt_of_le V4a.out.lt hb; omega⟩
      clear rvk
      have B5a := Lib.hid (B4a.out.trans f9)
      have K5a := Lib.hid (bk_fr K4a.out f9 hn0)
      have H5a := Lib.hid h
      have p5a := rr_cell0 h
      have V5a := Lib.hid (bk_fr V4a.out f9 hn1)
      clear h f9
      refine hK _ _ p5a (fun hHeld => ?_)
      clear hK K
      try simp only [Act.put, List.setIfInBounds_toArray, List.set_cons_zero, List.set_cons_succ]
      refine wpAnyH_take (i := 16) (oi := ?o119) (v := ?v119) ?hi119 (by kernel_rfl) (by kernel_rfl) (by kernel_rfl) ?hq119 ?hy119 (by assumption) ?hr119
      case hi119 => (simp only [List.getElem?_toArray, List.getElem?_cons_succ, List.getElem?_cons_zero]; exact rfl)
      case hq119 => exact fun _ _ _ h => h
      case hy119 => (refine Or.inl ⟨by rfl, ?_⟩; intro w hSw; (try dsimp only at hSw); go_simp; (try with_reducible rfl))
      try simp only [Act.put, List.setIfInBounds_toArray, List.set_cons_zero, List.set_cons_succ]
      refine wpAnyH_ready (rs := [18]) (by kernel_rfl) (by simp) ?_
      refine AllReadyH.cons (o := ?o120) ?hi120 (fun K hK => ?hk120) ?hr120
      case hi120 => (simp only [List.getElem?_toArray, List.getElem?_cons_succ, List.getElem?_cons_zero]; exact rfl)
      case hr120 => exact AllReadyH.nil
      have hxw1 : w.heap.size ≤ x1 := by omega
      have hxB1 : B ≤ x1 := by omega
      have hx01n : x0 ≠ x1 := by omega
      have t0 : W5a.cell? ⟨x1, 0, none⟩ = some (.string ⟨#[]⟩) := cell_of V5a.out 0 (by simp)
      have u0 : W5a.frozen? ⟨x1, 0, none⟩ = false := V5a.out.frozen 0
      have t1 : W5a.cell? ⟨x1, 1, none⟩ = some (.slice none 0 0) := cell_of V5a.out 1 (by simp)
      have u1 : W5a.frozen? ⟨x1, 1, none⟩ = false := V5a.out.frozen 1
      have t2 : W5a.cell? ⟨x1, 2, none⟩ = some (.slice none 0 0) := cell_of V5a.out 2 (by simp)
      have u2 : W5a.frozen? ⟨x1, 2, none⟩ = false := V5a.out.frozen 2
      have t3 : W5a.cell? ⟨x1, 3, none⟩ = some (.string ⟨#[]⟩) := cell_of V5a.out 3 (by simp)
      have u3 : W5a.frozen? ⟨x1, 3, none⟩ = false := V5a.out.frozen 3
      have t4 : W5a.cell? ⟨x1, 4, none⟩ = some (.slice none 0 0) := cell_of V5a.out 4 (by simp)
      have u4 : W5a.frozen? ⟨x1, 4, none⟩ = false := V5a.out.frozen 4
      obtain ⟨Wz, hWz⟩ : ∃ x, Hid (x = (((((W5a.setCell ⟨x1, 0, none⟩ (.string y1)).setCell ⟨x1, 1, none⟩ (.slice Ava y2.length cva)).setCell ⟨x1, 2, none⟩ (.slice Avm y3.length cvm)).setCell ⟨x1, 3, none⟩ (.string y4)).setCell ⟨x1, 4, none⟩ (.slice Avk y5.length cvk))) := ⟨_, Lib.hid rfl⟩
      have Bz : Hid (Fr (gq g q) (gq g q) w Wz) := by show Fr _ _ _ _; rw [hWz.out]; exact (((((B5a.out.set (p := ⟨x1, 0, none⟩) (.inr hxw1) (.string y1)).set (p := ⟨x1, 1, none⟩) (.inr hxw1) (.slice Ava y2.length cva)).set (p := ⟨x1, 2, none⟩) (.inr hxw1) (.slice Avm y3.length cvm)).set (p := ⟨x1, 3, none⟩) (.inr hxw1) (.string y4)).set (p := ⟨x1, 4, none⟩) (.inr hxw1) (.slice Avk y5.length cvk))
      have Kz : Hid (Bk Wz x0 26 #[.string ⟨#[]⟩, .slice none 0 0, .slice none 0 0, .string ⟨#[]⟩, .slice none 0 0]) := by show Bk _ _ _ _; rw [hWz.out]; exact (((((K5a.out.far (p := ⟨x1, 0, none⟩) hx01n (.string y1)).far (p := ⟨x1, 1, none⟩) hx01n (.slice Ava y2.length cva)).far (p := ⟨x1, 2, none⟩) hx01n (.slice Avm y3.length cvm)).far (p := ⟨x1, 3, none⟩) hx01n (.string y4)).far (p := ⟨x1, 4, none⟩) hx01n (.slice Avk y5.length cvk))
      have Vz : Hid (Bk Wz x1 26 #[.string y1, .slice Ava y2.length cva, .slice Avm y3.length cvm, .string y4, .slice Avk y5.length cvk]) := by show Bk _ _ _ _; rw [hWz.out]; simpa using (((((V5a.out.set 0 (.string y1)).set 1 (.slice Ava y2.length cva)).set 2 (.slice Avm y3.length cvm)).set 3 (.string y4)).set 4 (.slice Avk y5.length cvk))
      have Hz : Hid (Rr Wz B g q s5 (d + 1)) := by show Rr _ _ _ _ _ _; rw [hWz.out]; exact (rr_set (rr_set (rr_set (rr_set (rr_set H5a.out hxB1 0 (.string y1)) hxB1 1 (.slice Ava y2.length cva)) hxB1 2 (.slice Avm y3.length cvm)) hxB1 3 (.string y4)) hxB1 4 (.slice Avk y5.length cvk))
      have Rvaz : Hid (Ls Wz (fun k => x0 < k) (.slice Ava y2.length cva) y2) := by show Ls _ _ _ _; rw [hWz.out]; exact ((ls_set (ls_set (ls_set (ls_set (ls_set Rva5a.out (fun k hk => hk.2) 0 (.string y1)) (fun k hk => hk.2) 1 (.slice Ava y2.length cva)) (fun k hk => hk.2) 2 (.slice Avm y3.length cvm)) (fun k hk => hk.2) 3 (.string y4)) (fun k hk => hk.2) 4 (.slice Avk y5.length cvk))).mono fun b hb _ => hb.1
      have Rvmz : Hid (Ls Wz (fun k => x0 < k) (.slice Avm y3.length cvm) y3) := by show Ls _ _ _ _; rw [hWz.out]; exact ((ls_set (ls_set (ls_set (ls_set (ls_set Rvm5a.out (fun k hk => hk.2) 0 (.string y1)) (fun k hk => hk.2) 1 (.slice Ava y2.length cva)) (fun k hk => hk.2) 2 (.slice Avm y3.length cvm)) (fun k hk => hk.2) 3 (.string y4)) (fun k hk => hk.2) 4 (.slice Avk y5.length cvk))).mono fun b hb _ => hb.1
      have Rvkz : Hid (Ls Wz (fun k => x0 < k) (.slice Avk y5.length cvk) y5) := by show Ls _ _ _ _; rw [hWz.out]; exact ((ls_set (ls_set (ls_set (ls_set (ls_set Rvk5a.out (fun k hk => hk.2) 0 (.string y1)) (fun k hk => hk.2) 1 (.slice Ava y2.length cva)) (fun k hk => hk.2) 2 (.slice Avm y3.length cvm)) (fun k hk => hk.2) 3 (.string y4)) (fun k hk => hk.2) 4 (.slice Avk y5.length cvk))).mono fun b hb _ => hb.1
      go_simp
      rw [← hWz.out]
      refine hK _ _ (rr_cell0 Hz.out) (fun hHeld => ?_)
      clear hK K
      try simp only [Act.put, List.setIfInBounds_toArray, List.set_cons_zero, List.set_cons_succ]
      refine wpAnyH_done (by kernel_rfl) ?_ _
      go_wp2_with fail
      go_meet
      exact ⟨x1, Ava, Avm, Avk, cva, cvm, cvk, rfl, hx01, Vz, Kz, Hz, Bz, Rvaz, Rvmz, Rvkz⟩
    go_simp
    try go_at_call 59
    have KK := rpiece_any WD B g q s (d + 1) HD.out
    rw [← e1.out] at KK
    refine KK.mono ?_
    clear KK
    rintro e W1 ⟨rfl, h, f9⟩
    try dsimp only at h ⊢
    have B1 := Lib.hid (BD.out.trans f9)
    have K1 := Lib.hid (bk_fr KD.out f9 hn0)
    have H1 := Lib.hid h
    have p1 := rr_cell0 h
    clear h f9
    refine hK _ _ p1 (fun hHeld => ?_)
    clear hK K
    try simp only [Act.put, List.setIfInBounds_toArray, List.set_cons_zero, List.set_cons_succ]
    refine wpAnyH_ready (rs := [6, 17]) (by kernel_rfl) (by simp) ?_
    refine AllReadyH.cons (o := ?o121) ?hi121 (fun K hK => ?hk121) ?hr121
    case hi121 => (simp only [List.getElem?_toArray, List.getElem?_cons_succ, List.getElem?_cons_zero]; exact rfl)
    case hr121 =>
      refine AllReadyH.cons (o := ?o122) ?hi122 (fun K hK => ?hk122) ?hr122
      case hi122 => (simp only [List.getElem?_toArray, List.getElem?_cons_succ, List.getElem?_cons_zero]; exact rfl)
      case hr122 => exact AllReadyH.nil
      go_simp
      obtain ⟨x1, hx1⟩ : ∃ x, Hid (x = W1.heap.size) := ⟨_, Lib.hid rfl⟩
      obtain ⟨WA, hWA⟩ : ∃ x, Hid (x = W1.alloc (.cells #[.string ⟨#[]⟩, .slice none 0 0, .slice none 0 0, .string ⟨#[]⟩, .slice none 0 0] 26)) := ⟨_, Lib.hid rfl⟩
      have HA : Hid (Rr WA B g q s1 (d + 1)) := by show Rr _ _ _ _ _ _; rw [hWA.out]; exact H1.out.alloc _
      have BA : Hid (Fr (gq g q) (gq g q) w WA) := by show Fr _ _ _ _; rw [hWA.out]; exact B1.out.alloc _
      have KA : Hid (Bk WA x0 26 #[.string ⟨#[]⟩, .slice none 0 0, .slice none 0 0, .string ⟨#[]⟩, .slice none 0 0]) := by show Bk _ _ _ _; rw [hWA.out]; exact K1.out.alloc _
      have VA : Hid (Bk WA x1 26 #[.string ⟨#[]⟩, .slice none 0 0, .slice none 0 0, .string ⟨#[]⟩, .slice none 0 0]) := by show Bk _ _ _ _; rw [hWA.out, hx1.out]; exact Bk.new _ _ _
      have hx01 : x0 < x1 := by rw [hx1.out]; exact K1.out.lt
      have hn1 : ¬ gq g q x1 := fun hh => HG0.out _ hx01 hh
      have hbA : Below W1.heap.size W1 WA := by rw [hWA.out]; exact (Below.refl _ _).alloc (Nat.le_refl _) _
      have pA := rr_cell0 HA.out
      rw [← hWA.out]
      try rw [← hx1.out]
      refine hK _ _ pA (fun hHeld => ?_)
      clear hK K
      try simp only [Act.put, List.setIfInBounds_toArray, List.set_cons_zero, List.set_cons_succ]
      refine wpAnyH_ready (rs := [6]) (by kernel_rfl) (by simp) ?_
      refine AllReadyH.cons (o := ?o123) ?hi123 (fun K hK => ?hk123) ?hr123
      case hi123 => (simp only [List.getElem?_toArray, List.getElem?_cons_succ, List.getElem?_cons_zero]; exact rfl)
      case hr123 => exact AllReadyH.nil
      go_simp
      try go_at_call 60
      have KK := rl_at WA B g q s1 (d + 1) HA.out
      rw [← e2.out] at KK
      refine KK.mono ?_
      clear KK
      rintro e W2a ⟨vva, rfl, rva, h, f9⟩
      try dsimp only at h rva ⊢
      obtain ⟨Ava, cva, rfl⟩ := rva.form
      have Rva2a : Hid (Ls W2a (fun k => x0 < k ∧ k ≠ x1) (.slice Ava y2.length cva) y2) := rva.mono fun b hb _ => ⟨Nat.lt_of_lt_of_le KA.out.lt hb, fun e => by have := Nat.lt_of_lt_of_le VA.out.lt hb; omega⟩
      clear rva
      have B2a := Lib.hid (BA.out.trans f9)
      have K2a := Lib.hid (bk_fr KA.out f9 hn0)
      have H2a := Lib.hid h
      have p2a := rr_cell0 h
      have V2a := Lib.hid (bk_fr VA.out f9 hn1)
      clear h f9
      refine hK _ _ p2a (fun hHeld => ?_)
      clear hK K
      try simp only [Act.put, List.setIfInBounds_toArray, List.set_cons_zero, List.set_cons_succ]
      refine wpAnyH_ready (rs := [8]) (by kernel_rfl) (by simp) ?_
      refine AllReadyH.cons (o := ?o124) ?hi124 (fun K hK => ?hk124) ?hr124
      case hi124 => (simp only [List.getElem?_toArray, List.getElem?_cons_succ, List.getElem?_cons_zero]; exact rfl)
      case hr124 => exact AllReadyH.nil
      go_simp
      try go_at_call 62
      have KK := rl_mk W2a B g q s2 (d + 1) H2a.out
      rw [← e3.out] at KK
      refine KK.mono ?_
      clear KK
      rintro e W3a ⟨vvm, rfl, rvm, h, f9⟩
      try dsimp only at h rvm ⊢
      have Rva3a := Lib.hid (Rva2a.out.keep (f9.kept fun b hb => HG0.out b hb.1))
      obtain ⟨Avm, cvm, rfl⟩ := rvm.form
      have Rvm3a : Hid (Ls W3a (fun k => x0 < k ∧ k ≠ x1) (.slice Avm y3.length cvm) y3) := rvm.mono fun b hb _ => ⟨Nat.lt_of_lt_of_le K2a.out.lt hb, fun e => by have := Nat.lt_of_lt_of_le V2a.out.lt hb; omega⟩
      clear rvm
      have B3a := Lib.hid (B2a.out.trans f9)
      have K3a := Lib.hid (bk_fr K2a.out f9 hn0)
      have H3a := Lib.hid h
      have p3a := rr_cell0 h
      have V3a := Lib.hid (bk_fr V2a.out f9 hn1)
      clear h f9
      refine hK _ _ p3a (fun hHeld => ?_)
      clear hK K
      try simp only [Act.put, List.setIfInBounds_toArray, List.set_cons_zero, List.set_cons_succ]
      refine wpAnyH_ready (rs := [13]) (by kernel_rfl) (by simp) ?_
      refine AllReadyH.cons (o := ?o125) ?hi125 (fun K hK => ?hk125) ?hr125
      case hi125 => (simp only [List.getElem?_toArray, List.getElem?_cons_succ, List.getElem?_cons_zero]; exact rfl)
      case hr125 => exact AllReadyH.nil
      go_simp
      try go_at_call 59
      have KK := rpiece_any W3a B g q s3 (d + 1) H3a.out
      rw [← e4.out] at KK
      refine KK.mono ?_
      clear KK
      rintro e W4a ⟨rfl, h, f9⟩
      try dsimp only at h ⊢
      have Rva4a := Lib.hid (Rva3a.out.keep (f9.kept fun b hb => HG0.out b hb.1))
      have Rvm4a := Lib.hid (Rvm3a.out.keep (f9.kept fun b hb => HG0.out b hb.1))
      have B4a := Lib.hid (B3a.out.trans f9)
      have K4a := Lib.hid (bk_fr K3a.out f9 hn0)
      have H4a := Lib.hid h
      have p4a := rr_cell0 h
      have V4a := Lib.hid (bk_fr V3a.out f9 hn1)
      clear h f9
      refine hK _ _ p4a (fun hHeld => ?_)
      clear hK K
      try simp only [Act.put, List.setIfInBounds_toArray, List.set_cons_zero, List.set_cons_succ]
      refine wpAnyH_ready (rs := [15]) (by kernel_rfl) (by simp) ?_
      refine AllReadyH.cons (o := ?o126) ?hi126 (fun K hK => ?hk126) ?hr126
      case hi126 => (simp only [List.getElem?_toArray, List.getElem?_cons_succ, List.getElem?_cons_zero]; exact rfl)
      case hr126 => exact AllReadyH.nil
      go_simp
      try go_at_call 64
      have KK := rl_nd f W4a B g q s4 (d + 1) HCH.out H4a.out
      rw [← e5.out] at KK
      refine KK.mono ?_
      clear KK
      rintro e W5a ⟨vvk, rfl, rvk, h, f9⟩
      try dsimp only at h rvk ⊢
      have Rva5a := Lib.hid (Rva4a.out.keep (f9.kept fun b hb => HG0.out b hb.1))
      have Rvm5a := Lib.hid (Rvm4a.out.keep (f9.kept fun b hb => HG0.out b hb.1))
      obtain ⟨Avk, cvk, rfl⟩ := rvk.form
      have Rvk5a : Hid (Ls W5a (fun k => x0 < k ∧ k ≠ x1) (.slice Avk y5.length cvk) y5) := rvk.mono fun b hb _ => ⟨Nat.lt_of_lt_of_le K4a.out.lt hb, fun e => by have := Nat.lt_of_lt_of_le V4a.out.lt hb; omega⟩
      clear rvk
      have B5a := Lib.hid (B4a.out.trans f9)
      have K5a := Lib.hid (bk_fr K4a.out f9 hn0)
      have H5a := Lib.hid h
      have p5a := rr_cell0 h
      have V5a := Lib.hid (bk_fr V4a.out f9 hn1)
      clear h f9
      refine hK _ _ p5a (fun hHeld => ?_)
      clear hK K
      try simp only [Act.put, List.setIfInBounds_toArray, List.set_cons_zero, List.set_cons_succ]
      refine wpAnyH_take (i := 16) (oi := ?o127) (v := ?v127) ?hi127 (by kernel_rfl) (by kernel_rfl) (by kernel_rfl) ?hq127 ?hy127 (by assumption) ?hr127
      case hi127 => (simp only [List.getElem?_toArray, List.getElem?_cons_succ, List.getElem?_cons_zero]; exact rfl)
      case hq127 => exact fun _ _ _ h => h
      case hy127 => (refine Or.inl ⟨by rfl, ?_⟩; intro w hSw; (try dsimp only at hSw); go_simp; (try with_reducible rfl))
      try simp only [Act.put, List.setIfInBounds_toArray, List.set_cons_zero, List.set_cons_succ]
      refine wpAnyH_ready (rs := [18]) (by kernel_rfl) (by simp) ?_
      refine AllReadyH.cons (o := ?o128) ?hi128 (fun K hK => ?hk128) ?hr128
      case hi128 => (simp only [List.getElem?_toArray, List.getElem?_cons_succ, List.getElem?_cons_zero]; exact rfl)
      case hr128 => exact AllReadyH.nil
      have hxw1 : w.heap.size ≤ x1 := by omega
      have hxB1 : B ≤ x1 := by omega
      have hx01n : x0 ≠ x1 := by omega
      have t0 : W5a.cell? ⟨x1, 0, none⟩ = some (.string ⟨#[]⟩) := cell_of V5a.out 0 (by simp)
      have u0 : W5a.frozen? ⟨x1, 0, none⟩ = false := V5a.out.frozen 0
      have t1 : W5a.cell? ⟨x1, 1, none⟩ = some (.slice none 0 0) := cell_of V5a.out 1 (by simp)
      have u1 : W5a.frozen? ⟨x1, 1, none⟩ = false := V5a.out.frozen 1
      have t2 : W5a.cell? ⟨x1, 2, none⟩ = some (.slice none 0 0) := cell_of V5a.out 2 (by simp)
      have u2 : W5a.frozen? ⟨x1, 2, none⟩ = false := V5a.out.frozen 2
      have t3 : W5a.cell? ⟨x1, 3, none⟩ = some (.string ⟨#[]⟩) := cell_of V5a.out 3 (by simp)
      have u3 : W5a.frozen? ⟨x1, 3, none⟩ = false := V5a.out.frozen 3
      have t4 : W5a.cell? ⟨x1, 4, none⟩ = some (.slice none 0 0) := cell_of V5a.out 4 (by simp)
      have u4 : W5a.frozen? ⟨x1, 4, none⟩ = false := V5a.out.frozen 4
      obtain ⟨Wz, hWz⟩ : ∃ x, Hid (x = (((((W5a.setCell ⟨x1, 0, none⟩ (.string y1)).setCell ⟨x1, 1, none⟩ (.slice Ava y2.length cva)).setCell ⟨x1, 2, none⟩ (.slice Avm y3.length cvm)).setCell ⟨x1, 3, none⟩ (.string y4)).setCell ⟨x1, 4, none⟩ (.slice Avk y5.length cvk))) := ⟨_, Lib.hid rfl⟩
      have Bz : Hid (Fr (gq g q) (gq g q) w Wz) := by show Fr _ _ _ _; rw [hWz.out]; exact (((((B5a.out.set (p := ⟨x1, 0, none⟩) (.inr hxw1) (.string y1)).set (p := ⟨x1, 1, none⟩) (.inr hxw1) (.slice Ava y2.length cva)).set (p := ⟨x1, 2, none⟩) (.inr hxw1) (.slice Avm y3.length cvm)).set (p := ⟨x1, 3, none⟩) (.inr hxw1) (.string y4)).set (p := ⟨x1, 4, none⟩) (.inr hxw1) (.slice Avk y5.length cvk))
      have Kz : Hid (Bk Wz x0 26 #[.string ⟨#[]⟩, .slice none 0 0, .slice none 0 0, .string ⟨#[]⟩, .slice none 0 0]) := by show Bk _ _ _ _; rw [hWz.out]; exact (((((K5a.out.far (p := ⟨x1, 0, none⟩) hx01n (.string y1)).far (p := ⟨x1, 1, none⟩) hx01n (.slice Ava y2.length cva)).far (p := ⟨x1, 2, none⟩) hx01n (.slice Avm y3.length cvm)).far (p := ⟨x1, 3, none⟩) hx01n (.string y4)).far (p := ⟨x1, 4, none⟩) hx01n (.slice Avk y5.length cvk))
      have Vz : Hid (Bk Wz x1 26 #[.string y1, .slice Ava y2.length cva, .slice Avm y3.length cvm, .string y4, .slice Avk y5.length cvk]) := by show Bk _ _ _ _; rw [hWz.out]; simpa using (((((V5a.out.set 0 (.string y1)).set 1 (.slice Ava y2.length cva)).set 2 (.slice Avm y3.length cvm)).set 3 (.string y4)).set 4 (.slice Avk y5.length cvk))
      have Hz : Hid (Rr Wz B g q s5 (d + 1)) := by show Rr _ _ _ _ _ _; rw [hWz.out]; exact (rr_set (rr_set (rr_set (rr_set (rr_set H5a.out hxB1 0 (.string y1)) hxB1 1 (.slice Ava y2.length cva)) hxB1 2 (.slice Avm y3.length cvm)) hxB1 3 (.string y4)) hxB1 4 (.slice Avk y5.length cvk))
      have Rvaz : Hid (Ls Wz (fun k => x0 < k) (.slice Ava y2.length cva) y2) := by show Ls _ _ _ _; rw [hWz.out]; exact ((ls_set (ls_set (ls_set (ls_set (ls_set Rva5a.out (fun k hk => hk.2) 0 (.string y1)) (fun k hk => hk.2) 1 (.slice Ava y2.length cva)) (fun k hk => hk.2) 2 (.slice Avm y3.length cvm)) (fun k hk => hk.2) 3 (.string y4)) (fun k hk => hk.2) 4 (.slice Avk y5.length cvk))).mono fun b hb _ => hb.1
      have Rvmz : Hid (Ls Wz (fun k => x0 < k) (.slice Avm y3.length cvm) y3) := by show Ls _ _ _ _; rw [hWz.out]; exact ((ls_set (ls_set (ls_set (ls_set (ls_set Rvm5a.out (fun k hk => hk.2) 0 (.string y1)) (fun k hk => hk.2) 1 (.slice Ava y2.length cva)) (fun k hk => hk.2) 2 (.slice Avm y3.length cvm)) (fun k hk => hk.2) 3 (.string y4)) (fun k hk => hk.2) 4 (.slice Avk y5.length cvk))).mono fun b hb _ => hb.1
      have Rvkz : Hid (Ls Wz (fun k => x0 < k) (.slice Avk y5.length cvk) y5) := by show Ls _ _ _ _; rw [hWz.out]; exact ((ls_set (ls_set (ls_set (ls_set (ls_set Rvk5a.out (fun k hk => hk.2) 0 (.string y1)) (fun k hk => hk.2) 1 (.slice Ava y2.length cva)) (fun k hk => hk.2) 2 (.slice Avm y3.length cvm)) (fun k hk => hk.2) 3 (.string y4)) (fun k hk => hk.2) 4 (.slice Avk y5.length cvk))).mono fun b hb _ => hb.1
      go_simp
      rw [← hWz.out]
      refine hK _ _ (rr_cell0 Hz.out) (fun hHeld => ?_)
      clear hK K
      try simp only [Act.put, List.setIfInBounds_toArray, List.set_cons_zero, List.set_cons_succ]
      refine wpAnyH_done (by kernel_rfl) ?_ _
      go_wp2_with fail
      go_meet
      exact ⟨x1, Ava, Avm, Avk, cva, cvm, cvk, rfl, hx01, Vz, Kz, Hz, Bz, Rvaz, Rvmz, Rvkz⟩
    go_simp
    try go_at_call 60
    have KK := rl_at W1 B g q s1 (d + 1) H1.out
    rw [← e2.out] at KK
    refine KK.mono ?_
    clear KK
    rintro e W2 ⟨vva, rfl, rva, h, f9⟩
    try dsimp only at h rva ⊢
    obtain ⟨Ava, cva, rfl⟩ := rva.form
    have Rva2 : Hid (Ls W2 (fun k => x0 < k) (.slice Ava y2.length cva) y2) := rva.mono fun b hb _ => Nat.lt_of_lt_of_le K1.out.lt hb
    clear rva
    have B2 := Lib.hid (B1.out.trans f9)
    have K2 := Lib.hid (bk_fr K1.out f9 hn0)
    have H2 := Lib.hid h
    have p2 := rr_cell0 h
    clear h f9
    refine hK _ _ p2 (fun hHeld => ?_)
    clear hK K
    try simp only [Act.put, List.setIfInBounds_toArray, List.set_cons_zero, List.set_cons_succ]
    refine wpAnyH_ready (rs := [8, 17]) (by kernel_rfl) (by simp) ?_
    refine AllReadyH.cons (o := ?o129) ?hi129 (fun K hK => ?hk129) ?hr129
    case hi129 => (simp only [List.getElem?_toArray, List.getElem?_cons_succ, List.getElem?_cons_zero]; exact rfl)
    case hr129 =>
      refine AllReadyH.cons (o := ?o130) ?hi130 (fun K hK => ?hk130) ?hr130
      case hi130 => (simp only [List.getElem?_toArray, List.getElem?_cons_succ, List.getElem?_cons_zero]; exact rfl)
      case hr130 => exact AllReadyH.nil
      go_simp
      obtain ⟨x1, hx1⟩ : ∃ x, Hid (x = W2.heap.size) := ⟨_, Lib.hid rfl⟩
      obtain ⟨WA, hWA⟩ : ∃ x, Hid (x = W2.alloc (.cells #[.string ⟨#[]⟩, .slice none 0 0, .slice none 0 0, .string ⟨#[]⟩, .slice none 0 0] 26)) := ⟨_, Lib.hid rfl⟩
      have HA : Hid (Rr WA B g q s2 (d + 1)) := by show Rr _ _ _ _ _ _; rw [hWA.out]; exact H2.out.alloc _
      have BA : Hid (Fr (gq g q) (gq g q) w WA) := by show Fr _ _ _ _; rw [hWA.out]; exact B2.out.alloc _
      have KA : Hid (Bk WA x0 26 #[.string ⟨#[]⟩, .slice none 0 0, .slice none 0 0, .string ⟨#[]⟩, .slice none 0 0]) := by show Bk _ _ _ _; rw [hWA.out]; exact K2.out.alloc _
      have VA : Hid (Bk WA x1 26 #[.string ⟨#[]⟩, .slice none 0 0, .slice none 0 0, .string ⟨#[]⟩, .slice none 0 0]) := by show Bk _ _ _ _; rw [hWA.out, hx1.out]; exact Bk.new _ _ _
      have hx01 : x0 < x1 := by rw [hx1.out]; exact K2.out.lt
      have hn1 : ¬ gq g q x1 := fun hh => HG0.out _ hx01 hh
      have hbA : Below W2.heap.size W2 WA := by rw [hWA.out]; exact (Below.refl _ _).alloc (Nat.le_refl _) _
      have RvaA : Hid (Ls WA (fun k => x0 < k ∧ k ≠ x1) (.slice Ava y2.length cva) y2) := Rva2.out.keep fun b h1 h2 => ⟨⟨h1, fun e => by have := hx1.out; omega⟩, Nat.lt_of_lt_of_le h2 hbA.size, hbA.block b h2⟩
      have pA := rr_cell0 HA.out
      rw [← hWA.out]
      try rw [← hx1.out]
      refine hK _ _ pA (fun hHeld => ?_)
      clear hK K
      try simp only [Act.put, List.setIfInBounds_toArray, List.set_cons_zero, List.set_cons_succ]
      refine wpAnyH_ready (rs := [8]) (by kernel_rfl) (by simp) ?_
      refine AllReadyH.cons (o := ?o131) ?hi131 (fun K hK => ?hk131) ?hr131
      case hi131 => (simp only [List.getElem?_toArray, List.getElem?_cons_succ, List.getElem?_cons_zero]; exact rfl)
      case hr131 => exact AllReadyH.nil
      go_simp
      try go_at_call 62
      have KK := rl_mk WA B g q s2 (d + 1) HA.out
      rw [← e3.out] at KK
      refine KK.mono ?_
      clear KK
      rintro e W3a ⟨vvm, rfl, rvm, h, f9⟩
      try dsimp only at h rvm ⊢
      have Rva3a := Lib.hid (RvaA.out.keep (f9.kept fun b hb => HG0.out b hb.1))
      obtain ⟨Avm, cvm, rfl⟩ := rvm.form
      have Rvm3a : Hid (Ls W3a (fun k => x0 < k ∧ k ≠ x1) (.slice Avm y3.length cvm) y3) := rvm.mono fun b hb _ => ⟨Nat.lt_of_lt_of_le KA.out.lt hb, fun e => by have := Nat.lt_of_lt_of_le VA.out.lt hb; omega⟩
      clear rvm
      have B3a := Lib.hid (BA.out.trans f9)
      have K3a := Lib.hid (bk_fr KA.out f9 hn0)
      have H3a := Lib.hid h
      have p3a := rr_cell0 h
      have V3a := Lib.hid (bk_fr VA.out f9 hn1)
      clear h f9
      refine hK _ _ p3a (fun hHeld => ?_)
      clear hK K
      try simp only [Act.put, List.setIfInBounds_toArray, List.set_cons_zero, List.set_cons_succ]
      refine wpAnyH_ready (rs := [13]) (by kernel_rfl) (by simp) ?_
      refine AllReadyH.cons (o := ?o132) ?hi132 (fun K hK => ?hk132) ?hr132
      case hi132 => (simp only [List.getElem?_toArray, List.getElem?_cons_succ, List.getElem?_cons_zero]; exact rfl)
      case hr132 => exact AllReadyH.nil
      go_simp
      try go_at_call 59
      have KK := rpiece_any W3a B g q s3 (d + 1) H3a.out
      rw [← e4.out] at KK
      refine KK.mono ?_
      clear KK
      rintro e W4a ⟨rfl, h, f9⟩
      try dsimp only at h ⊢
      have Rva4a := Lib.hid (Rva3a.out.keep (f9.kept fun b hb => HG0.out b hb.1))
      have Rvm4a := Lib.hid (Rvm3a.out.keep (f9.kept fun b hb => HG0.out b hb.1))
      have B4a := Lib.hid (B3a.out.trans f9)
      have K4a := Lib.hid (bk_fr K3a.out f9 hn0)
      have H4a := Lib.hid h
      have p4a := rr_cell0 h
      have V4a := Lib.hid (bk_fr V3a.out f9 hn1)
      clear h f9
      refine hK _ _ p4a (fun hHeld => ?_)
      clear hK K
      try simp only [Act.put, List.setIfInBounds_toArray, List.set_cons_zero, List.set_cons_succ]
      refine wpAnyH_ready (rs := [15]) (by kernel_rfl) (by simp) ?_
      refine AllReadyH.cons (o := ?o133) ?hi133 (fun K hK => ?hk133) ?hr133
      case hi133 => (simp only [List.getElem?_toArray, List.getElem?_cons_succ, List.getElem?_cons_zero]; exact rfl)
      case hr133 => exact AllReadyH.nil
      go_simp
      try go_at_call 64
      have KK := rl_nd f W4a B g q s4 (d + 1) HCH.out H4a.out
      rw [← e5.out] at KK
      refine KK.mono ?_
      clear KK
      rintro e W5a ⟨vvk, rfl, rvk, h, f9⟩
      try dsimp only at h rvk ⊢
      have Rva5a := Lib.hid (Rva4a.out.keep (f9.kept fun b hb => HG0.out b hb.1))
      have Rvm5a := Lib.hid (Rvm4a.out.keep (f9.kept fun b hb => HG0.out b hb.1))
      obtain ⟨Avk, cvk, rfl⟩ := rvk.form
      have Rvk5a : Hid (Ls W5a (fun k => x0 < k ∧ k ≠ x1) (.slice Avk y5.length cvk) y5) := rvk.mono fun b hb _ => ⟨Nat.lt_of_lt_of_le K4a.out.lt hb, fun e => by have := Nat.lt_of_lt_of_le V4a.out.lt hb; omega⟩
      clear rvk
      have B5a := Lib.hid (B4a.out.trans f9)
      have K5a := Lib.hid (bk_fr K4a.out f9 hn0)
      have H5a := Lib.hid h
      have p5a := rr_cell0 h
      have V5a := Lib.hid (bk_fr V4a.out f9 hn1)
      clear h f9
      refine hK _ _ p5a (fun hHeld => ?_)
      clear hK K
      try simp only [Act.put, List.setIfInBounds_toArray, List.set_cons_zero, List.set_cons_succ]
      refine wpAnyH_take (i := 16) (oi := ?o134) (v := ?v134) ?hi134 (by kernel_rfl) (by kernel_rfl) (by kernel_rfl) ?hq134 ?hy134 (by assumption) ?hr134
      case hi134 => (simp only [List.getElem?_toArray, List.getElem?_cons_succ, List.getElem?_cons_zero]; exact rfl)
      case hq134 => exact fun _ _ _ h => h
      case hy134 => (refine Or.inl ⟨by rfl, ?_⟩; intro w hSw; (try dsimp only at hSw); go_simp; (try with_reducible rfl))
      try simp only [Act.put, List.setIfInBounds_toArray, List.set_cons_zero, List.set_cons_succ]
      refine wpAnyH_ready (rs := [18]) (by kernel_rfl) (by simp) ?_
      refine AllReadyH.cons (o := ?o135) ?hi135 (fun K hK => ?hk135) ?hr135
      case hi135 => (simp only [List.getElem?_toArray, List.getElem?_cons_succ, List.getElem?_cons_zero]; exact rfl)
      case hr135 => exact AllReadyH.nil
      have hxw1 : w.heap.size ≤ x1 := by omega
      have hxB1 : B ≤ x1 := by omega
      have hx01n : x0 ≠ x1 := by omega
      have t0 : W5a.cell? ⟨x1, 0, none⟩ = some (.string ⟨#[]⟩) := cell_of V5a.out 0 (by simp)
      have u0 : W5a.frozen? ⟨x1, 0, none⟩ = false := V5a.out.frozen 0
      have t1 : W5a.cell? ⟨x1, 1, none⟩ = some (.slice none 0 0) := cell_of V5a.out 1 (by simp)
      have u1 : W5a.frozen? ⟨x1, 1, none⟩ = false := V5a.out.frozen 1
      have t2 : W5a.cell? ⟨x1, 2, none⟩ = some (.slice none 0 0) := cell_of V5a.out 2 (by simp)
      have u2 : W5a.frozen? ⟨x1, 2, none⟩ = false := V5a.out.frozen 2
      have t3 : W5a.cell? ⟨x1, 3, none⟩ = some (.string ⟨#[]⟩) := cell_of V5a.out 3 (by simp)
      have u3 : W5a.frozen? ⟨x1, 3, none⟩ = false := V5a.out.frozen 3
      have t4 : W5a.cell? ⟨x1, 4, none⟩ = some (.slice none 0 0) := cell_of V5a.out 4 (by simp)
      have u4 : W5a.frozen? ⟨x1, 4, none⟩ = false := V5a.out.frozen 4
      obtain ⟨Wz, hWz⟩ : ∃ x, Hid (x = (((((W5a.setCell ⟨x1, 0, none⟩ (.string y1)).setCell ⟨x1, 1, none⟩ (.slice Ava y2.length cva)).setCell ⟨x1, 2, none⟩ (.slice Avm y3.length cvm)).setCell ⟨x1, 3, none⟩ (.string y4)).setCell ⟨x1, 4, none⟩ (.slice Avk y5.length cvk))) := ⟨_, Lib.hid rfl⟩
      have Bz : Hid (Fr (gq g q) (gq g q) w Wz) := by show Fr _ _ _ _; rw [hWz.out]; exact (((((B5a.out.set (p := ⟨x1, 0, none⟩) (.inr hxw1) (.string y1)).set (p := ⟨x1, 1, none⟩) (.inr hxw1) (.slice Ava y2.length cva)).set (p := ⟨x1, 2, none⟩) (.inr hxw1) (.slice Avm y3.length cvm)).set (p := ⟨x1, 3, none⟩) (.inr hxw1) (.string y4)).set (p := ⟨x1, 4, none⟩) (.inr hxw1) (.slice Avk y5.length cvk))
      have Kz : Hid (Bk Wz x0 26 #[.string ⟨#[]⟩, .slice none 0 0, .slice none 0 0, .string ⟨#[]⟩, .slice none 0 0]) := by show Bk _ _ _ _; rw [hWz.out]; exact (((((K5a.out.far (p := ⟨x1, 0, none⟩) hx01n (.string y1)).far (p := ⟨x1, 1, none⟩) hx01n (.slice Ava y2.length cva)).far (p := ⟨x1, 2, none⟩) hx01n (.slice Avm y3.length cvm)).far (p := ⟨x1, 3, none⟩) hx01n (.string y4)).far (p := ⟨x1, 4, none⟩) hx01n (.slice Avk y5.length cvk))
      have Vz : Hid (Bk Wz x1 26 #[.string y1, .slice Ava y2.length cva, .slice Avm y3.length cvm, .string y4, .slice Avk y5.length cvk]) := by show Bk _ _ _ _; rw [hWz.out]; simpa using (((((V5a.out.set 0 (.string y1)).set 1 (.slice Ava y2.length cva)).set 2 (.slice Avm y3.length cvm)).set 3 (.string y4)).set 4 (.slice Avk y5.length cvk))
      have Hz : Hid (Rr Wz B g q s5 (d + 1)) := by show Rr _ _ _ _ _ _; rw [hWz.out]; exact (rr_set (rr_set (rr_set (rr_set (rr_set H5a.out hxB1 0 (.string y1)) hxB1 1 (.slice Ava y2.length cva)) hxB1 2 (.slice Avm y3.length cvm)) hxB1 3 (.string y4)) hxB1 4 (.slice Avk y5.length cvk))
      have Rvaz : Hid (Ls Wz (fun k => x0 < k) (.slice Ava y2.length cva) y2) := by show Ls _ _ _ _; rw [hWz.out]; exact ((ls_set (ls_set (ls_set (ls_set (ls_set Rva5a.out (fun k hk => hk.2) 0 (.string y1)) (fun k hk => hk.2) 1 (.slice Ava y2.length cva)) (fun k hk => hk.2) 2 (.slice Avm y3.length cvm)) (fun k hk => hk.2) 3 (.string y4)) (fun k hk => hk.2) 4 (.slice Avk y5.length cvk))).mono fun b hb _ => hb.1
      have Rvmz : Hid (Ls Wz (fun k => x0 < k) (.slice Avm y3.length cvm) y3) := by show Ls _ _ _ _; rw [hWz.out]; exact ((ls_set (ls_set (ls_set (ls_set (ls_set Rvm5a.out (fun k hk => hk.2) 0 (.string y1)) (fun k hk => hk.2) 1 (.slice Ava y2.length cva)) (fun k hk => hk.2) 2 (.slice Avm y3.length cvm)) (fun k hk => hk.2) 3 (.string y4)) (fun k hk => hk.2) 4 (.slice Avk y5.length cvk))).mono fun b hb _ => hb.1
      have Rvkz : Hid (Ls Wz (fun k => x0 < k) (.slice Avk y5.length cvk) y5) := by show Ls _ _ _ _; rw [hWz.out]; exact ((ls_set (ls_set (ls_set (ls_set (ls_set Rvk5a.out (fun k hk => hk.2) 0 (.string y1)) (fun k hk => hk.2) 1 (.slice Ava y2.length cva)) (fun k hk => hk.2) 2 (.slice Avm y3.length cvm)) (fun k hk => hk.2) 3 (.string y4)) (fun k hk => hk.2) 4 (.slice Avk y5.length cvk))).mono fun b hb _ => hb.1
      go_simp
      rw [← hWz.out]
      refine hK _ _ (rr_cell0 Hz.out) (fun hHeld => ?_)
      clear hK K
      try simp only [Act.put, List.setIfInBounds_toArray, List.set_cons_zero, List.set_cons_succ]
      refine wpAnyH_done (by kernel_rfl) ?_ _
      go_wp2_with fail
      go_meet
      exact ⟨x1, Ava, Avm, Avk, cva, cvm, cvk, rfl, hx01, Vz, Kz, Hz, Bz, Rvaz, Rvmz, Rvkz⟩
    go_simp
    try go_at_call 62
    have KK := rl_mk W2 B g q s2 (d + 1) H2.out
    rw [← e3.out] at KK
    refine KK.mono ?_
    clear KK
    rintro e W3 ⟨vvm, rfl, rvm, h, f9⟩
    try dsimp only at h rvm ⊢
    have Rva3 := Lib.hid (Rva2.out.keep (f9.kept HG0.out))
    obtain ⟨Avm, cvm, rfl⟩ := rvm.form
    have Rvm3 : Hid (Ls W3 (fun k => x0 < k) (.slice Avm y3.length cvm) y3) := rvm.mono fun b hb _ => Nat.lt_of_lt_of_le K2.out.lt hb
    clear rvm
    have B3 := Lib.hid (B2.out.trans f9)
    have K3 := Lib.hid (bk_fr K2.out f9 hn0)
    have H3 := Lib.hid h
    have p3 := rr_cell0 h
    clear h f9
    refine hK _ _ p3 (fun hHeld => ?_)
    clear hK K
    try simp only [Act.put, List.setIfInBounds_toArray, List.set_cons_zero, List.set_cons_succ]
    refine wpAnyH_ready (rs := [13, 17]) (by kernel_rfl) (by simp) ?_
    refine AllReadyH.cons (o := ?o136) ?hi136 (fun K hK => ?hk136) ?hr136
    case hi136 => (simp only [List.getElem?_toArray, List.getElem?_cons_succ, List.getElem?_cons_zero]; exact rfl)
    case hr136 =>
      refine AllReadyH.cons (o := ?o137) ?hi137 (fun K hK => ?hk137) ?hr137
      case hi137 => (simp only [List.getElem?_toArray, List.getElem?_cons_succ, List.getElem?_cons_zero]; exact rfl)
      case hr137 => exact AllReadyH.nil
      go_simp
      obtain ⟨x1, hx1⟩ : ∃ x, Hid (x = W3.heap.size) := ⟨_, Lib.hid rfl⟩
      obtain ⟨WA, hWA⟩ : ∃ x, Hid (x = W3.alloc (.cells #[.string ⟨#[]⟩, .slice none 0 0, .slice none 0 0, .string ⟨#[]⟩, .slice none 0 0] 26)) := ⟨_, Lib.hid rfl⟩
      have HA : Hid (Rr WA B g q s3 (d + 1)) := by show Rr _ _ _ _ _ _; rw [hWA.out]; exact H3.out.alloc _
      have BA : Hid (Fr (gq g q) (gq g q) w WA) := by show Fr _ _ _ _; rw [hWA.out]; exact B3.out.alloc _
      have KA : Hid (Bk WA x0 26 #[.string ⟨#[]⟩, .slice none 0 0, .slice none 0 0, .string ⟨#[]⟩, .slice none 0 0]) := by show Bk _ _ _ _; rw [hWA.out]; exact K3.out.alloc _
      have VA : Hid (Bk WA x1 26 #[.string ⟨#[]⟩, .slice none 0 0, .slice none 0 0, .string ⟨#[]⟩, .slice none 0 0]) := by show Bk _ _ _ _; rw [hWA.out, hx1.out]; exact Bk.new _ _ _
      have hx01 : x0 < x1 := by rw [hx1.out]; exact K3.out.lt
      have hn1 : ¬ gq g q x1 := fun hh => HG0.out _ hx01 hh
      have hbA : Below W3.heap.size W3 WA := by rw [hWA.out]; exact (Below.refl _ _).alloc (Nat.le_refl _) _
      have RvaA : Hid (Ls WA (fun k => x0 < k ∧ k ≠ x1) (.slice Ava y2.length cva) y2) := Rva3.out.keep fun b h1 h2 => ⟨⟨h1, fun e => by have := hx1.out; omega⟩, Nat.lt_of_lt_of_le h2 hbA.size, hbA.block b h2⟩
      have RvmA : Hid (Ls WA (fun k => x0 < k ∧ k ≠ x1) (.slice Avm y3.length cvm) y3) := Rvm3.out.keep fun b h1 h2 => ⟨⟨h1, fun e => by have := hx1.out; omega⟩, Nat.lt_of_lt_of_le h2 hbA.size, hbA.block b h2⟩
      have pA := rr_cell0 HA.out
      rw [← hWA.out]
      try rw [← hx1.out]
      refine hK _ _ pA (fun hHeld => ?_)
      clear hK K
      try simp only [Act.put, List.setIfInBounds_toArray, List.set_cons_zero, List.set_cons_succ]
      refine wpAnyH_ready (rs := [13]) (by kernel_rfl) (by simp) ?_
      refine AllReadyH.cons (o := ?o138) ?hi138 (fun K hK => ?hk138) ?hr138
      case hi138 => (simp only [List.getElem?_toArray, List.getElem?_cons_succ, List.getElem?_cons_zero]; exact rfl)
      case hr138 => exact AllReadyH.nil
      go_simp
      try go_at_call 59
      have KK := rpiece_any WA B g q s3 (d + 1) HA.out
      rw [← e4.out] at KK
      refine KK.mono ?_
      clear KK
      rintro e W4a ⟨rfl, h, f9⟩
      try dsimp only at h ⊢
      have Rva4a := Lib.hid (RvaA.out.keep (f9.kept fun b hb => HG0.out b hb.1))
      have Rvm4a := Lib.hid (RvmA.out.keep (f9.kept fun b hb => HG0.out b hb.1))
      have B4a := Lib.hid (BA.out.trans f9)
      have K4a := Lib.hid (bk_fr KA.out f9 hn0)
      have H4a := Lib.hid h
      have p4a := rr_cell0 h
      have V4a := Lib.hid (bk_fr VA.out f9 hn1)
      clear h f9
      refine hK _ _ p4a (fun hHeld => ?_)
      clear hK K
      try simp only [Act.put, List.setIfInBounds_toArray, List.set_cons_zero, List.set_cons_succ]
      refine wpAnyH_ready (rs := [15]) (by kernel_rfl) (by simp) ?_
      refine AllReadyH.cons (o := ?o139) ?hi139 (fun K hK => ?hk139) ?hr139
      case hi139 => (simp only [List.getElem?_toArray, List.getElem?_cons_succ, List.getElem?_cons_zero]; exact rfl)
      case hr139 => exact AllReadyH.nil
      go_simp
      try go_at_call 64
      have KK := rl_nd f W4a B g q s4 (d + 1) HCH.out H4a.out
      rw [← e5.out] at KK
      refine KK.mono ?_
      clear KK
      rintro e W5a ⟨vvk, rfl, rvk, h, f9⟩
      try dsimp only at h rvk ⊢
      have Rva5a := Lib.hid (Rva4a.out.keep (f9.kept fun b hb => HG0.out b hb.1))
      have Rvm5a := Lib.hid (Rvm4a.out.keep (f9.kept fun b hb => HG0.out b hb.1))
      obtain ⟨Avk, cvk, rfl⟩ := rvk.form
      have Rvk5a : Hid (Ls W5a (fun k => x0 < k ∧ k ≠ x1) (.slice Avk y5.length cvk) y5) := rvk.mono fun b hb _ => ⟨Nat.lt_of_lt_of_le K4a.out.lt hb, fun e => by have := Nat.lt_of_lt_of_le V4a.out.lt hb; omega⟩
      clear rvk
      have B5a := Lib.hid (B4a.out.trans f9)
      have K5a := Lib.hid (bk_fr K4a.out f9 hn0)
      have H5a := Lib.hid h
      have p5a := rr_cell0 h
      have V5a := Lib.hid (bk_fr V4a.out f9 hn1)
      clear h f9
      refine hK _ _ p5a (fun hHeld => ?_)
      clear hK K
      try simp only [Act.put, List.setIfInBounds_toArray, List.set_cons_zero, List.set_cons_succ]
      refine wpAnyH_take (i := 16) (oi := ?o140) (v := ?v140) ?hi140 (by kernel_rfl) (by kernel_rfl) (by kernel_rfl) ?hq140 ?hy140 (by assumption) ?hr140
      case hi140 => (simp only [List.getElem?_toArray, List.getElem?_cons_succ, List.getElem?_cons_zero]; exact rfl)
      case hq140 => exact fun _ _ _ h => h
      case hy140 => (refine Or.inl ⟨by rfl, ?_⟩; intro w hSw; (try dsimp only at hSw); go_simp; (try with_reducible rfl))
      try simp only [Act.put, List.setIfInBounds_toArray, List.set_cons_zero, List.set_cons_succ]
      refine wpAnyH_ready (rs := [18]) (by kernel_rfl) (by simp) ?_
      refine AllReadyH.cons (o := ?o141) ?hi141 (fun K hK => ?hk141) ?hr141
      case hi141 => (simp only [List.getElem?_toArray, List.getElem?_cons_succ, List.getElem?_cons_zero]; exact rfl)
      case hr141 => exact AllReadyH.nil
      have hxw1 : w.heap.size ≤ x1 := by omega
      have hxB1 : B ≤ x1 := by omega
      have hx01n : x0 ≠ x1 := by omega
      have t0 : W5a.cell? ⟨x1, 0, none⟩ = some (.string ⟨#[]⟩) := cell_of V5a.out 0 (by simp)
      have u0 : W5a.frozen? ⟨x1, 0, none⟩ = false := V5a.out.frozen 0
      have t1 : W5a.cell? ⟨x1, 1, none⟩ = some (.slice none 0 0) := cell_of V5a.out 1 (by simp)
      have u1 : W5a.frozen? ⟨x1, 1, none⟩ = false := V5a.out.frozen 1
      have t2 : W5a.cell? ⟨x1, 2, none⟩ = some (.slice none 0 0) := cell_of V5a.out 2 (by simp)
      have u2 : W5a.frozen? ⟨x1, 2, none⟩ = false := V5a.out.frozen 2
      have t3 : W5a.cell? ⟨x1, 3, none⟩ = some (.string ⟨#[]⟩) := cell_of V5a.out 3 (by simp)
      have u3 : W5a.frozen? ⟨x1, 3, none⟩ = false := V5a.out.frozen 3
      have t4 : W5a.cell? ⟨x1, 4, none⟩ = some (.slice none 0 0) := cell_of V5a.out 4 (by simp)
      have u4 : W5a.frozen? ⟨x1, 4, none⟩ = false := V5a.out.frozen 4
      obtain ⟨Wz, hWz⟩ : ∃ x, Hid (x = (((((W5a.setCell ⟨x1, 0, none⟩ (.string y1)).setCell ⟨x1, 1, none⟩ (.slice Ava y2.length cva)).setCell ⟨x1, 2, none⟩ (.slice Avm y3.length cvm)).setCell ⟨x1, 3, none⟩ (.string y4)).setCell ⟨x1, 4, none⟩ (.slice Avk y5.length cvk))) := ⟨_, Lib.hid rfl⟩
      have Bz : Hid (Fr (gq g q) (gq g q) w Wz) := by show Fr _ _ _ _; rw [hWz.out]; exact (((((B5a.out.set (p := ⟨x1, 0, none⟩) (.inr hxw1) (.string y1)).set (p := ⟨x1, 1, none⟩) (.inr hxw1) (.slice Ava y2.length cva)).set (p := ⟨x1, 2, none⟩) (.inr hxw1) (.slice Avm y3.length cvm)).set (p := ⟨x1, 3, none⟩) (.inr hxw1) (.string y4)).set (p := ⟨x1, 4, none⟩) (.inr hxw1) (.slice Avk y5.length cvk))
      have Kz : Hid (Bk Wz x0 26 #[.string ⟨#[]⟩, .slice none 0 0, .slice none 0 0, .string ⟨#[]⟩, .slice none 0 0]) := by show Bk _ _ _ _; rw [hWz.out]; exact (((((K5a.out.far (p := ⟨x1, 0, none⟩) hx01n (.string y1)).far (p := ⟨x1, 1, none⟩) hx01n (.slice Ava y2.length cva)).far (p := ⟨x1, 2, none⟩) hx01n (.slice Avm y3.length cvm)).far (p := ⟨x1, 3, none⟩) hx01n (.string y4)).far (p := ⟨x1, 4, none⟩) hx01n (.slice Avk y5.length cvk))
      have Vz : Hid (Bk Wz x1 26 #[.string y1, .slice Ava y2.length cva, .slice Avm y3.length cvm, .string y4, .slice Avk y5.length cvk]) := by show Bk _ _ _ _; rw [hWz.out]; simpa using (((((V5a.out.set 0 (.string y1)).set 1 (.slice Ava y2.length cva)).set 2 (.slice Avm y3.length cvm)).set 3 (.string y4)).set 4 (.slice Avk y5.length cvk))
      have Hz : Hid (Rr Wz B g q s5 (d + 1)) := by show Rr _ _ _ _ _ _; rw [hWz.out]; exact (rr_set (rr_set (rr_set (rr_set (rr_set H5a.out hxB1 0 (.string y1)) hxB1 1 (.slice Ava y2.length cva)) hxB1 2 (.slice Avm y3.length cvm)) hxB1 3 (.string y4)) hxB1 4 (.slice Avk y5.length cvk))
      have Rvaz : Hid (Ls Wz (fun k => x0 < k) (.slice Ava y2.length cva) y2) := by show Ls _ _ _ _; rw [hWz.out]; exact ((ls_set (ls_set (ls_set (ls_set (ls_set Rva5a.out (fun k hk => hk.2) 0 (.string y1)) (fun k hk => hk.2) 1 (.slice Ava y2.length cva)) (fun k hk => hk.2) 2 (.slice Avm y3.length cvm)) (fun k hk => hk.2) 3 (.string y4)) (fun k hk => hk.2) 4 (.slice Avk y5.length cvk))).mono fun b hb _ => hb.1
      have Rvmz : Hid (Ls Wz (fun k => x0 < k) (.slice Avm y3.length cvm) y3) := by show Ls _ _ _ _; rw [hWz.out]; exact ((ls_set (ls_set (ls_set (ls_set (ls_set Rvm5a.out (fun k hk => hk.2) 0 (.string y1)) (fun k hk => hk.2) 1 (.slice Ava y2.length cva)) (fun k hk => hk.2) 2 (.slice Avm y3.length cvm)) (fun k hk => hk.2) 3 (.string y4)) (fun k hk => hk.2) 4 (.slice Avk y5.length cvk))).mono fun b hb _ => hb.1
      have Rvkz : Hid (Ls Wz (fun k => x0 < k) (.slice Avk y5.length cvk) y5) := by show Ls _ _ _ _; rw [hWz.out]; exact ((ls_set (ls_set (ls_set (ls_set (ls_set Rvk5a.out (fun k hk => hk.2) 0 (.string y1)) (fun k hk => hk.2) 1 (.slice Ava y2.length cva)) (fun k hk => hk.2) 2 (.slice Avm y3.length cvm)) (fun k hk => hk.2) 3 (.string y4)) (fun k hk => hk.2) 4 (.slice Avk y5.length cvk))).mono fun b hb _ => hb.1
      go_simp
      rw [← hWz.out]
      refine hK _ _ (rr_cell0 Hz.out) (fun hHeld => ?_)
      clear hK K
      try simp only [Act.put, List.setIfInBounds_toArray, List.set_cons_zero, List.set_cons_succ]
      refine wpAnyH_done (by kernel_rfl) ?_ _
      go_wp2_with fail
      go_meet
      exact ⟨x1, Ava, Avm, Avk, cva, cvm, cvk, rfl, hx01, Vz, Kz, Hz, Bz, Rvaz, Rvmz, Rvkz⟩
    go_simp
    try go_at_call 59
    have KK := rpiece_any W3 B g q s3 (d + 1) H3.out
    rw [← e4.out] at KK
    refine KK.mono ?_
    clear KK
    rintro e W4 ⟨rfl, h, f9⟩
    try dsimp only at h ⊢
    have Rva4 := Lib.hid (Rva3.out.keep (f9.kept HG0.out))
    have Rvm4 := Lib.hid (Rvm3.out.keep (f9.kept HG0.out))
    have B4 := Lib.hid (B3.out.trans f9)
    have K4 := Lib.hid (bk_fr K3.out f9 hn0)
    have H4 := Lib.hid h
    have p4 := rr_cell0 h
    clear h f9
    refine hK _ _ p4 (fun hHeld => ?_)
    clear hK K
    try simp only [Act.put, List.setIfInBounds_toArray, List.set_cons_zero, List.set_cons_succ]
    refine wpAnyH_ready (rs := [15, 17]) (by kernel_rfl) (by simp) ?_
    refine AllReadyH.cons (o := ?o142) ?hi142 (fun K hK => ?hk142) ?hr142
    case hi142 => (simp only [List.getElem?_toArray, List.getElem?_cons_succ, List.getElem?_cons_zero]; exact rfl)
    case hr142 =>
      refine AllReadyH.cons (o := ?o143) ?hi143 (fun K hK => ?hk143) ?hr143
      case hi143 => (simp only [List.getElem?_toArray, List.getElem?_cons_succ, List.getElem?_cons_zero]; exact rfl)
      case hr143 => exact AllReadyH.nil
      go_simp
      obtain ⟨x1, hx1⟩ : ∃ x, Hid (x = W4.heap.size) := ⟨_, Lib.hid rfl⟩
      obtain ⟨WA, hWA⟩ : ∃ x, Hid (x = W4.alloc (.cells #[.string ⟨#[]⟩, .slice none 0 0, .slice none 0 0, .string ⟨#[]⟩, .slice none 0 0] 26)) := ⟨_, Lib.hid rfl⟩
      have HA : Hid (Rr WA B g q s4 (d + 1)) := by show Rr _ _ _ _ _ _; rw [hWA.out]; exact H4.out.alloc _
      have BA : Hid (Fr (gq g q) (gq g q) w WA) := by show Fr _ _ _ _; rw [hWA.out]; exact B4.out.alloc _
      have KA : Hid (Bk WA x0 26 #[.string ⟨#[]⟩, .slice none 0 0, .slice none 0 0, .string ⟨#[]⟩, .slice none 0 0]) := by show Bk _ _ _ _; rw [hWA.out]; exact K4.out.alloc _
      have VA : Hid (Bk WA x1 26 #[.string ⟨#[]⟩, .slice none 0 0, .slice none 0 0, .string ⟨#[]⟩, .slice none 0 0]) := by show Bk _ _ _ _; rw [hWA.out, hx1.out]; exact Bk.new _ _ _
      have hx01 : x0 < x1 := by rw [hx1.out]; exact K4.out.lt
      have hn1 : ¬ gq g q x1 := fun hh => HG0.out _ hx01 hh
      have hbA : Below W4.heap.size W4 WA := by rw [hWA.out]; exact (Below.refl _ _).alloc (Nat.le_refl _) _
      have RvaA : Hid (Ls WA (fun k => x0 < k ∧ k ≠ x1) (.slice Ava y2.length cva) y2) := Rva4.out.keep fun b h1 h2 => ⟨⟨h1, fun e => by have := hx1.out; omega⟩, Nat.lt_of_lt_of_le h2 hbA.size, hbA.block b h2⟩
      have RvmA : Hid (Ls WA (fun k => x0 < k ∧ k ≠ x1) (.slice Avm y3.length cvm) y3) := Rvm4.out.keep fun b h1 h2 => ⟨⟨h1, fun e => by have := hx1.out; omega⟩, Nat.lt_of_lt_of_le h2 hbA.size, hbA.block b h2⟩
      have pA := rr_cell0 HA.out
      rw [← hWA.out]
      try rw [← hx1.out]
      refine hK _ _ pA (fun hHeld => ?_)
      clear hK K
      try simp only [Act.put, List.setIfInBounds_toArray, List.set_cons_zero, List.set_cons_succ]
      refine wpAnyH_ready (rs := [15]) (by kernel_rfl) (by simp) ?_
      refine AllReadyH.cons (o := ?o144) ?hi144 (fun K hK => ?hk144) ?hr144
      case hi144 => (simp only [List.getElem?_toArray, List.getElem?_cons_succ, List.getElem?_cons_zero]; exact rfl)
      case hr144 => exact AllReadyH.nil
      go_simp
      try go_at_call 64
      have KK := rl_nd f WA B g q s4 (d + 1) HCH.out HA.out
      rw [← e5.out] at KK
      refine KK.mono ?_
      clear KK
      rintro e W5a ⟨vvk, rfl, rvk, h, f9⟩
      try dsimp only at h rvk ⊢
      have Rva5a := Lib.hid (RvaA.out.keep (f9.kept fun b hb => HG0.out b hb.1))
      have Rvm5a := Lib.hid (RvmA.out.keep (f9.kept fun b hb => HG0.out b hb.1))
      obtain ⟨Avk, cvk, rfl⟩ := rvk.form
      have Rvk5a : Hid (Ls W5a (fun k => x0 < k ∧ k ≠ x1) (.slice Avk y5.length cvk) y5) := rvk.mono fun b hb _ => ⟨Nat.lt_of_lt_of_le KA.out.lt hb, fun e => by have := Nat.lt_of_lt_of_le VA.out.lt hb; omega⟩
      clear rvk
      have B5a := Lib.hid (BA.out.trans f9)
      have K5a := Lib.hid (bk_fr KA.out f9 hn0)
      have H5a := Lib.hid h
      have p5a := rr_cell0 h
      have V5a := Lib.hid (bk_fr VA.out f9 hn1)
      clear h f9
      refine hK _ _ p5a (fun hHeld => ?_)
      clear hK K
      try simp only [Act.put, List.setIfInBounds_toArray, List.set_cons_zero, List.set_cons_succ]
      refine wpAnyH_take (i := 16) (oi := ?o145) (v := ?v145) ?hi145 (by kernel_rfl) (by kernel_rfl) (by kernel_rfl) ?hq145 ?hy145 (by assumption) ?hr145
      case hi145 => (simp only [List.getElem?_toArray, List.getElem?_cons_succ, List.getElem?_cons_zero]; exact rfl)
      case hq145 => exact fun _ _ _ h => h
      case hy145 => (refine Or.inl ⟨by rfl, ?_⟩; intro w hSw; (try dsimp only at hSw); go_simp; (try with_reducible rfl))
      try simp only [Act.put, List.setIfInBounds_toArray, List.set_cons_zero, List.set_cons_succ]
      refine wpAnyH_ready (rs := [18]) (by kernel_rfl) (by simp) ?_
      refine AllReadyH.cons (o := ?o146) ?hi146 (fun K hK => ?hk146) ?hr146
      case hi146 => (simp only [List.getElem?_toArray, List.getElem?_cons_succ, List.getElem?_cons_zero]; exact rfl)
      case hr146 => exact AllReadyH.nil
      have hxw1 : w.heap.size ≤ x1 := by omega
      have hxB1 : B ≤ x1 := by omega
      have hx01n : x0 ≠ x1 := by omega
      have t0 : W5a.cell? ⟨x1, 0, none⟩ = some (.string ⟨#[]⟩) := cell_of V5a.out 0 (by simp)
      have u0 : W5a.frozen? ⟨x1, 0, none⟩ = false := V5a.out.frozen 0
      have t1 : W5a.cell? ⟨x1, 1, none⟩ = some (.slice none 0 0) := cell_of V5a.out 1 (by simp)
      have u1 : W5a.frozen? ⟨x1, 1, none⟩ = false := V5a.out.frozen 1
      have t2 : W5a.cell? ⟨x1, 2, none⟩ = some (.slice none 0 0) := cell_of V5a.out 2 (by simp)
      have u2 : W5a.frozen? ⟨x1, 2, none⟩ = false := V5a.out.frozen 2
      have t3 : W5a.cell? ⟨x1, 3, none⟩ = some (.string ⟨#[]⟩) := cell_of V5a.out 3 (by simp)
      have u3 : W5a.frozen? ⟨x1, 3, none⟩ = false := V5a.out.frozen 3
      have t4 : W5a.cell? ⟨x1, 4, none⟩ = some (.slice none 0 0) := cell_of V5a.out 4 (by simp)
      have u4 : W5a.frozen? ⟨x1, 4, none⟩ = false := V5a.out.frozen 4
      obtain ⟨Wz, hWz⟩ : ∃ x, Hid (x = (((((W5a.setCell ⟨x1, 0, none⟩ (.string y1)).setCell ⟨x1, 1, none⟩ (.slice Ava y2.length cva)).setCell ⟨x1, 2, none⟩ (.slice Avm y3.length cvm)).setCell ⟨x1, 3, none⟩ (.string y4)).setCell ⟨x1, 4, none⟩ (.slice Avk y5.length cvk))) := ⟨_, Lib.hid rfl⟩
      have Bz : Hid (Fr (gq g q) (gq g q) w Wz) := by show Fr _ _ _ _; rw [hWz.out]; exact (((((B5a.out.set (p := ⟨x1, 0, none⟩) (.inr hxw1) (.string y1)).set (p := ⟨x1, 1, none⟩) (.inr hxw1) (.slice Ava y2.length cva)).set (p := ⟨x1, 2, none⟩) (.inr hxw1) (.slice Avm y3.length cvm)).set (p := ⟨x1, 3, none⟩) (.inr hxw1) (.string y4)).set (p := ⟨x1, 4, none⟩) (.inr hxw1) (.slice Avk y5.length cvk))
      have Kz : Hid (Bk Wz x0 26 #[.string ⟨#[]⟩, .slice none 0 0, .slice none 0 0, .string ⟨#[]⟩, .slice none 0 0]) := by show Bk _ _ _ _; rw [hWz.out]; exact (((((K5a.out.far (p := ⟨x1, 0, none⟩) hx01n (.string y1)).far (p := ⟨x1, 1, none⟩) hx01n (.slice Ava y2.length cva)).far (p := ⟨x1, 2, none⟩) hx01n (.slice Avm y3.length cvm)).far (p := ⟨x1, 3, none⟩) hx01n (.string y4)).far (p := ⟨x1, 4, none⟩) hx01n (.slice Avk y5.length cvk))
      have Vz : Hid (Bk Wz x1 26 #[.string y1, .slice Ava y2.length cva, .slice Avm y3.length cvm, .string y4, .slice Avk y5.length cvk]) := by show Bk _ _ _ _; rw [hWz.out]; simpa using (((((V5a.out.set 0 (.string y1)).set 1 (.slice Ava y2.length cva)).set 2 (.slice Avm y3.length cvm)).set 3 (.string y4)).set 4 (.slice Avk y5.length cvk))
      have Hz : Hid (Rr Wz B g q s5 (d + 1)) := by show Rr _ _ _ _ _ _; rw [hWz.out]; exact (rr_set (rr_set (rr_set (rr_set (rr_set H5a.out hxB1 0 (.string y1)) hxB1 1 (.slice Ava y2.length cva)) hxB1 2 (.slice Avm y3.length cvm)) hxB1 3 (.string y4)) hxB1 4 (.slice Avk y5.length cvk))
      have Rvaz : Hid (Ls Wz (fun k => x0 < k) (.slice Ava y2.length cva) y2) := by show Ls _ _ _ _; rw [hWz.out]; exact ((ls_set (ls_set (ls_set (ls_set (ls_set Rva5a.out (fun k hk => hk.2) 0 (.string y1)) (fun k hk => hk.2) 1 (.slice Ava y2.length cva)) (fun k hk => hk.2) 2 (.slice Avm y3.length cvm)) (fun k hk => hk.2) 3 (.string y4)) (fun k hk => hk.2) 4 (.slice Avk y5.length cvk))).mono fun b hb _ => hb.1
      have Rvmz : Hid (Ls Wz (fun k => x0 < k) (.slice Avm y3.length cvm) y3) := by show Ls _ _ _ _; rw [hWz.out]; exact ((ls_set (ls_set (ls_set (ls_set (ls_set Rvm5a.out (fun k hk => hk.2) 0 (.string y1)) (fun k hk => hk.2) 1 (.slice Ava y2.length cva)) (fun k hk => hk.2) 2 (.slice Avm y3.length cvm)) (fun k hk => hk.2) 3 (.string y4)) (fun k hk => hk.2) 4 (.slice Avk y5.length cvk))).mono fun b hb _ => hb.1
      have Rvkz : Hid (Ls Wz (fun k => x0 < k) (.slice Avk y5.length cvk) y5) := by show Ls _ _ _ _; rw [hWz.out]; exact ((ls_set (ls_set (ls_set (ls_set (ls_set Rvk5a.out (fun k hk => hk.2) 0 (.string y1)) (fun k hk => hk.2) 1 (.slice Ava y2.length cva)) (fun k hk => hk.2) 2 (.slice Avm y3.length cvm)) (fun k hk => hk.2) 3 (.string y4)) (fun k hk => hk.2) 4 (.slice Avk y5.length cvk))).mono fun b hb _ => hb.1
      go_simp
      rw [← hWz.out]
      refine hK _ _ (rr_cell0 Hz.out) (fun hHeld => ?_)
      clear hK K
      try simp only [Act.put, List.setIfInBounds_toArray, List.set_cons_zero, List.set_cons_succ]
      refine wpAnyH_done (by kernel_rfl) ?_ _
      go_wp2_with fail
      go_meet
      exact ⟨x1, Ava, Avm, Avk, cva, cvm, cvk, rfl, hx01, Vz, Kz, Hz, Bz, Rvaz, Rvmz, Rvkz⟩
    go_simp
    try go_at_call 64
    have KK := rl_nd f W4 B g q s4 (d + 1) HCH.out H4.out
    rw [← e5.out] at KK
    refine KK.mono ?_
    clear KK
    rintro e W5 ⟨vvk, rfl, rvk, h, f9⟩
    try dsimp only at h rvk ⊢
    have Rva5 := Lib.hid (Rva4.out.keep (f9.kept HG0.out))
    have Rvm5 := Lib.hid (Rvm4.out.keep (f9.kept HG0.out))
    obtain ⟨Avk, cvk, rfl⟩ := rvk.form
    have Rvk5 : Hid (Ls W5 (fun k => x0 < k) (.slice Avk y5.length cvk) y5) := rvk.mono fun b hb _ => Nat.lt_of_lt_of_le K4.out.lt hb
    clear rvk
    have B5 := Lib.hid (B4.out.trans f9)
    have K5 := Lib.hid (bk_fr K4.out f9 hn0)
    have H5 := Lib.hid h
    have p5 := rr_cell0 h
    clear h f9
    refine hK _ _ p5 (fun hHeld => ?_)
    clear hK K
    try simp only [Act.put, List.setIfInBounds_toArray, List.set_cons_zero, List.set_cons_succ]
    refine wpAnyH_take (i := 16) (oi := ?o147) (v := ?v147) ?hi147 (by kernel_rfl) (by kernel_rfl) (by kernel_rfl) ?hq147 ?hy147 (by assumption) ?hr147
    case hi147 => (simp only [List.getElem?_toArray, List.getElem?_cons_succ, List.getElem?_cons_zero]; exact rfl)
    case hq147 => exact fun _ _ _ h => h
    case hy147 => (refine Or.inl ⟨by rfl, ?_⟩; intro w hSw; (try dsimp only at hSw); go_simp; (try with_reducible rfl))
    try simp only [Act.put, List.setIfInBounds_toArray, List.set_cons_zero, List.set_cons_succ]
    refine wpAnyH_ready (rs := [17]) (by kernel_rfl) (by simp) ?_
    refine AllReadyH.cons (o := ?o148) ?hi148 (fun K hK => ?hk148) ?hr148
    case hi148 => (simp only [List.getElem?_toArray, List.getElem?_cons_succ, List.getElem?_cons_zero]; exact rfl)
    case hr148 => exact AllReadyH.nil
    go_simp
    obtain ⟨x1, hx1⟩ : ∃ x, Hid (x = W5.heap.size) := ⟨_, Lib.hid rfl⟩
    obtain ⟨WA, hWA⟩ : ∃ x, Hid (x = W5.alloc (.cells #[.string ⟨#[]⟩, .slice none 0 0, .slice none 0 0, .string ⟨#[]⟩, .slice none 0 0] 26)) := ⟨_, Lib.hid rfl⟩
    have HA : Hid (Rr WA B g q s5 (d + 1)) := by show Rr _ _ _ _ _ _; rw [hWA.out]; exact H5.out.alloc _
    have BA : Hid (Fr (gq g q) (gq g q) w WA) := by show Fr _ _ _ _; rw [hWA.out]; exact B5.out.alloc _
    have KA : Hid (Bk WA x0 26 #[.string ⟨#[]⟩, .slice none 0 0, .slice none 0 0, .string ⟨#[]⟩, .slice none 0 0]) := by show Bk _ _ _ _; rw [hWA.out]; exact K5.out.alloc _
    have VA : Hid (Bk WA x1 26 #[.string ⟨#[]⟩, .slice none 0 0, .slice none 0 0, .string ⟨#[]⟩, .slice none 0 0]) := by show Bk _ _ _ _; rw [hWA.out, hx1.out]; exact Bk.new _ _ _
    have hx01 : x0 < x1 := by rw [hx1.out]; exact K5.out.lt
    have hn1 : ¬ gq g q x1 := fun hh => HG0.out _ hx01 hh
    have hbA : Below W5.heap.size W5 WA := by rw [hWA.out]; exact (Below.refl _ _).alloc (Nat.le_refl _) _
    have RvaA : Hid (Ls WA (fun k => x0 < k ∧ k ≠ x1) (.slice Ava y2.length cva) y2) := Rva5.out.keep fun b h1 h2 => ⟨⟨h1, fun e => by have := hx1.out; omega⟩, Nat.lt_of_lt_of_le h2 hbA.size, hbA.block b h2⟩
    have RvmA : Hid (Ls WA (fun k => x0 < k ∧ k ≠ x1) (.slice Avm y3.length cvm) y3) := Rvm5.out.keep fun b h1 h2 => ⟨⟨h1, fun e => by have := hx1.out; omega⟩, Nat.lt_of_lt_of_le h2 hbA.size, hbA.block b h2⟩
    have RvkA : Hid (Ls WA (fun k => x0 < k ∧ k ≠ x1) (.slice Avk y5.length cvk) y5) := Rvk5.out.keep fun b h1 h2 => ⟨⟨h1, fun e => by have := hx1.out; omega⟩, Nat.lt_of_lt_of_le h2 hbA.size, hbA.block b h2⟩
    have pA := rr_cell0 HA.out
    rw [← hWA.out]
    try rw [← hx1.out]
    refine hK _ _ pA (fun hHeld => ?_)
    clear hK K
    try simp only [Act.put, List.setIfInBounds_toArray, List.set_cons_zero, List.set_cons_succ]
    refine wpAnyH_ready (rs := [18]) (by kernel_rfl) (by simp) ?_
    refine AllReadyH.cons (o := ?o149) ?hi149 (fun K hK => ?hk149) ?hr149
    case hi149 => (simp only [List.getElem?_toArray, List.getElem?_cons_succ, List.getElem?_cons_zero]; exact rfl)
    case hr149 => exact AllReadyH.nil
    have hxw1 : w.heap.size ≤ x1 := by omega
    have hxB1 : B ≤ x1 := by omega
    have hx01n : x0 ≠ x1 := by omega
    have t0 : WA.cell? ⟨x1, 0, none⟩ = some (.string ⟨#[]⟩) := cell_of VA.out 0 (by simp)
    have u0 : WA.frozen? ⟨x1, 0, none⟩ = false := VA.out.frozen 0
    have t1 : WA.cell? ⟨x1, 1, none⟩ = some (.slice none 0 0) := cell_of VA.out 1 (by simp)
    have u1 : WA.frozen? ⟨x1, 1, none⟩ = false := VA.out.frozen 1
    have t2 : WA.cell? ⟨x1, 2, none⟩ = some (.slice none 0 0) := cell_of VA.out 2 (by simp)
    have u2 : WA.frozen? ⟨x1, 2, none⟩ = false := VA.out.frozen 2
    have t3 : WA.cell? ⟨x1, 3, none⟩ = some (.string ⟨#[]⟩) := cell_of VA.out 3 (by simp)
    have u3 : WA.frozen? ⟨x1, 3, none⟩ = false := VA.out.frozen 3
    have t4 : WA.cell? ⟨x1, 4, none⟩ = some (.slice none 0 0) := cell_of VA.out 4 (by simp)
    have u4 : WA.frozen? ⟨x1, 4, none⟩ = false := VA.out.frozen 4
    obtain ⟨Wz, hWz⟩ : ∃ x, Hid (x = (((((WA.setCell ⟨x1, 0, none⟩ (.string y1)).setCell ⟨x1, 1, none⟩ (.slice Ava y2.length cva)).setCell ⟨x1, 2, none⟩ (.slice Avm y3.length cvm)).setCell ⟨x1, 3, none⟩ (.string y4)).setCell ⟨x1, 4, none⟩ (.slice Avk y5.length cvk))) := ⟨_, Lib.hid rfl⟩
    have Bz : Hid (Fr (gq g q) (gq g q) w Wz) := by show Fr _ _ _ _; rw [hWz.out]; exact (((((BA.out.set (p := ⟨x1, 0, none⟩) (.inr hxw1) (.string y1)).set (p := ⟨x1, 1, none⟩) (.inr hxw1) (.slice Ava y2.length cva)).set (p := ⟨x1, 2, none⟩) (.inr hxw1) (.slice Avm y3.length cvm)).set (p := ⟨x1, 3, none⟩) (.inr hxw1) (.string y4)).set (p := ⟨x1, 4, none⟩) (.inr hxw1) (.slice Avk y5.length cvk))
    have Kz : Hid (Bk Wz x0 26 #[.string ⟨#[]⟩, .slice none 0 0, .slice none 0 0, .string ⟨#[]⟩, .slice none 0 0]) := by show Bk _ _ _ _; rw [hWz.out]; exact (((((KA.out.far (p := ⟨x1, 0, none⟩) hx01n (.string y1)).far (p := ⟨x1, 1, none⟩) hx01n (.slice Ava y2.length cva)).far (p := ⟨x1, 2, none⟩) hx01n (.slice Avm y3.length cvm)).far (p := ⟨x1, 3, none⟩) hx01n (.string y4)).far (p := ⟨x1, 4, none⟩) hx01n (.slice Avk y5.length cvk))
    have Vz : Hid (Bk Wz x1 26 #[.string y1, .slice Ava y2.length cva, .slice Avm y3.length cvm, .string y4, .slice Avk y5.length cvk]) := by show Bk _ _ _ _; rw [hWz.out]; simpa using (((((VA.out.set 0 (.string y1)).set 1 (.slice Ava y2.length cva)).set 2 (.slice Avm y3.length cvm)).set 3 (.string y4)).set 4 (.slice Avk y5.length cvk))
    have Hz : Hid (Rr Wz B g q s5 (d + 1)) := by show Rr _ _ _ _ _ _; rw [hWz.out]; exact (rr_set (rr_set (rr_set (rr_set (rr_set HA.out hxB1 0 (.string y1)) hxB1 1 (.slice Ava y2.length cva)) hxB1 2 (.slice Avm y3.length cvm)) hxB1 3 (.string y4)) hxB1 4 (.slice Avk y5.length cvk))
    have Rvaz : Hid (Ls Wz (fun k => x0 < k) (.slice Ava y2.length cva) y2) := by show Ls _ _ _ _; rw [hWz.out]; exact ((ls_set (ls_set (ls_set (ls_set (ls_set RvaA.out (fun k hk => hk.2) 0 (.string y1)) (fun k hk => hk.2) 1 (.slice Ava y2.length cva)) (fun k hk => hk.2) 2 (.slice Avm y3.length cvm)) (fun k hk => hk.2) 3 (.string y4)) (fun k hk => hk.2) 4 (.slice Avk y5.length cvk))).mono fun b hb _ => hb.1
    have Rvmz : Hid (Ls Wz (fun k => x0 < k) (.slice Avm y3.length cvm) y3) := by show Ls _ _ _ _; rw [hWz.out]; exact ((ls_set (ls_set (ls_set (ls_set (ls_set RvmA.out (fun k hk => hk.2) 0 (.string y1)) (fun k hk => hk.2) 1 (.slice Ava y2.length cva)) (fun k hk => hk.2) 2 (.slice Avm y3.length cvm)) (fun k hk => hk.2) 3 (.string y4)) (fun k hk => hk.2) 4 (.slice Avk y5.length cvk))).mono fun b hb _ => hb.1
    have Rvkz : Hid (Ls Wz (fun k => x0 < k) (.slice Avk y5.length cvk) y5) := by show Ls _ _ _ _; rw [hWz.out]; exact ((ls_set (ls_set (ls_set (ls_set (ls_set RvkA.out (fun k hk => hk.2) 0 (.string y1)) (fun k hk => hk.2) 1 (.slice Ava y2.length cva)) (fun k hk => hk.2) 2 (.slice Avm y3.length cvm)) (fun k hk => hk.2) 3 (.string y4)) (fun k hk => hk.2) 4 (.slice Avk y5.length cvk))).mono fun b hb _ => hb.1
    go_simp
    rw [← hWz.out]
    refine hK _ _ (rr_cell0 Hz.out) (fun hHeld => ?_)
    clear hK K
    try simp only [Act.put, List.setIfInBounds_toArray, List.set_cons_zero, List.set_cons_succ]
    refine wpAnyH_done (by kernel_rfl) ?_ _
    go_wp2_with fail
    go_meet
    exact ⟨x1, Ava, Avm, Avk, cva, cvm, cvk, rfl, hx01, Vz, Kz, Hz, Bz, Rvaz, Rvmz, Rvkz⟩
  case rest =>
    obtain ⟨x1, Ava, Avm, Avk, cva, cvm, cvk, rfl, hx01, Vz, Kz, Hz, Bz, Rva, Rvm, Rvk⟩ := hcut
    have c2 : wc.cell? ⟨g, 2, none⟩ = some (.int .i64 (d + 1)) := by have := Hz.out.1.cell 2; simpa using this
    have z2 := Hz.out.1.frozen 2
    have e9 : d + 1 - 1 = d := by omega
    have hx1g : x1 ≠ g := fun e => HG0.out x1 hx01 (.inl e)
    have hgx1 : g ≠ x1 := fun e => hx1g e.symm
    have hx10 : x1 ≠ x0 := by omega
    have hx01n : x0 ≠ x1 := by omega
    have q0 : wc.cell? ⟨x1, 0, none⟩ = some (.string y1) := cell_of Vz.out 0 (by simp)
    have t0 : wc.cell? ⟨x0, 0, none⟩ = some (.string ⟨#[]⟩) := cell_of Kz.out 0 (by simp)
    have u0 : wc.frozen? ⟨x0, 0, none⟩ = false := Kz.out.frozen 0
    have q1 : wc.cell? ⟨x1, 1, none⟩ = some (.slice Ava y2.length cva) := cell_of Vz.out 1 (by simp)
    have t1 : wc.cell? ⟨x0, 1, none⟩ = some (.slice none 0 0) := cell_of Kz.out 1 (by simp)
    have u1 : wc.frozen? ⟨x0, 1, none⟩ = false := Kz.out.frozen 1
    have q2 : wc.cell? ⟨x1, 2, none⟩ = some (.slice Avm y3.length cvm) := cell_of Vz.out 2 (by simp)
    have t2 : wc.cell? ⟨x0, 2, none⟩ = some (.slice none 0 0) := cell_of Kz.out 2 (by simp)
    have u2 : wc.frozen? ⟨x0, 2, none⟩ = false := Kz.out.frozen 2
    have q3 : wc.cell? ⟨x1, 3, none⟩ = some (.string y4) := cell_of Vz.out 3 (by simp)
    have t3 : wc.cell? ⟨x0, 3, none⟩ = some (.string ⟨#[]⟩) := cell_of Kz.out 3 (by simp)
    have u3 : wc.frozen? ⟨x0, 3, none⟩ = false := Kz.out.frozen 3
    have q4 : wc.cell? ⟨x1, 4, none⟩ = some (.slice Avk y5.length cvk) := cell_of Vz.out 4 (by simp)
    have t4 : wc.cell? ⟨x0, 4, none⟩ = some (.slice none 0 0) := cell_of Kz.out 4 (by simp)
    have u4 : wc.frozen? ⟨x0, 4, none⟩ = false := Kz.out.frozen 4
    obtain ⟨Wf, hWf⟩ : ∃ x, Hid (x = ((((((wc.setCell ⟨g, 2, none⟩ (.int .i64 d)).setCell ⟨x0, 0, none⟩ (.string y1)).setCell ⟨x0, 1, none⟩ (.slice Ava y2.length cva)).setCell ⟨x0, 2, none⟩ (.slice Avm y3.length cvm)).setCell ⟨x0, 3, none⟩ (.string y4)).setCell ⟨x0, 4, none⟩ (.slice Avk y5.length cvk))) := ⟨_, Lib.hid rfl⟩
    have BF : Hid (Fr (gq g q) (gq g q) w Wf) := by show Fr _ _ _ _; rw [hWf.out]; exact ((((((Bz.out.trans (Hz.out.deep d).2).set (p := ⟨x0, 0, none⟩) (.inr hxw) (.string y1)).set (p := ⟨x0, 1, none⟩) (.inr hxw) (.slice Ava y2.length cva)).set (p := ⟨x0, 2, none⟩) (.inr hxw) (.slice Avm y3.length cvm)).set (p := ⟨x0, 3, none⟩) (.inr hxw) (.string y4)).set (p := ⟨x0, 4, none⟩) (.inr hxw) (.slice Avk y5.length cvk))
    have HF : Hid (Rr Wf B g q s5 d) := by show Rr _ _ _ _ _ _; rw [hWf.out]; exact (rr_set (rr_set (rr_set (rr_set (rr_set (Hz.out.deep d).1 hxB 0 (.string y1)) hxB 1 (.slice Ava y2.length cva)) hxB 2 (.slice Avm y3.length cvm)) hxB 3 (.string y4)) hxB 4 (.slice Avk y5.length cvk))
    have KF : Hid (Bk Wf x0 26 #[.string y1, .slice Ava y2.length cva, .slice Avm y3.length cvm, .string y4, .slice Avk y5.length cvk]) := by show Bk _ _ _ _; rw [hWf.out]; simpa using ((((((Kz.out.far (p := ⟨g, 2, none⟩) hxg (.int .i64 d)).set 0 (.string y1)).set 1 (.slice Ava y2.length cva)).set 2 (.slice Avm y3.length cvm)).set 3 (.string y4)).set 4 (.slice Avk y5.length cvk))
    have Lva : Hid (Ls Wf (fun k => w.heap.size ≤ k) (.slice Ava y2.length cva) y2) := by show Ls _ _ _ _; rw [hWf.out]; exact (ls_set (ls_set (ls_set (ls_set (ls_set (ls_set Rva.out (fun k hk e => HG0.out k hk (.inl e)) 2 (.int .i64 d)) (fun k hk => by omega) 0 (.string y1)) (fun k hk => by omega) 1 (.slice Ava y2.length cva)) (fun k hk => by omega) 2 (.slice Avm y3.length cvm)) (fun k hk => by omega) 3 (.string y4)) (fun k hk => by omega) 4 (.slice Avk y5.length cvk)).mono fun b hb _ => by omega
    have Lvm : Hid (Ls Wf (fun k => w.heap.size ≤ k) (.slice Avm y3.length cvm) y3) := by show Ls _ _ _ _; rw [hWf.out]; exact (ls_set (ls_set (ls_set (ls_set (ls_set (ls_set Rvm.out (fun k hk e => HG0.out k hk (.inl e)) 2 (.int .i64 d)) (fun k hk => by omega) 0 (.string y1)) (fun k hk => by omega) 1 (.slice Ava y2.length cva)) (fun k hk => by omega) 2 (.slice Avm y3.length cvm)) (fun k hk => by omega) 3 (.string y4)) (fun k hk => by omega) 4 (.slice Avk y5.length cvk)).mono fun b hb _ => by omega
    have Lvk : Hid (Ls Wf (fun k => w.heap.size ≤ k) (.slice Avk y5.length cvk) y5) := by show Ls _ _ _ _; rw [hWf.out]; exact (ls_set (ls_set (ls_set (ls_set (ls_set (ls_set Rvk.out (fun k hk e => HG0.out k hk (.inl e)) 2 (.int .i64 d)) (fun k hk => by omega) 0 (.string y1)) (fun k hk => by omega) 1 (.slice Ava y2.length cva)) (fun k hk => by omega) 2 (.slice Avm y3.length cvm)) (fun k hk => by omega) 3 (.string y4)) (fun k hk => by omega) 4 (.slice Avk y5.length cvk)).mono fun b hb _ => by omega
    have o0 : Wf.cell? ⟨x0, 0, none⟩ = some (.string y1) := cell_of KF.out 0 (by simp)
    have o1 : Wf.cell? ⟨x0, 1, none⟩ = some (.slice Ava y2.length cva) := cell_of KF.out 1 (by simp)
    have o2 : Wf.cell? ⟨x0, 2, none⟩ = some (.slice Avm y3.length cvm) := cell_of KF.out 2 (by simp)
    have o3 : Wf.cell? ⟨x0, 3, none⟩ = some (.string y4) := cell_of KF.out 3 (by simp)
    have o4 : Wf.cell? ⟨x0, 4, none⟩ = some (.slice Avk y5.length cvk) := cell_of KF.out 4 (by simp)
    clear Vz Kz Hz Bz KF Rva Rvm Rvk
    go_wp2
    rw [← hWf.out]
    refine bodyPost_ret (v := .agg #[.string y1, .slice Ava y2.length cva, .slice Avm y3.length cvm, .string y4, .slice Avk y5.length cvk]) (by simp [results, Tryz.results31, go_sem, o0, o1, o2, o3, o4]) rfl ?_
    show RnodeT (f + 1) B g q w s d _ _
    unfold RnodeT
    rw [hR.out]
    exact ⟨_, _, _, rfl, Lva.out, Lvm.out, Lvk.out, HF.out, BF.out⟩
theorem rnode_any : ∀ (f : Nat), f ≤ 16 → NdR f (16 - (f : Int))
  | 0, _ => rnode_0
  | f + 1, h => by
    have e : (16 : Int) - ((f + 1 : Nat) : Int) + 1 = 16 - (f : Int) := by omega
    refine rnode_s f _ (by omega) (by omega) ?_
    rw [e]
    exact rnode_any f (by omega)
end Go.Proofs.YtjajcecenflejaaGreat
