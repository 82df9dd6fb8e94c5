/- YtjajcecenflejaaGreatCz17 -/
import Derived.Test.YtjajcecenflejaaGreatCz16
import Derived.Test.YtjajcecenflejaaGreatCz10
namespace Go.Proofs.YtjajcecenflejaaGreat
open Go.RowKit
theorem Rr.new {w1 : World} {q b : Nat} {l : List UInt8} (h : Rdr w1 q b l 0) (hb : b < w1.heap.size ∨ l = []) (hl : l.length ≤ 1000000000) :
    Rr (w1.alloc (.cells #[.pointer (some ⟨q, 0, none⟩), .int .i64 0, .int .i64 0] 110)) (w1.heap.size + 1) w1.heap.size q ⟨l, 0, 0⟩ 0 := by
  have hq := h.lt
  have ha : Below w1.heap.size w1 (w1.alloc (.cells #[.pointer (some ⟨q, 0, none⟩), .int .i64 0, .int .i64 0] 110)) := (Below.refl _ _).alloc (Nat.le_refl _) _
  refine ⟨Bk.new _ _ _, ?_, by omega, by omega, by omega, by simp, hl⟩
  rcases hb with hb | rfl
  · exact ⟨b, h.all ha, by omega, .inl (by omega)⟩
  · obtain ⟨v, h1, h2, h3⟩ := h
    exact ⟨w1.heap.size + 1, ⟨v, h1.all ha, (h2.all ha).empty _, by omega⟩, by omega, .inr rfl⟩
def GetT (w : World) (n : Nat) (val : Value → World → Prop) (e : Ending) (w' : World) : Prop := ∃ v, e = .returned (.tuple #[v, .int .i64 (n : Int)]) ∧ Below w.heap.size w w' ∧ (n = 0 → val v w')
set_option maxRecDepth 100000 in
set_option maxHeartbeats 1000000 in
theorem rsteps_any (w : World) (B g q : Nat) (s : RS) (d : Int) (h : Rr w B g q s d) : Calls Tryz.prog 26 #[.pointer (some ⟨g, 0, none⟩)] w (RlT B g q w (rL rSt s) d) := by
  go_enter Tryz.func26, Tryz.ntmps26
  go_wp2_with fail
  refine (rl_st w B g q s d h).mono ?_
  rintro e w1 ⟨v, rfl, hv, h1, f1⟩
  obtain ⟨A, c, rfl⟩ := hv.form
  have HV := Lib.hid hv
  have H1 := Lib.hid h1
  clear hv h1
  go_wp2
  go_ret
  exact ⟨_, rfl, HV.out, H1.out, f1⟩
set_option maxRecDepth 100000 in
set_option maxHeartbeats 1000000 in
theorem get_sts (v : Value) (l : List UInt8) (b : Nat) (w : World) (hv : Bs w b v l) (hl : l.length ≤ 1000000000) :
    Calls Tryz.prog 25 #[v, .func (.func 26) #[] #[]] w (GetT w (rL rSt ⟨l, 0, 0⟩).2.first fun v' w' => Ls w' (fun k => w.heap.size ≤ k) v' (rL rSt ⟨l, 0, 0⟩).1) := by
  obtain ⟨⟨y, s'⟩, hy⟩ : ∃ x, Hid (x = rL rSt ⟨l, 0, 0⟩) := ⟨_, Lib.hid rfl⟩
  rw [← hy.out]
  obtain ⟨n, hn⟩ : ∃ n, Hid (n = s'.first) := ⟨_, Lib.hid rfl⟩
  show Calls _ _ _ _ (GetT w s'.first fun v' w' => Ls w' (fun k => w.heap.size ≤ k) v' y)
  rw [← hn.out]
  have HN := Lib.hid (new_any v l b w hv hl)
  go_enter Tryz.func25, Tryz.ntmps25
  go_wp2_with fail
  refine HN.out.mono ?_
  rintro e w1 ⟨q, b1, rfl, hr1, hb1, hq1, hb1', hbl⟩
  obtain ⟨W2, hW2⟩ : ∃ x, Hid (x = w1.alloc (.cells #[.pointer (some ⟨q, 0, none⟩), .int .i64 0, .int .i64 0] 110)) := ⟨_, Lib.hid rfl⟩
  obtain ⟨g, hg⟩ : ∃ g, Hid (g = w1.heap.size) := ⟨_, Lib.hid rfl⟩
  have H2 : Hid (Rr W2 (g + 1) g q ⟨l, 0, 0⟩ 0) := by show Rr _ _ _ _ _ _; rw [hW2.out, hg.out]; exact Rr.new hr1 hbl hl
  have B2 : Hid (Below w.heap.size w W2) := by show Below _ _ _; rw [hW2.out]; exact hb1.alloc hb1.size _
  have hO : Hid (∀ k, gq g q k → w.heap.size ≤ k) := by
    rintro k (rfl | rfl)
    · rw [hg.out]; exact hb1.size
    · exact hq1
  clear hr1 hb1 hq1 hb1' hbl HN hv
  go_wp2_with fail
  rw [← hW2.out, ← hg.out]
  have KK := rsteps_any W2 (g + 1) g q ⟨l, 0, 0⟩ 0 H2.out
  unfold RlT at KK
  rw [← hy.out] at KK
  refine KK.mono ?_
  clear KK
  rintro e W3 ⟨v3, rfl, hv3, h3, f3⟩
  dsimp only at hv3 h3
  have hle : w.heap.size ≤ W2.heap.size := B2.out.size
  have HV : Hid (Ls W3 (fun k => w.heap.size ≤ k) v3 y) := hv3.mono fun k hk _ => Nat.le_trans hle hk
  have B3 := Lib.hid (Fr.to_below B2.out f3 hO.out)
  have H3 := Lib.hid h3
  obtain ⟨A3, c3, rfl⟩ := hv3.form
  clear hv3 h3 f3
  go_wp2_with fail
  refine (first_e W3 (g + 1) g q s' 0 H3.out).mono ?_
  rintro e W4 ⟨rfl, rfl⟩
  rw [← hn.out]
  by_cases h0 : n = 0
  · have hb : ((n : Int) != 0) = false := by rw [h0]; rfl
    have H0 := Lib.hid h0
    clear h0
    go_wp2
    go_ret2
    exact ⟨_, by rw [H0.out]; rfl, B3.out, fun _ => HV.out⟩
  · have hb : ((n : Int) != 0) = true := by simpa using h0
    have H0 := Lib.hid h0
    clear h0
    go_wp2
    go_ret2
    exact ⟨_, rfl, B3.out, fun e => absurd e H0.out⟩
set_option maxRecDepth 100000 in
set_option maxHeartbeats 1000000 in
theorem readSteps_any (v : Value) (l : List UInt8) (b : Nat) (w : World) (hv : Bs w b v l) (hl : l.length ≤ 1000000000) :
    Calls Tryz.prog 9 #[v] w (GetT w (rL rSt ⟨l, 0, 0⟩).2.first fun v' w' => Ls w' (fun k => w.heap.size ≤ k) v' (rL rSt ⟨l, 0, 0⟩).1) := by
  have HC := Lib.hid (get_sts v l b w hv hl)
  generalize (rL rSt ⟨l, 0, 0⟩).2.first = n at *
  obtain ⟨V, hV⟩ : ∃ V : Value → World → Prop, Hid (V = fun v' w' => Ls w' (fun k => w.heap.size ≤ k) v' (rL rSt ⟨l, 0, 0⟩).1) := ⟨_, Lib.hid rfl⟩
  rw [← hV.out] at HC ⊢
  go_enter Tryz.func9, Tryz.ntmps9
  go_wp2_with fail
  refine HC.out.mono ?_
  rintro e w1 ⟨v1, rfl, hb, hk⟩
  have HK := Lib.hid hk
  clear hk
  go_wp2
  go_ret2
  exact ⟨_, rfl, hb, HK.out⟩
end Go.Proofs.YtjajcecenflejaaGreat
namespace Go.Proofs.YtjajcecenflejaaGreat
open Go.RowKit
def GetS {T : Type} (Is : World → (Nat → Prop) → Value → T → Prop) (w : World) (n : Nat) (y : T) (e : Ending) (w' : World) : Prop := ∃ v y0, e = .returned (.tuple #[v, .int .i64 (n : Int)]) ∧ Below w.heap.size w w' ∧ Is w' (fun k => w.heap.size ≤ k) v y0 ∧ (n = 0 → y0 = y)
def Issch (w : World) (S : Nat → Prop) (v : Value) (y : Sc) : Prop := ∃ vt vm : Value, v = .agg #[vt, vm] ∧ Ls w S vt y.t ∧ Ls w S vm y.m
set_option maxRecDepth 100000 in
set_option maxHeartbeats 4000000 in
theorem get_sch (v : Value) (l : List UInt8) (b : Nat) (w : World) (hv : Bs w b v l) (hl : l.length ≤ 1000000000) :
    Calls Tryz.prog 37 #[v, .func (.func 38) #[] #[]] w (GetS Issch w (rSc ⟨l, 0, 0⟩).2.first (rSc ⟨l, 0, 0⟩).1) := by
  obtain ⟨⟨y, s'⟩, hy⟩ : ∃ x, Hid (x = rSc ⟨l, 0, 0⟩) := ⟨_, Lib.hid rfl⟩
  rw [← hy.out]
  obtain ⟨n, hn⟩ : ∃ n, Hid (n = s'.first) := ⟨_, Lib.hid rfl⟩
  show Calls _ _ _ _ (GetS Issch w s'.first y)
  rw [← hn.out]
  obtain ⟨x4, hx4⟩ : ∃ x, Hid (x = w.heap.size) := ⟨_, Lib.hid rfl⟩
  obtain ⟨W0, hW0⟩ : ∃ x, Hid (x = w.alloc (.cells #[.slice none 0 0, .slice none 0 0] 31)) := ⟨_, Lib.hid rfl⟩
  have B0 : Hid (Below w.heap.size w W0) := by show Below _ _ _; rw [hW0.out]; exact (Below.refl _ _).alloc (Nat.le_refl _) _
  have K0 : Hid (Bk W0 x4 31 #[.slice none 0 0, .slice none 0 0]) := by show Bk _ _ _ _; rw [hW0.out, hx4.out]; exact Bk.new _ _ _
  have hx4w : w.heap.size ≤ x4 := by rw [hx4.out]; exact Nat.le_refl _
  have hv0 : Bs W0 b v l := by rw [hW0.out]; exact hv.alloc _
  have HN := Lib.hid (new_any v l b W0 hv0 hl)
  go_enter Tryz.func37, Tryz.ntmps37
  go_wp2_with fail
  rw [← hW0.out]
  try rw [← hx4.out]
  refine HN.out.mono ?_
  rintro e w1 ⟨q, b1, rfl, hr1, hb1, hq1, hb1', hbl⟩
  obtain ⟨W2, hW2⟩ : ∃ x, Hid (x = w1.alloc (.cells #[.pointer (some ⟨q, 0, none⟩), .int .i64 0, .int .i64 0] 110)) := ⟨_, Lib.hid rfl⟩
  obtain ⟨g, hg⟩ : ∃ g, Hid (g = w1.heap.size) := ⟨_, Lib.hid rfl⟩
  have H2 : Hid (Rr W2 (g + 1) g q ⟨l, 0, 0⟩ 0) := by show Rr _ _ _ _ _ _; rw [hW2.out, hg.out]; exact Rr.new hr1 hbl hl
  have B2 : Hid (Below w.heap.size w W2) := by show Below _ _ _; rw [hW2.out]; exact (B0.out.trans (hb1.mono B0.out.size)).alloc (Nat.le_trans B0.out.size hb1.size) _
  have K2 : Hid (Bk W2 x4 31 #[.slice none 0 0, .slice none 0 0]) := by show Bk _ _ _ _; rw [hW2.out]; exact (K0.out.all hb1).alloc _
  have hx4l := K0.out.lt
  have hgs := hb1.size
  have hgv : W0.heap.size ≤ g := by rw [hg.out]; exact hgs
  have hO : Hid (∀ k, gq g q k → w.heap.size ≤ k) := by
    rintro k (rfl | rfl)
    · exact Nat.le_trans B0.out.size hgv
    · exact Nat.le_trans B0.out.size hq1
  have hn4 : ¬ gq g q x4 := by
    rintro (e | e)
    · omega
    · omega
  clear hr1 hb1 hq1 hb1' hbl HN hv hv0 hgs
  go_wp2_with fail
  rw [← hW2.out, ← hg.out]
  have KK := rschema_any W2 (g + 1) g q ⟨l, 0, 0⟩ 0 H2.out
  unfold RschemaT at KK
  rw [← hy.out] at KK
  refine KK.mono ?_
  clear KK
  rintro e W3 ⟨vt, vm, rfl, rvt, rvm, h3, f3⟩
  dsimp only at h3 rvt rvm
  obtain ⟨Avt, cvt, rfl⟩ := rvt.form
  obtain ⟨Avm, cvm, rfl⟩ := rvm.form
  have hle : w.heap.size ≤ W2.heap.size := B2.out.size
  have hx4l2 := K2.out.lt
  have Lvt : Hid (Ls W3 (fun k => w.heap.size ≤ k ∧ x4 < k) (.slice Avt y.t.length cvt) y.t) := rvt.mono fun k hk _ => ⟨by omega, by omega⟩
  have Lvm : Hid (Ls W3 (fun k => w.heap.size ≤ k ∧ x4 < k) (.slice Avm y.m.length cvm) y.m) := rvm.mono fun k hk _ => ⟨by omega, by omega⟩
  have B3 := Lib.hid (Fr.to_below B2.out f3 hO.out)
  have K3 := Lib.hid (bk_fr K2.out f3 hn4)
  have H3 := Lib.hid h3
  clear h3 f3 rvt rvm
  obtain ⟨W4, hW4⟩ : ∃ x, Hid (x = W3.alloc (.cells #[.slice Avt y.t.length cvt, .slice Avm y.m.length cvm] 31)) := ⟨_, Lib.hid rfl⟩
  obtain ⟨x7, hx7⟩ : ∃ x, Hid (x = W3.heap.size) := ⟨_, Lib.hid rfl⟩
  have H4 : Hid (Rr W4 (g + 1) g q s' 0) := by show Rr _ _ _ _ _ _; rw [hW4.out]; exact H3.out.alloc _
  have B4 : Hid (Below w.heap.size w W4) := by show Below _ _ _; rw [hW4.out]; exact B3.out.alloc B3.out.size _
  have K4 : Hid (Bk W4 x4 31 #[.slice none 0 0, .slice none 0 0]) := by show Bk _ _ _ _; rw [hW4.out]; exact K3.out.alloc _
  have V4 : Hid (Bk W4 x7 31 #[.slice Avt y.t.length cvt, .slice Avm y.m.length cvm]) := by show Bk _ _ _ _; rw [hW4.out, hx7.out]; exact Bk.new _ _ _
  have Mvt : Hid (Ls W4 (fun k => w.heap.size ≤ k ∧ x4 < k) (.slice Avt y.t.length cvt) y.t) := by show Ls _ _ _ _; rw [hW4.out]; exact Lvt.out.under ((Below.refl _ _).alloc (Nat.le_refl _) _)
  have Mvm : Hid (Ls W4 (fun k => w.heap.size ≤ k ∧ x4 < k) (.slice Avm y.m.length cvm) y.m) := by show Ls _ _ _ _; rw [hW4.out]; exact Lvm.out.under ((Below.refl _ _).alloc (Nat.le_refl _) _)
  go_wp2_with fail
  rw [← hW4.out]
  try rw [← hx7.out]
  refine (first_e W4 (g + 1) g q s' 0 H4.out).mono ?_
  rintro e W5 ⟨rfl, rfl⟩
  rw [← hn.out]
  have z0 : W4.cell? ⟨x4, 0, none⟩ = some (.slice none 0 0) := cell_of K4.out 0 (by simp)
  have f0 : W4.frozen? ⟨x4, 0, none⟩ = false := K4.out.frozen 0
  have q0 : W4.cell? ⟨x7, 0, none⟩ = some (.slice Avt y.t.length cvt) := cell_of V4.out 0 (by simp)
  have z1 : W4.cell? ⟨x4, 1, none⟩ = some (.slice none 0 0) := cell_of K4.out 1 (by simp)
  have f1 : W4.frozen? ⟨x4, 1, none⟩ = false := K4.out.frozen 1
  have q1 : W4.cell? ⟨x7, 1, none⟩ = some (.slice Avm y.m.length cvm) := cell_of V4.out 1 (by simp)
  have hx4l4 : x4 < W4.heap.size := K4.out.lt
  by_cases h0 : n = 0
  · have hb : ((n : Int) != 0) = false := by rw [h0]; rfl
    have H0 := Lib.hid h0
    clear h0
    obtain ⟨Wf, hWf⟩ : ∃ x, Hid (x = ((W4.setCell ⟨x4, 0, none⟩ (.slice Avt y.t.length cvt)).setCell ⟨x4, 1, none⟩ (.slice Avm y.m.length cvm))) := ⟨_, Lib.hid rfl⟩
    have BF : Hid (Below w.heap.size w Wf) := by show Below _ _ _; rw [hWf.out]; exact ((B4.out.setCell (p := ⟨x4, 0, none⟩) hx4w (.slice Avt y.t.length cvt)).setCell (p := ⟨x4, 1, none⟩) hx4w (.slice Avm y.m.length cvm))
    have KF : Hid (Bk Wf x4 31 #[.slice Avt y.t.length cvt, .slice Avm y.m.length cvm]) := by show Bk _ _ _ _; rw [hWf.out]; simpa using ((K4.out.set 0 (.slice Avt y.t.length cvt)).set 1 (.slice Avm y.m.length cvm))
    have Nvt : Hid (Ls Wf (fun k => w.heap.size ≤ k) (.slice Avt y.t.length cvt) y.t) := by show Ls _ _ _ _; rw [hWf.out]; exact (ls_set (ls_set Mvt.out (fun k hk => by omega) 0 (.slice Avt y.t.length cvt)) (fun k hk => by omega) 1 (.slice Avm y.m.length cvm)).mono fun k hk _ => hk.1
    have Nvm : Hid (Ls Wf (fun k => w.heap.size ≤ k) (.slice Avm y.m.length cvm) y.m) := by show Ls _ _ _ _; rw [hWf.out]; exact (ls_set (ls_set Mvm.out (fun k hk => by omega) 0 (.slice Avt y.t.length cvt)) (fun k hk => by omega) 1 (.slice Avm y.m.length cvm)).mono fun k hk _ => hk.1
    have o0 : Wf.cell? ⟨x4, 0, none⟩ = some (.slice Avt y.t.length cvt) := cell_of KF.out 0 (by simp)
    have o1 : Wf.cell? ⟨x4, 1, none⟩ = some (.slice Avm y.m.length cvm) := cell_of KF.out 1 (by simp)
    clear K4 V4 B4 H4 KF
    go_wp2
    rw [← hWf.out]
    refine bodyPost_ret (v := .tuple #[.agg #[.slice Avt y.t.length cvt, .slice Avm y.m.length cvm], .int .i64 0]) (by simp [results, Tryz.results37, go_sem, o0, o1]) rfl ?_
    exact ⟨_, y, by rw [H0.out]; rfl, BF.out, ⟨_, _, rfl, Nvt.out, Nvm.out⟩, fun _ => rfl⟩
  · have hb : ((n : Int) != 0) = true := by simpa using h0
    have H0 := Lib.hid h0
    clear h0
    have hx49 : x4 ≠ W4.heap.size := by omega
    have hx94 : W4.heap.size ≠ x4 := by omega
    obtain ⟨Wf, hWf⟩ : ∃ x, Hid (x = ((W4.setCell ⟨x4, 0, none⟩ (.slice none 0 0)).setCell ⟨x4, 1, none⟩ (.slice none 0 0)).alloc (.cells #[.slice none 0 0, .slice none 0 0] 31)) := ⟨_, Lib.hid rfl⟩
    have BF : Hid (Below w.heap.size w Wf) := by show Below _ _ _; rw [hWf.out]; exact ((B4.out.setCell (p := ⟨x4, 0, none⟩) hx4w (.slice none 0 0)).setCell (p := ⟨x4, 1, none⟩) hx4w (.slice none 0 0)).alloc (by simp [World.setCell]; omega) _
    have KF : Hid (Bk Wf x4 31 #[.slice none 0 0, .slice none 0 0]) := by show Bk _ _ _ _; rw [hWf.out]; exact Bk.alloc (by simpa using ((K4.out.set 0 (.slice none 0 0)).set 1 (.slice none 0 0))) _
    have o0 : Wf.cell? ⟨x4, 0, none⟩ = some (.slice none 0 0) := cell_of KF.out 0 (by simp)
    have o1 : Wf.cell? ⟨x4, 1, none⟩ = some (.slice none 0 0) := cell_of KF.out 1 (by simp)
    clear K4 V4 B4 H4 KF
    go_wp2
    rw [← hWf.out]
    refine bodyPost_ret (v := .tuple #[.agg #[.slice none 0 0, .slice none 0 0], .int .i64 (n : Int)]) (by simp [results, Tryz.results37, go_sem, o0, o1]) rfl ?_
    exact ⟨_, ⟨[], []⟩, rfl, BF.out, ⟨_, _, rfl, Ls.nil _ _, Ls.nil _ _⟩, fun e => absurd e H0.out⟩
set_option maxRecDepth 100000 in
set_option maxHeartbeats 4000000 in
theorem read_sch (v : Value) (l : List UInt8) (b : Nat) (w : World) (hv : Bs w b v l) (hl : l.length ≤ 1000000000) :
    Calls Tryz.prog 17 #[v] w (GetS Issch w (rSc ⟨l, 0, 0⟩).2.first (rSc ⟨l, 0, 0⟩).1) := by
  generalize hn : (rSc ⟨l, 0, 0⟩).2.first = n
  generalize hyy : (rSc ⟨l, 0, 0⟩).1 = yy
  obtain ⟨x4, hx4⟩ : ∃ x, Hid (x = w.heap.size) := ⟨_, Lib.hid rfl⟩
  obtain ⟨W0, hW0⟩ : ∃ x, Hid (x = w.alloc (.cells #[.slice none 0 0, .slice none 0 0] 31)) := ⟨_, Lib.hid rfl⟩
  have B0 : Hid (Below w.heap.size w W0) := by show Below _ _ _; rw [hW0.out]; exact (Below.refl _ _).alloc (Nat.le_refl _) _
  have K0 : Hid (Bk W0 x4 31 #[.slice none 0 0, .slice none 0 0]) := by show Bk _ _ _ _; rw [hW0.out, hx4.out]; exact Bk.new _ _ _
  have hx4w : w.heap.size ≤ x4 := by rw [hx4.out]; exact Nat.le_refl _
  have hv0 : Bs W0 b v l := by rw [hW0.out]; exact hv.alloc _
  have HC := get_sch v l b W0 hv0 hl
  rw [hn, hyy] at HC
  have HC := Lib.hid HC
  clear hv hv0 hn hyy
  go_enter Tryz.func17, Tryz.ntmps17
  go_wp2_with fail
  rw [← hW0.out]
  try rw [← hx4.out]
  refine HC.out.mono ?_
  rintro e W1 ⟨v1, y, rfl, hb1, ⟨vt, vm, rfl, rvt, rvm⟩, hk⟩
  obtain ⟨Avt, cvt, rfl⟩ := rvt.form
  obtain ⟨Avm, cvm, rfl⟩ := rvm.form
  have hx4l := K0.out.lt
  have B1 : Hid (Below w.heap.size w W1) := B0.out.trans (hb1.mono B0.out.size)
  have K1 := Lib.hid (K0.out.all hb1)
  have Mvt : Hid (Ls W1 (fun k => w.heap.size ≤ k ∧ x4 < k) (.slice Avt y.t.length cvt) y.t) := rvt.mono fun k hk _ => ⟨by omega, by omega⟩
  have Mvm : Hid (Ls W1 (fun k => w.heap.size ≤ k ∧ x4 < k) (.slice Avm y.m.length cvm) y.m) := rvm.mono fun k hk _ => ⟨by omega, by omega⟩
  have z0 : W1.cell? ⟨x4, 0, none⟩ = some (.slice none 0 0) := cell_of K1.out 0 (by simp)
  have f0 : W1.frozen? ⟨x4, 0, none⟩ = false := K1.out.frozen 0
  have z1 : W1.cell? ⟨x4, 1, none⟩ = some (.slice none 0 0) := cell_of K1.out 1 (by simp)
  have f1 : W1.frozen? ⟨x4, 1, none⟩ = false := K1.out.frozen 1
  have HK := Lib.hid hk
  obtain ⟨Wf, hWf⟩ : ∃ x, Hid (x = ((W1.setCell ⟨x4, 0, none⟩ (.slice Avt y.t.length cvt)).setCell ⟨x4, 1, none⟩ (.slice Avm y.m.length cvm))) := ⟨_, Lib.hid rfl⟩
  have BF : Hid (Below w.heap.size w Wf) := by show Below _ _ _; rw [hWf.out]; exact ((B1.out.setCell (p := ⟨x4, 0, none⟩) hx4w (.slice Avt y.t.length cvt)).setCell (p := ⟨x4, 1, none⟩) hx4w (.slice Avm y.m.length cvm))
  have KF : Hid (Bk Wf x4 31 #[.slice Avt y.t.length cvt, .slice Avm y.m.length cvm]) := by show Bk _ _ _ _; rw [hWf.out]; simpa using ((K1.out.set 0 (.slice Avt y.t.length cvt)).set 1 (.slice Avm y.m.length cvm))
  have Nvt : Hid (Ls Wf (fun k => w.heap.size ≤ k) (.slice Avt y.t.length cvt) y.t) := by show Ls _ _ _ _; rw [hWf.out]; exact (ls_set (ls_set Mvt.out (fun k hk => by omega) 0 (.slice Avt y.t.length cvt)) (fun k hk => by omega) 1 (.slice Avm y.m.length cvm)).mono fun k hk _ => hk.1
  have Nvm : Hid (Ls Wf (fun k => w.heap.size ≤ k) (.slice Avm y.m.length cvm) y.m) := by show Ls _ _ _ _; rw [hWf.out]; exact (ls_set (ls_set Mvm.out (fun k hk => by omega) 0 (.slice Avt y.t.length cvt)) (fun k hk => by omega) 1 (.slice Avm y.m.length cvm)).mono fun k hk _ => hk.1
  have o0 : Wf.cell? ⟨x4, 0, none⟩ = some (.slice Avt y.t.length cvt) := cell_of KF.out 0 (by simp)
  have o1 : Wf.cell? ⟨x4, 1, none⟩ = some (.slice Avm y.m.length cvm) := cell_of KF.out 1 (by simp)
  clear K1 K0 B1 hb1 hk KF rvt rvm
  go_wp2
  rw [← hWf.out]
  refine bodyPost_ret (v := .tuple #[.agg #[.slice Avt y.t.length cvt, .slice Avm y.m.length cvm], .int .i64 (n : Int)]) (by simp [results, Tryz.results17, go_sem, o0, o1]) rfl ?_
  exact ⟨_, y, rfl, BF.out, ⟨_, _, rfl, Nvt.out, Nvm.out⟩, HK.out⟩
end Go.Proofs.YtjajcecenflejaaGreat
