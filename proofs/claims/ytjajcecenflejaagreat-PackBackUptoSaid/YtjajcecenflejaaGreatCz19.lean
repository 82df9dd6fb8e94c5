/- YtjajcecenflejaaGreatCz19 -/
import Derived.Test.YtjajcecenflejaaGreatCz17
import Derived.Test.YtjajcecenflejaaGreatCz18
namespace Go.Proofs.YtjajcecenflejaaGreat
open Go.RowKit
theorem rnode_16 : NdR 16 0 := by
  have := rnode_any 16 (Nat.le_refl _)
  simpa using this
def Isnd (w : World) (S : Nat → Prop) (v : Value) (y : Nd) : Prop := ∃ va vm vk : Value, v = .agg #[.string y.t, va, vm, .string y.x, vk] ∧ Ls w S va y.a ∧ Ls w S vm y.m ∧ Ls w S vk y.k
set_option maxRecDepth 100000 in
set_option maxHeartbeats 4000000 in
theorem get_nd (v : Value) (l : List UInt8) (b : Nat) (w : World) (hv : Bs w b v l) (hl : l.length ≤ 1000000000) :
    Calls Tryz.prog 30 #[v, .func (.func 31) #[] #[]] w (GetS Isnd w (rNd 16 ⟨l, 0, 0⟩).2.first (rNd 16 ⟨l, 0, 0⟩).1) := by
  obtain ⟨⟨y, s'⟩, hy⟩ : ∃ x, Hid (x = rNd 16 ⟨l, 0, 0⟩) := ⟨_, Lib.hid rfl⟩
  rw [← hy.out]
  obtain ⟨n, hn⟩ : ∃ n, Hid (n = s'.first) := ⟨_, Lib.hid rfl⟩
  show Calls _ _ _ _ (GetS Isnd w s'.first y)
  rw [← hn.out]
  obtain ⟨x4, hx4⟩ : ∃ x, Hid (x = w.heap.size) := ⟨_, Lib.hid rfl⟩
  obtain ⟨W0, hW0⟩ : ∃ x, Hid (x = w.alloc (.cells #[.string ⟨#[]⟩, .slice none 0 0, .slice none 0 0, .string ⟨#[]⟩, .slice none 0 0] 26)) := ⟨_, Lib.hid rfl⟩
  have B0 : Hid (Below w.heap.size w W0) := by show Below _ _ _; rw [hW0.out]; exact (Below.refl _ _).alloc (Nat.le_refl _) _
  have K0 : Hid (Bk W0 x4 26 #[.string ⟨#[]⟩, .slice none 0 0, .slice none 0 0, .string ⟨#[]⟩, .slice none 0 0]) := by show Bk _ _ _ _; rw [hW0.out, hx4.out]; exact Bk.new _ _ _
  have hx4w : w.heap.size ≤ x4 := by rw [hx4.out]; exact Nat.le_refl _
  have hv0 : Bs W0 b v l := by rw [hW0.out]; exact hv.alloc _
  have HN := Lib.hid (new_any v l b W0 hv0 hl)
  go_enter Tryz.func30, Tryz.ntmps30
  go_wp2_with fail
  rw [← hW0.out]
  try rw [← hx4.out]
  refine HN.out.mono ?_
  rintro e w1 ⟨q, b1, rfl, hr1, hb1, hq1, hb1', hbl⟩
  obtain ⟨W2, hW2⟩ : ∃ x, Hid (x = w1.alloc (.cells #[.pointer (some ⟨q, 0, none⟩), .int .i64 0, .int .i64 0] 110)) := ⟨_, Lib.hid rfl⟩
  obtain ⟨g, hg⟩ : ∃ g, Hid (g = w1.heap.size) := ⟨_, Lib.hid rfl⟩
  have H2 : Hid (Rr W2 (g + 1) g q ⟨l, 0, 0⟩ 0) := by show Rr _ _ _ _ _ _; rw [hW2.out, hg.out]; exact Rr.new hr1 hbl hl
  have B2 : Hid (Below w.heap.size w W2) := by show Below _ _ _; rw [hW2.out]; exact (B0.out.trans (hb1.mono B0.out.size)).alloc (Nat.le_trans B0.out.size hb1.size) _
  have K2 : Hid (Bk W2 x4 26 #[.string ⟨#[]⟩, .slice none 0 0, .slice none 0 0, .string ⟨#[]⟩, .slice none 0 0]) := by show Bk _ _ _ _; rw [hW2.out]; exact (K0.out.all hb1).alloc _
  have hx4l := K0.out.lt
  have hgs := hb1.size
  have hgv : W0.heap.size ≤ g := by rw [hg.out]; exact hgs
  have hO : Hid (∀ k, gq g q k → w.heap.size ≤ k) := by
    rintro k (rfl | rfl)
    · exact Nat.le_trans B0.out.size hgv
    · exact Nat.le_trans B0.out.size hq1
  have hn4 : ¬ gq g q x4 := by
    rintro (e | e)
    · omega
    · omega
  clear hr1 hb1 hq1 hb1' hbl HN hv hv0 hgs
  go_wp2_with fail
  rw [← hW2.out, ← hg.out]
  have KK := rnode_16 W2 (g + 1) g q ⟨l, 0, 0⟩ H2.out
  unfold RnodeT at KK
  rw [← hy.out] at KK
  refine KK.mono ?_
  clear KK
  rintro e W3 ⟨va, vm, vk, rfl, rva, rvm, rvk, h3, f3⟩
  dsimp only at h3 rva rvm rvk
  obtain ⟨Ava, cva, rfl⟩ := rva.form
  obtain ⟨Avm, cvm, rfl⟩ := rvm.form
  obtain ⟨Avk, cvk, rfl⟩ := rvk.form
  have hle : w.heap.size ≤ W2.heap.size := B2.out.size
  have hx4l2 := K2.out.lt
  have Lva : Hid (Ls W3 (fun k => w.heap.size ≤ k ∧ x4 < k) (.slice Ava y.a.length cva) y.a) := rva.mono fun k hk _ => ⟨by omega, by omega⟩
  have Lvm : Hid (Ls W3 (fun k => w.heap.size ≤ k ∧ x4 < k) (.slice Avm y.m.length cvm) y.m) := rvm.mono fun k hk _ => ⟨by omega, by omega⟩
  have Lvk : Hid (Ls W3 (fun k => w.heap.size ≤ k ∧ x4 < k) (.slice Avk y.k.length cvk) y.k) := rvk.mono fun k hk _ => ⟨by omega, by omega⟩
  have B3 := Lib.hid (Fr.to_below B2.out f3 hO.out)
  have K3 := Lib.hid (bk_fr K2.out f3 hn4)
  have H3 := Lib.hid h3
  clear h3 f3 rva rvm rvk
  obtain ⟨W4, hW4⟩ : ∃ x, Hid (x = W3.alloc (.cells #[.string y.t, .slice Ava y.a.length cva, .slice Avm y.m.length cvm, .string y.x, .slice Avk y.k.length cvk] 26)) := ⟨_, Lib.hid rfl⟩
  obtain ⟨x7, hx7⟩ : ∃ x, Hid (x = W3.heap.size) := ⟨_, Lib.hid rfl⟩
  have H4 : Hid (Rr W4 (g + 1) g q s' 0) := by show Rr _ _ _ _ _ _; rw [hW4.out]; exact H3.out.alloc _
  have B4 : Hid (Below w.heap.size w W4) := by show Below _ _ _; rw [hW4.out]; exact B3.out.alloc B3.out.size _
  have K4 : Hid (Bk W4 x4 26 #[.string ⟨#[]⟩, .slice none 0 0, .slice none 0 0, .string ⟨#[]⟩, .slice none 0 0]) := by show Bk _ _ _ _; rw [hW4.out]; exact K3.out.alloc _
  have V4 : Hid (Bk W4 x7 26 #[.string y.t, .slice Ava y.a.length cva, .slice Avm y.m.length cvm, .string y.x, .slice Avk y.k.length cvk]) := by show Bk _ _ _ _; rw [hW4.out, hx7.out]; exact Bk.new _ _ _
  have Mva : Hid (Ls W4 (fun k => w.heap.size ≤ k ∧ x4 < k) (.slice Ava y.a.length cva) y.a) := by show Ls _ _ _ _; rw [hW4.out]; exact Lva.out.under ((Below.refl _ _).alloc (Nat.le_refl _) _)
  have Mvm : Hid (Ls W4 (fun k => w.heap.size ≤ k ∧ x4 < k) (.slice Avm y.m.length cvm) y.m) := by show Ls _ _ _ _; rw [hW4.out]; exact Lvm.out.under ((Below.refl _ _).alloc (Nat.le_refl _) _)
  have Mvk : Hid (Ls W4 (fun k => w.heap.size ≤ k ∧ x4 < k) (.slice Avk y.k.length cvk) y.k) := by show Ls _ _ _ _; rw [hW4.out]; exact Lvk.out.under ((Below.refl _ _).alloc (Nat.le_refl _) _)
  go_wp2_with fail
  rw [← hW4.out]
  try rw [← hx7.out]
  refine (first_e W4 (g + 1) g q s' 0 H4.out).mono ?_
  rintro e W5 ⟨rfl, rfl⟩
  rw [← hn.out]
  have z0 : W4.cell? ⟨x4, 0, none⟩ = some (.string ⟨#[]⟩) := cell_of K4.out 0 (by simp)
  have f0 : W4.frozen? ⟨x4, 0, none⟩ = false := K4.out.frozen 0
  have q0 : W4.cell? ⟨x7, 0, none⟩ = some (.string y.t) := cell_of V4.out 0 (by simp)
  have z1 : W4.cell? ⟨x4, 1, none⟩ = some (.slice none 0 0) := cell_of K4.out 1 (by simp)
  have f1 : W4.frozen? ⟨x4, 1, none⟩ = false := K4.out.frozen 1
  have q1 : W4.cell? ⟨x7, 1, none⟩ = some (.slice Ava y.a.length cva) := cell_of V4.out 1 (by simp)
  have z2 : W4.cell? ⟨x4, 2, none⟩ = some (.slice none 0 0) := cell_of K4.out 2 (by simp)
  have f2 : W4.frozen? ⟨x4, 2, none⟩ = false := K4.out.frozen 2
  have q2 : W4.cell? ⟨x7, 2, none⟩ = some (.slice Avm y.m.length cvm) := cell_of V4.out 2 (by simp)
  have z3 : W4.cell? ⟨x4, 3, none⟩ = some (.string ⟨#[]⟩) := cell_of K4.out 3 (by simp)
  have f3 : W4.frozen? ⟨x4, 3, none⟩ = false := K4.out.frozen 3
  have q3 : W4.cell? ⟨x7, 3, none⟩ = some (.string y.x) := cell_of V4.out 3 (by simp)
  have z4 : W4.cell? ⟨x4, 4, none⟩ = some (.slice none 0 0) := cell_of K4.out 4 (by simp)
  have f4 : W4.frozen? ⟨x4, 4, none⟩ = false := K4.out.frozen 4
  have q4 : W4.cell? ⟨x7, 4, none⟩ = some (.slice Avk y.k.length cvk) := cell_of V4.out 4 (by simp)
  have hx4l4 : x4 < W4.heap.size := K4.out.lt
  by_cases h0 : n = 0
  · have hb : ((n : Int) != 0) = false := by rw [h0]; rfl
    have H0 := Lib.hid h0
    clear h0
    obtain ⟨Wf, hWf⟩ : ∃ x, Hid (x = (((((W4.setCell ⟨x4, 0, none⟩ (.string y.t)).setCell ⟨x4, 1, none⟩ (.slice Ava y.a.length cva)).setCell ⟨x4, 2, none⟩ (.slice Avm y.m.length cvm)).setCell ⟨x4, 3, none⟩ (.string y.x)).setCell ⟨x4, 4, none⟩ (.slice Avk y.k.length cvk))) := ⟨_, Lib.hid rfl⟩
    have BF : Hid (Below w.heap.size w Wf) := by show Below _ _ _; rw [hWf.out]; exact (((((B4.out.setCell (p := ⟨x4, 0, none⟩) hx4w (.string y.t)).setCell (p := ⟨x4, 1, none⟩) hx4w (.slice Ava y.a.length cva)).setCell (p := ⟨x4, 2, none⟩) hx4w (.slice Avm y.m.length cvm)).setCell (p := ⟨x4, 3, none⟩) hx4w (.string y.x)).setCell (p := ⟨x4, 4, none⟩) hx4w (.slice Avk y.k.length cvk))
    have KF : Hid (Bk Wf x4 26 #[.string y.t, .slice Ava y.a.length cva, .slice Avm y.m.length cvm, .string y.x, .slice Avk y.k.length cvk]) := by show Bk _ _ _ _; rw [hWf.out]; simpa using (((((K4.out.set 0 (.string y.t)).set 1 (.slice Ava y.a.length cva)).set 2 (.slice Avm y.m.length cvm)).set 3 (.string y.x)).set 4 (.slice Avk y.k.length cvk))
    have Nva : Hid (Ls Wf (fun k => w.heap.size ≤ k) (.slice Ava y.a.length cva) y.a) := by show Ls _ _ _ _; rw [hWf.out]; exact (ls_set (ls_set (ls_set (ls_set (ls_set Mva.out (fun k hk => by omega) 0 (.string y.t)) (fun k hk => by omega) 1 (.slice Ava y.a.length cva)) (fun k hk => by omega) 2 (.slice Avm y.m.length cvm)) (fun k hk => by omega) 3 (.string y.x)) (fun k hk => by omega) 4 (.slice Avk y.k.length cvk)).mono fun k hk _ => hk.1
    have Nvm : Hid (Ls Wf (fun k => w.heap.size ≤ k) (.slice Avm y.m.length cvm) y.m) := by show Ls _ _ _ _; rw [hWf.out]; exact (ls_set (ls_set (ls_set (ls_set (ls_set Mvm.out (fun k hk => by omega) 0 (.string y.t)) (fun k hk => by omega) 1 (.slice Ava y.a.length cva)) (fun k hk => by omega) 2 (.slice Avm y.m.length cvm)) (fun k hk => by omega) 3 (.string y.x)) (fun k hk => by omega) 4 (.slice Avk y.k.length cvk)).mono fun k hk _ => hk.1
    have Nvk : Hid (Ls Wf (fun k => w.heap.size ≤ k) (.slice Avk y.k.length cvk) y.k) := by show Ls _ _ _ _; rw [hWf.out]; exact (ls_set (ls_set (ls_set (ls_set (ls_set Mvk.out (fun k hk => by omega) 0 (.string y.t)) (fun k hk => by omega) 1 (.slice Ava y.a.length cva)) (fun k hk => by omega) 2 (.slice Avm y.m.length cvm)) (fun k hk => by omega) 3 (.string y.x)) (fun k hk => by omega) 4 (.slice Avk y.k.length cvk)).mono fun k hk _ => hk.1
    have o0 : Wf.cell? ⟨x4, 0, none⟩ = some (.string y.t) := cell_of KF.out 0 (by simp)
    have o1 : Wf.cell? ⟨x4, 1, none⟩ = some (.slice Ava y.a.length cva) := cell_of KF.out 1 (by simp)
    have o2 : Wf.cell? ⟨x4, 2, none⟩ = some (.slice Avm y.m.length cvm) := cell_of KF.out 2 (by simp)
    have o3 : Wf.cell? ⟨x4, 3, none⟩ = some (.string y.x) := cell_of KF.out 3 (by simp)
    have o4 : Wf.cell? ⟨x4, 4, none⟩ = some (.slice Avk y.k.length cvk) := cell_of KF.out 4 (by simp)
    clear K4 V4 B4 H4 KF
    go_wp2
    rw [← hWf.out]
    refine bodyPost_ret (v := .tuple #[.agg #[.string y.t, .slice Ava y.a.length cva, .slice Avm y.m.length cvm, .string y.x, .slice Avk y.k.length cvk], .int .i64 0]) (by simp [results, Tryz.results30, go_sem, o0, o1, o2, o3, o4]) rfl ?_
    exact ⟨_, y, by rw [H0.out]; rfl, BF.out, ⟨_, _, _, rfl, Nva.out, Nvm.out, Nvk.out⟩, fun _ => rfl⟩
  · have hb : ((n : Int) != 0) = true := by simpa using h0
    have H0 := Lib.hid h0
    clear h0
    have hx49 : x4 ≠ W4.heap.size := by omega
    have hx94 : W4.heap.size ≠ x4 := by omega
    obtain ⟨Wf, hWf⟩ : ∃ x, Hid (x = (((((W4.setCell ⟨x4, 0, none⟩ (.string ⟨#[]⟩)).setCell ⟨x4, 1, none⟩ (.slice none 0 0)).setCell ⟨x4, 2, none⟩ (.slice none 0 0)).setCell ⟨x4, 3, none⟩ (.string ⟨#[]⟩)).setCell ⟨x4, 4, none⟩ (.slice none 0 0)).alloc (.cells #[.string ⟨#[]⟩, .slice none 0 0, .slice none 0 0, .string ⟨#[]⟩, .slice none 0 0] 26)) := ⟨_, Lib.hid rfl⟩
    have BF : Hid (Below w.heap.size w Wf) := by show Below _ _ _; rw [hWf.out]; exact (((((B4.out.setCell (p := ⟨x4, 0, none⟩) hx4w (.string ⟨#[]⟩)).setCell (p := ⟨x4, 1, none⟩) hx4w (.slice none 0 0)).setCell (p := ⟨x4, 2, none⟩) hx4w (.slice none 0 0)).setCell (p := ⟨x4, 3, none⟩) hx4w (.string ⟨#[]⟩)).setCell (p := ⟨x4, 4, none⟩) hx4w (.slice none 0 0)).alloc (by simp [World.setCell]; omega) _
    have KF : Hid (Bk Wf x4 26 #[.string ⟨#[]⟩, .slice none 0 0, .slice none 0 0, .string ⟨#[]⟩, .slice none 0 0]) := by show Bk _ _ _ _; rw [hWf.out]; exact Bk.alloc (by simpa using (((((K4.out.set 0 (.string ⟨#[]⟩)).set 1 (.slice none 0 0)).set 2 (.slice none 0 0)).set 3 (.string ⟨#[]⟩)).set 4 (.slice none 0 0))) _
    have o0 : Wf.cell? ⟨x4, 0, none⟩ = some (.string ⟨#[]⟩) := cell_of KF.out 0 (by simp)
    have o1 : Wf.cell? ⟨x4, 1, none⟩ = some (.slice none 0 0) := cell_of KF.out 1 (by simp)
    have o2 : Wf.cell? ⟨x4, 2, none⟩ = some (.slice none 0 0) := cell_of KF.out 2 (by simp)
    have o3 : Wf.cell? ⟨x4, 3, none⟩ = some (.string ⟨#[]⟩) := cell_of KF.out 3 (by simp)
    have o4 : Wf.cell? ⟨x4, 4, none⟩ = some (.slice none 0 0) := cell_of KF.out 4 (by simp)
    clear K4 V4 B4 H4 KF
    go_wp2
    rw [← hWf.out]
    refine bodyPost_ret (v := .tuple #[.agg #[.string ⟨#[]⟩, .slice none 0 0, .slice none 0 0, .string ⟨#[]⟩, .slice none 0 0], .int .i64 (n : Int)]) (by simp [results, Tryz.results30, go_sem, o0, o1, o2, o3, o4]) rfl ?_
    exact ⟨_, .mk .empty [] [] .empty [], rfl, BF.out, ⟨_, _, _, rfl, Ls.nil _ _, Ls.nil _ _, Ls.nil _ _⟩, fun e => absurd e H0.out⟩
set_option maxRecDepth 100000 in
set_option maxHeartbeats 4000000 in
theorem read_nd (v : Value) (l : List UInt8) (b : Nat) (w : World) (hv : Bs w b v l) (hl : l.length ≤ 1000000000) :
    Calls Tryz.prog 14 #[v] w (GetS Isnd w (rNd 16 ⟨l, 0, 0⟩).2.first (rNd 16 ⟨l, 0, 0⟩).1) := by
  generalize hn : (rNd 16 ⟨l, 0, 0⟩).2.first = n
  generalize hyy : (rNd 16 ⟨l, 0, 0⟩).1 = yy
  obtain ⟨x4, hx4⟩ : ∃ x, Hid (x = w.heap.size) := ⟨_, Lib.hid rfl⟩
  obtain ⟨W0, hW0⟩ : ∃ x, Hid (x = w.alloc (.cells #[.string ⟨#[]⟩, .slice none 0 0, .slice none 0 0, .string ⟨#[]⟩, .slice none 0 0] 26)) := ⟨_, Lib.hid rfl⟩
  have B0 : Hid (Below w.heap.size w W0) := by show Below _ _ _; rw [hW0.out]; exact (Below.refl _ _).alloc (Nat.le_refl _) _
  have K0 : Hid (Bk W0 x4 26 #[.string ⟨#[]⟩, .slice none 0 0, .slice none 0 0, .string ⟨#[]⟩, .slice none 0 0]) := by show Bk _ _ _ _; rw [hW0.out, hx4.out]; exact Bk.new _ _ _
  have hx4w : w.heap.size ≤ x4 := by rw [hx4.out]; exact Nat.le_refl _
  have hv0 : Bs W0 b v l := by rw [hW0.out]; exact hv.alloc _
  have HC := get_nd v l b W0 hv0 hl
  rw [hn, hyy] at HC
  have HC := Lib.hid HC
  clear hv hv0 hn hyy
  go_enter Tryz.func14, Tryz.ntmps14
  go_wp2_with fail
  rw [← hW0.out]
  try rw [← hx4.out]
  refine HC.out.mono ?_
  rintro e W1 ⟨v1, y, rfl, hb1, ⟨va, vm, vk, rfl, rva, rvm, rvk⟩, hk⟩
  obtain ⟨Ava, cva, rfl⟩ := rva.form
  obtain ⟨Avm, cvm, rfl⟩ := rvm.form
  obtain ⟨Avk, cvk, rfl⟩ := rvk.form
  have hx4l := K0.out.lt
  have B1 : Hid (Below w.heap.size w W1) := B0.out.trans (hb1.mono B0.out.size)
  have K1 := Lib.hid (K0.out.all hb1)
  have Mva : Hid (Ls W1 (fun k => w.heap.size ≤ k ∧ x4 < k) (.slice Ava y.a.length cva) y.a) := rva.mono fun k hk _ => ⟨by omega, by omega⟩
  have Mvm : Hid (Ls W1 (fun k => w.heap.size ≤ k ∧ x4 < k) (.slice Avm y.m.length cvm) y.m) := rvm.mono fun k hk _ => ⟨by omega, by omega⟩
  have Mvk : Hid (Ls W1 (fun k => w.heap.size ≤ k ∧ x4 < k) (.slice Avk y.k.length cvk) y.k) := rvk.mono fun k hk _ => ⟨by omega, by omega⟩
  have z0 : W1.cell? ⟨x4, 0, none⟩ = some (.string ⟨#[]⟩) := cell_of K1.out 0 (by simp)
  have f0 : W1.frozen? ⟨x4, 0, none⟩ = false := K1.out.frozen 0
  have z1 : W1.cell? ⟨x4, 1, none⟩ = some (.slice none 0 0) := cell_of K1.out 1 (by simp)
  have f1 : W1.frozen? ⟨x4, 1, none⟩ = false := K1.out.frozen 1
  have z2 : W1.cell? ⟨x4, 2, none⟩ = some (.slice none 0 0) := cell_of K1.out 2 (by simp)
  have f2 : W1.frozen? ⟨x4, 2, none⟩ = false := K1.out.frozen 2
  have z3 : W1.cell? ⟨x4, 3, none⟩ = some (.string ⟨#[]⟩) := cell_of K1.out 3 (by simp)
  have f3 : W1.frozen? ⟨x4, 3, none⟩ = false := K1.out.frozen 3
  have z4 : W1.cell? ⟨x4, 4, none⟩ = some (.slice none 0 0) := cell_of K1.out 4 (by simp)
  have f4 : W1.frozen? ⟨x4, 4, none⟩ = false := K1.out.frozen 4
  have HK := Lib.hid hk
  obtain ⟨Wf, hWf⟩ : ∃ x, Hid (x = (((((W1.setCell ⟨x4, 0, none⟩ (.string y.t)).setCell ⟨x4, 1, none⟩ (.slice Ava y.a.length cva)).setCell ⟨x4, 2, none⟩ (.slice Avm y.m.length cvm)).setCell ⟨x4, 3, none⟩ (.string y.x)).setCell ⟨x4, 4, none⟩ (.slice Avk y.k.length cvk))) := ⟨_, Lib.hid rfl⟩
  have BF : Hid (Below w.heap.size w Wf) := by show Below _ _ _; rw [hWf.out]; exact (((((B1.out.setCell (p := ⟨x4, 0, none⟩) hx4w (.string y.t)).setCell (p := ⟨x4, 1, none⟩) hx4w (.slice Ava y.a.length cva)).setCell (p := ⟨x4, 2, none⟩) hx4w (.slice Avm y.m.length cvm)).setCell (p := ⟨x4, 3, none⟩) hx4w (.string y.x)).setCell (p := ⟨x4, 4, none⟩) hx4w (.slice Avk y.k.length cvk))
  have KF : Hid (Bk Wf x4 26 #[.string y.t, .slice Ava y.a.length cva, .slice Avm y.m.length cvm, .string y.x, .slice Avk y.k.length cvk]) := by show Bk _ _ _ _; rw [hWf.out]; simpa using (((((K1.out.set 0 (.string y.t)).set 1 (.slice Ava y.a.length cva)).set 2 (.slice Avm y.m.length cvm)).set 3 (.string y.x)).set 4 (.slice Avk y.k.length cvk))
  have Nva : Hid (Ls Wf (fun k => w.heap.size ≤ k) (.slice Ava y.a.length cva) y.a) := by show Ls _ _ _ _; rw [hWf.out]; exact (ls_set (ls_set (ls_set (ls_set (ls_set Mva.out (fun k hk => by omega) 0 (.string y.t)) (fun k hk => by omega) 1 (.slice Ava y.a.length cva)) (fun k hk => by omega) 2 (.slice Avm y.m.length cvm)) (fun k hk => by omega) 3 (.string y.x)) (fun k hk => by omega) 4 (.slice Avk y.k.length cvk)).mono fun k hk _ => hk.1
  have Nvm : Hid (Ls Wf (fun k => w.heap.size ≤ k) (.slice Avm y.m.length cvm) y.m) := by show Ls _ _ _ _; rw [hWf.out]; exact (ls_set (ls_set (ls_set (ls_set (ls_set Mvm.out (fun k hk => by omega) 0 (.string y.t)) (fun k hk => by omega) 1 (.slice Ava y.a.length cva)) (fun k hk => by omega) 2 (.slice Avm y.m.length cvm)) (fun k hk => by omega) 3 (.string y.x)) (fun k hk => by omega) 4 (.slice Avk y.k.length cvk)).mono fun k hk _ => hk.1
  have Nvk : Hid (Ls Wf (fun k => w.heap.size ≤ k) (.slice Avk y.k.length cvk) y.k) := by show Ls _ _ _ _; rw [hWf.out]; exact (ls_set (ls_set (ls_set (ls_set (ls_set Mvk.out (fun k hk => by omega) 0 (.string y.t)) (fun k hk => by omega) 1 (.slice Ava y.a.length cva)) (fun k hk => by omega) 2 (.slice Avm y.m.length cvm)) (fun k hk => by omega) 3 (.string y.x)) (fun k hk => by omega) 4 (.slice Avk y.k.length cvk)).mono fun k hk _ => hk.1
  have o0 : Wf.cell? ⟨x4, 0, none⟩ = some (.string y.t) := cell_of KF.out 0 (by simp)
  have o1 : Wf.cell? ⟨x4, 1, none⟩ = some (.slice Ava y.a.length cva) := cell_of KF.out 1 (by simp)
  have o2 : Wf.cell? ⟨x4, 2, none⟩ = some (.slice Avm y.m.length cvm) := cell_of KF.out 2 (by simp)
  have o3 : Wf.cell? ⟨x4, 3, none⟩ = some (.string y.x) := cell_of KF.out 3 (by simp)
  have o4 : Wf.cell? ⟨x4, 4, none⟩ = some (.slice Avk y.k.length cvk) := cell_of KF.out 4 (by simp)
  clear K1 K0 B1 hb1 hk KF rva rvm rvk
  go_wp2
  rw [← hWf.out]
  refine bodyPost_ret (v := .tuple #[.agg #[.string y.t, .slice Ava y.a.length cva, .slice Avm y.m.length cvm, .string y.x, .slice Avk y.k.length cvk], .int .i64 (n : Int)]) (by simp [results, Tryz.results14, go_sem, o0, o1, o2, o3, o4]) rfl ?_
  exact ⟨_, y, rfl, BF.out, ⟨_, _, _, rfl, Nva.out, Nvm.out, Nvk.out⟩, HK.out⟩
end Go.Proofs.YtjajcecenflejaaGreat
