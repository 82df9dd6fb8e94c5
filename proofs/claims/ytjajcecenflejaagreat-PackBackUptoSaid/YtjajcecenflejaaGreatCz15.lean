/- YtjajcecenflejaaGreatCz15 -/
import Derived.Test.YtjajcecenflejaaGreatCz14
namespace Go.Proofs.YtjajcecenflejaaGreat
open Go.RowKit
def RtokenT (B g q : Nat) (w : World) (s : RS) (d : Int) (e : Ending) (w' : World) : Prop := ∃ va vm : Value, e = .returned (.agg #[.int .i64 (rTk s).1.k, .string (rTk s).1.t, va, vm, .int .u8 (rTk s).1.c]) ∧ Ls w' (fun k => w.heap.size ≤ k) va (rTk s).1.a ∧ Ls w' (fun k => w.heap.size ≤ k) vm (rTk s).1.m ∧ Rr w' B g q (rTk s).2 d ∧ Fr (gq g q) (gq g q) w w'
set_option maxRecDepth 100000 in
set_option maxHeartbeats 4000000 in
theorem rtoken_any (w : World) (B g q : Nat) (s : RS) (d : Int) (h : Rr w B g q s d) : Calls Tryz.prog 82 #[.pointer (some ⟨g, 0, none⟩)] w (RtokenT B g q w s d) := by
  obtain ⟨⟨kk, s1⟩, e1⟩ : ∃ x, Hid (x = rK 4 s) := ⟨_, Lib.hid rfl⟩
  have hlo := Lib.hid h.lo
  have hbs := h.base
  obtain ⟨x0, hx0⟩ : ∃ x0, Hid (x0 = w.heap.size) := ⟨_, Lib.hid rfl⟩
  obtain ⟨W0, hW0⟩ : ∃ x, Hid (x = w.alloc (.cells #[.int .i64 0, .string ⟨#[]⟩, .slice none 0 0, .slice none 0 0, .int .u8 0] 57)) := ⟨_, Lib.hid rfl⟩
  have H0 : Hid (Rr W0 B g q s d) := by show Rr _ _ _ _ _ _; rw [hW0.out]; exact h.alloc _
  have B0 : Hid (Fr (gq g q) (gq g q) w W0) := by show Fr _ _ _ _; rw [hW0.out]; exact (Fr.refl h.own).alloc _
  have K0 : Hid (Bk W0 x0 57 #[.int .i64 0, .string ⟨#[]⟩, .slice none 0 0, .slice none 0 0, .int .u8 0]) := by show Bk _ _ _ _; rw [hW0.out, hx0.out]; exact Bk.new _ _ _
  have hn0 : ¬ gq g q x0 := fun hh => by have := hlo.out _ hh; have := hx0.out; omega
  have hxB : B ≤ x0 := by rw [hx0.out]; exact hbs
  have hxw : w.heap.size ≤ x0 := by rw [hx0.out]; exact Nat.le_refl _
  clear h
  by_cases k1 : kk = 1
  · subst k1
    obtain ⟨⟨y2, s2⟩, e2⟩ : ∃ x, Hid (x = rT s1) := ⟨_, Lib.hid rfl⟩
    obtain ⟨⟨y3, s3⟩, e3⟩ : ∃ x, Hid (x = rL rAt s2) := ⟨_, Lib.hid rfl⟩
    obtain ⟨⟨y4, s4⟩, e4⟩ : ∃ x, Hid (x = rL rMk s3) := ⟨_, Lib.hid rfl⟩
    have qB : rTkB 1 = rS3 (fun t a m => ⟨(1 : Nat), t, a, m, 0⟩) rT (rL rAt) (rL rMk) := by unfold rTkB; rw [if_pos (by decide)]
    have hR : Hid (rTk s = (⟨1, y2, y3, y4, 0⟩, s4)) := by show _ = _; simp only [rTk, ← e1.out, qB, rS3, ← e2.out, ← e3.out, ← e4.out]; rfl
    go_enter Tryz.func82, Tryz.ntmps82
    go_wp2_with fail
    rw [← hW0.out, ← hx0.out]
    have KK := kind_any W0 B g q s d H0.out 4 (by decide)
    rw [← e1.out] at KK
    refine KK.mono ?_
    clear KK
    rintro e W1 ⟨rfl, h1, f1⟩
    try dsimp only at h1 ⊢
    have B1 := Lib.hid (B0.out.trans f1)
    have K1 := Lib.hid (bk_fr K0.out f1 hn0)
    have H1 := Lib.hid h1
    have z1 := f1.size
    clear h1 f1
    have p1 := rr_cell0 H1.out
    obtain ⟨x1, hx1⟩ : ∃ x1, Hid (x1 = W1.heap.size) := ⟨_, Lib.hid rfl⟩
    obtain ⟨W1v, hW1v⟩ : ∃ x, Hid (x = W1.alloc (.cells #[.int .i64 1, .string ⟨#[]⟩, .slice none 0 0, .slice none 0 0, .int .u8 0] 57)) := ⟨_, Lib.hid rfl⟩
    have hx01 : x0 < x1 := by rw [hx1.out]; exact K1.out.lt
    have hn1 : ¬ gq g q x1 := fun hh => by have := hlo.out _ hh; omega
    have HG1 : Hid (∀ k, x1 < k → ¬ gq g q k) := fun k hk hh => by have := hlo.out _ hh; omega
    have hxg : x1 ≠ g := fun e => hn1 (.inl e)
    have hgx : g ≠ x1 := fun e => hxg e.symm
    have hx10 : x1 ≠ x0 := by omega
    have hx01n : x0 ≠ x1 := by omega
    have hgl1 : g < W1.heap.size := H1.out.own g (.inl rfl)
    have B1v : Hid (Fr (gq g q) (gq g q) w W1v) := by show Fr _ _ _ _; rw [hW1v.out]; exact B1.out.alloc _
    have K1v : Hid (Bk W1v x0 57 #[.int .i64 0, .string ⟨#[]⟩, .slice none 0 0, .slice none 0 0, .int .u8 0]) := by show Bk _ _ _ _; rw [hW1v.out]; exact K1.out.alloc _
    have V1v : Hid (Bk W1v x1 57 #[.int .i64 1, .string ⟨#[]⟩, .slice none 0 0, .slice none 0 0, .int .u8 0]) := by show Bk _ _ _ _; rw [hW1v.out, hx1.out]; exact Bk.new _ _ _
    have H1v : Hid (Rr W1v B g q s1 d) := by show Rr _ _ _ _ _ _; rw [hW1v.out]; exact H1.out.alloc _
    have pv := rr_cell0 H1v.out
    have cv_0 : W1v.cell? ⟨x1, 0, none⟩ = some (.int .i64 1) := cell_of V1v.out 0 (by simp)
    have cv_1 : W1v.cell? ⟨x1, 1, none⟩ = some (.string ⟨#[]⟩) := cell_of V1v.out 1 (by simp)
    have cv_2 : W1v.cell? ⟨x1, 2, none⟩ = some (.slice none 0 0) := cell_of V1v.out 2 (by simp)
    have cv_3 : W1v.cell? ⟨x1, 3, none⟩ = some (.slice none 0 0) := cell_of V1v.out 3 (by simp)
    have cv_4 : W1v.cell? ⟨x1, 4, none⟩ = some (.int .u8 0) := cell_of V1v.out 4 (by simp)
    have hxw1 : w.heap.size ≤ x1 := by omega
    have hxB1 : B ≤ x1 := by omega
    have hfv : ∀ k, W1v.frozen? ⟨x1, k, none⟩ = false := fun k => V1v.out.frozen k
    go_wp2_with fail
    rw [← hW1v.out, ← hx1.out]
    have KK := rpiece_any W1v B g q s1 d H1v.out
    rw [← e2.out] at KK
    refine KK.mono ?_
    clear KK
    rintro e W2 ⟨rfl, h2, f2⟩
    try dsimp only at h2 ⊢
    have B2 := Lib.hid (B1v.out.trans f2)
    have K2 := Lib.hid (bk_fr K1v.out f2 hn0)
    have V2 := Lib.hid (bk_fr V1v.out f2 hn1)
    have H2 := Lib.hid h2
    have z2 := f2.size
    clear h2 f2
    have p2 := rr_cell0 H2.out
    have c2_0 : W2.cell? ⟨x1, 0, none⟩ = some (.int .i64 1) := cell_of V2.out 0 (by simp)
    have c2_1 : W2.cell? ⟨x1, 1, none⟩ = some (.string ⟨#[]⟩) := cell_of V2.out 1 (by simp)
    have c2_2 : W2.cell? ⟨x1, 2, none⟩ = some (.slice none 0 0) := cell_of V2.out 2 (by simp)
    have c2_3 : W2.cell? ⟨x1, 3, none⟩ = some (.slice none 0 0) := cell_of V2.out 3 (by simp)
    have c2_4 : W2.cell? ⟨x1, 4, none⟩ = some (.int .u8 0) := cell_of V2.out 4 (by simp)
    have fz2 : ∀ k, W2.frozen? ⟨x1, k, none⟩ = false := fun k => V2.out.frozen k
    have w2_1 := fz2 1
    obtain ⟨W2s, hW2s⟩ : ∃ x, Hid (x = (W2.setCell ⟨x1, 1, none⟩ (.string y2))) := ⟨_, Lib.hid rfl⟩
    have B2s : Hid (Fr (gq g q) (gq g q) w W2s) := by show Fr _ _ _ _; rw [hW2s.out]; exact (B2.out.set (p := ⟨x1, 1, none⟩) (.inr hxw1) (.string y2))
    have K2s : Hid (Bk W2s x0 57 #[.int .i64 0, .string ⟨#[]⟩, .slice none 0 0, .slice none 0 0, .int .u8 0]) := by show Bk _ _ _ _; rw [hW2s.out]; exact (K2.out.far (p := ⟨x1, 1, none⟩) hx01n (.string y2))
    have V2s : Hid (Bk W2s x1 57 #[.int .i64 1, .string y2, .slice none 0 0, .slice none 0 0, .int .u8 0]) := by show Bk _ _ _ _; rw [hW2s.out]; simpa using (V2.out.set 1 (.string y2))
    have H2s : Hid (Rr W2s B g q s2 d) := by show Rr _ _ _ _ _ _; rw [hW2s.out]; exact (rr_set H2.out hxB1 1 (.string y2))
    have p2s := rr_cell0 H2s.out
    have d2_0 : W2s.cell? ⟨x1, 0, none⟩ = some (.int .i64 1) := cell_of V2s.out 0 (by simp)
    have d2_1 : W2s.cell? ⟨x1, 1, none⟩ = some (.string y2) := cell_of V2s.out 1 (by simp)
    have d2_2 : W2s.cell? ⟨x1, 2, none⟩ = some (.slice none 0 0) := cell_of V2s.out 2 (by simp)
    have d2_3 : W2s.cell? ⟨x1, 3, none⟩ = some (.slice none 0 0) := cell_of V2s.out 3 (by simp)
    have d2_4 : W2s.cell? ⟨x1, 4, none⟩ = some (.int .u8 0) := cell_of V2s.out 4 (by simp)
    go_wp2_with fail
    rw [← hW2s.out]
    have KK := rl_at W2s B g q s2 d H2s.out
    rw [← e3.out] at KK
    refine KK.mono ?_
    clear KK
    rintro e W3 ⟨vva, rfl, rva, h3, f3⟩
    try dsimp only at h3 rva ⊢
    obtain ⟨Ava, cva, rfl⟩ := rva.form
    have Rva3 : Hid (Ls W3 (fun k => x1 < k) (.slice Ava y3.length cva) y3) := rva.mono fun b hb _ => Nat.lt_of_lt_of_le V2s.out.lt hb
    clear rva
    have B3 := Lib.hid (B2s.out.trans f3)
    have K3 := Lib.hid (bk_fr K2s.out f3 hn0)
    have V3 := Lib.hid (bk_fr V2s.out f3 hn1)
    have H3 := Lib.hid h3
    have z3 := f3.size
    clear h3 f3
    have p3 := rr_cell0 H3.out
    have c3_0 : W3.cell? ⟨x1, 0, none⟩ = some (.int .i64 1) := cell_of V3.out 0 (by simp)
    have c3_1 : W3.cell? ⟨x1, 1, none⟩ = some (.string y2) := cell_of V3.out 1 (by simp)
    have c3_2 : W3.cell? ⟨x1, 2, none⟩ = some (.slice none 0 0) := cell_of V3.out 2 (by simp)
    have c3_3 : W3.cell? ⟨x1, 3, none⟩ = some (.slice none 0 0) := cell_of V3.out 3 (by simp)
    have c3_4 : W3.cell? ⟨x1, 4, none⟩ = some (.int .u8 0) := cell_of V3.out 4 (by simp)
    have fz3 : ∀ k, W3.frozen? ⟨x1, k, none⟩ = false := fun k => V3.out.frozen k
    have w3_2 := fz3 2
    obtain ⟨W3s, hW3s⟩ : ∃ x, Hid (x = (W3.setCell ⟨x1, 2, none⟩ (.slice Ava y3.length cva))) := ⟨_, Lib.hid rfl⟩
    have B3s : Hid (Fr (gq g q) (gq g q) w W3s) := by show Fr _ _ _ _; rw [hW3s.out]; exact (B3.out.set (p := ⟨x1, 2, none⟩) (.inr hxw1) (.slice Ava y3.length cva))
    have K3s : Hid (Bk W3s x0 57 #[.int .i64 0, .string ⟨#[]⟩, .slice none 0 0, .slice none 0 0, .int .u8 0]) := by show Bk _ _ _ _; rw [hW3s.out]; exact (K3.out.far (p := ⟨x1, 2, none⟩) hx01n (.slice Ava y3.length cva))
    have V3s : Hid (Bk W3s x1 57 #[.int .i64 1, .string y2, .slice Ava y3.length cva, .slice none 0 0, .int .u8 0]) := by show Bk _ _ _ _; rw [hW3s.out]; simpa using (V3.out.set 2 (.slice Ava y3.length cva))
    have H3s : Hid (Rr W3s B g q s3 d) := by show Rr _ _ _ _ _ _; rw [hW3s.out]; exact (rr_set H3.out hxB1 2 (.slice Ava y3.length cva))
    have Qva : Ls ((W3.setCell ⟨x1, 2, none⟩ (.slice Ava y3.length cva))) (fun k => x1 < k) (.slice Ava y3.length cva) y3 := (ls_set Rva3.out (fun k hk => by omega) 2 (.slice Ava y3.length cva))
    rw [← hW3s.out] at Qva
    replace Rva3 := Lib.hid Qva
    clear Qva
    have p3s := rr_cell0 H3s.out
    have d3_0 : W3s.cell? ⟨x1, 0, none⟩ = some (.int .i64 1) := cell_of V3s.out 0 (by simp)
    have d3_1 : W3s.cell? ⟨x1, 1, none⟩ = some (.string y2) := cell_of V3s.out 1 (by simp)
    have d3_2 : W3s.cell? ⟨x1, 2, none⟩ = some (.slice Ava y3.length cva) := cell_of V3s.out 2 (by simp)
    have d3_3 : W3s.cell? ⟨x1, 3, none⟩ = some (.slice none 0 0) := cell_of V3s.out 3 (by simp)
    have d3_4 : W3s.cell? ⟨x1, 4, none⟩ = some (.int .u8 0) := cell_of V3s.out 4 (by simp)
    go_wp2_with fail
    rw [← hW3s.out]
    have KK := rl_mk W3s B g q s3 d H3s.out
    rw [← e4.out] at KK
    refine KK.mono ?_
    clear KK
    rintro e W4 ⟨vvm, rfl, rvm, h4, f4⟩
    try dsimp only at h4 rvm ⊢
    have Rva4 := Lib.hid (Rva3.out.keep (f4.kept HG1.out))
    obtain ⟨Avm, cvm, rfl⟩ := rvm.form
    have Rvm4 : Hid (Ls W4 (fun k => x1 < k) (.slice Avm y4.length cvm) y4) := rvm.mono fun b hb _ => Nat.lt_of_lt_of_le V3s.out.lt hb
    clear rvm
    have B4 := Lib.hid (B3s.out.trans f4)
    have K4 := Lib.hid (bk_fr K3s.out f4 hn0)
    have V4 := Lib.hid (bk_fr V3s.out f4 hn1)
    have H4 := Lib.hid h4
    have z4 := f4.size
    clear h4 f4
    have p4 := rr_cell0 H4.out
    have c4_0 : W4.cell? ⟨x1, 0, none⟩ = some (.int .i64 1) := cell_of V4.out 0 (by simp)
    have c4_1 : W4.cell? ⟨x1, 1, none⟩ = some (.string y2) := cell_of V4.out 1 (by simp)
    have c4_2 : W4.cell? ⟨x1, 2, none⟩ = some (.slice Ava y3.length cva) := cell_of V4.out 2 (by simp)
    have c4_3 : W4.cell? ⟨x1, 3, none⟩ = some (.slice none 0 0) := cell_of V4.out 3 (by simp)
    have c4_4 : W4.cell? ⟨x1, 4, none⟩ = some (.int .u8 0) := cell_of V4.out 4 (by simp)
    have fz4 : ∀ k, W4.frozen? ⟨x1, k, none⟩ = false := fun k => V4.out.frozen k
    have w4_3 := fz4 3
    obtain ⟨W4s, hW4s⟩ : ∃ x, Hid (x = (W4.setCell ⟨x1, 3, none⟩ (.slice Avm y4.length cvm))) := ⟨_, Lib.hid rfl⟩
    have B4s : Hid (Fr (gq g q) (gq g q) w W4s) := by show Fr _ _ _ _; rw [hW4s.out]; exact (B4.out.set (p := ⟨x1, 3, none⟩) (.inr hxw1) (.slice Avm y4.length cvm))
    have K4s : Hid (Bk W4s x0 57 #[.int .i64 0, .string ⟨#[]⟩, .slice none 0 0, .slice none 0 0, .int .u8 0]) := by show Bk _ _ _ _; rw [hW4s.out]; exact (K4.out.far (p := ⟨x1, 3, none⟩) hx01n (.slice Avm y4.length cvm))
    have V4s : Hid (Bk W4s x1 57 #[.int .i64 1, .string y2, .slice Ava y3.length cva, .slice Avm y4.length cvm, .int .u8 0]) := by show Bk _ _ _ _; rw [hW4s.out]; simpa using (V4.out.set 3 (.slice Avm y4.length cvm))
    have H4s : Hid (Rr W4s B g q s4 d) := by show Rr _ _ _ _ _ _; rw [hW4s.out]; exact (rr_set H4.out hxB1 3 (.slice Avm y4.length cvm))
    have Qva : Ls ((W4.setCell ⟨x1, 3, none⟩ (.slice Avm y4.length cvm))) (fun k => x1 < k) (.slice Ava y3.length cva) y3 := (ls_set Rva4.out (fun k hk => by omega) 3 (.slice Avm y4.length cvm))
    rw [← hW4s.out] at Qva
    replace Rva4 := Lib.hid Qva
    clear Qva
    have Qvm : Ls ((W4.setCell ⟨x1, 3, none⟩ (.slice Avm y4.length cvm))) (fun k => x1 < k) (.slice Avm y4.length cvm) y4 := (ls_set Rvm4.out (fun k hk => by omega) 3 (.slice Avm y4.length cvm))
    rw [← hW4s.out] at Qvm
    replace Rvm4 := Lib.hid Qvm
    clear Qvm
    have p4s := rr_cell0 H4s.out
    have d4_0 : W4s.cell? ⟨x1, 0, none⟩ = some (.int .i64 1) := cell_of V4s.out 0 (by simp)
    have d4_1 : W4s.cell? ⟨x1, 1, none⟩ = some (.string y2) := cell_of V4s.out 1 (by simp)
    have d4_2 : W4s.cell? ⟨x1, 2, none⟩ = some (.slice Ava y3.length cva) := cell_of V4s.out 2 (by simp)
    have d4_3 : W4s.cell? ⟨x1, 3, none⟩ = some (.slice Avm y4.length cvm) := cell_of V4s.out 3 (by simp)
    have d4_4 : W4s.cell? ⟨x1, 4, none⟩ = some (.int .u8 0) := cell_of V4s.out 4 (by simp)
    have o0z : W4.cell? ⟨x0, 0, none⟩ = some (.int .i64 0) := cell_of K4.out 0 (by simp)
    have o0f : W4.frozen? ⟨x0, 0, none⟩ = false := K4.out.frozen 0
    have o1z : W4.cell? ⟨x0, 1, none⟩ = some (.string ⟨#[]⟩) := cell_of K4.out 1 (by simp)
    have o1f : W4.frozen? ⟨x0, 1, none⟩ = false := K4.out.frozen 1
    have o2z : W4.cell? ⟨x0, 2, none⟩ = some (.slice none 0 0) := cell_of K4.out 2 (by simp)
    have o2f : W4.frozen? ⟨x0, 2, none⟩ = false := K4.out.frozen 2
    have o3z : W4.cell? ⟨x0, 3, none⟩ = some (.slice none 0 0) := cell_of K4.out 3 (by simp)
    have o3f : W4.frozen? ⟨x0, 3, none⟩ = false := K4.out.frozen 3
    have o4z : W4.cell? ⟨x0, 4, none⟩ = some (.int .u8 0) := cell_of K4.out 4 (by simp)
    have o4f : W4.frozen? ⟨x0, 4, none⟩ = false := K4.out.frozen 4
    have hx0l : x0 < W4.heap.size := K4.out.lt
    obtain ⟨Wf, hWf⟩ : ∃ x, Hid (x = (((((W4s.setCell ⟨x0, 0, none⟩ (.int .i64 1)).setCell ⟨x0, 1, none⟩ (.string y2)).setCell ⟨x0, 2, none⟩ (.slice Ava y3.length cva)).setCell ⟨x0, 3, none⟩ (.slice Avm y4.length cvm)).setCell ⟨x0, 4, none⟩ (.int .u8 0))) := ⟨_, Lib.hid rfl⟩
    have BF : Hid (Fr (gq g q) (gq g q) w Wf) := by show Fr _ _ _ _; rw [hWf.out]; exact (((((B4s.out.set (p := ⟨x0, 0, none⟩) (.inr hxw) (.int .i64 1)).set (p := ⟨x0, 1, none⟩) (.inr hxw) (.string y2)).set (p := ⟨x0, 2, none⟩) (.inr hxw) (.slice Ava y3.length cva)).set (p := ⟨x0, 3, none⟩) (.inr hxw) (.slice Avm y4.length cvm)).set (p := ⟨x0, 4, none⟩) (.inr hxw) (.int .u8 0))
    have HF : Hid (Rr Wf B g q s4 d) := by show Rr _ _ _ _ _ _; rw [hWf.out]; exact (rr_set (rr_set (rr_set (rr_set (rr_set H4s.out hxB 0 (.int .i64 1)) hxB 1 (.string y2)) hxB 2 (.slice Ava y3.length cva)) hxB 3 (.slice Avm y4.length cvm)) hxB 4 (.int .u8 0))
    have KF : Hid (Bk Wf x0 57 #[.int .i64 1, .string y2, .slice Ava y3.length cva, .slice Avm y4.length cvm, .int .u8 0]) := by show Bk _ _ _ _; rw [hWf.out]; simpa using (((((K4s.out.set 0 (.int .i64 1)).set 1 (.string y2)).set 2 (.slice Ava y3.length cva)).set 3 (.slice Avm y4.length cvm)).set 4 (.int .u8 0))
    have Lva : Hid (Ls Wf (fun k => w.heap.size ≤ k) (.slice Ava y3.length cva) y3) := by show Ls _ _ _ _; rw [hWf.out]; exact (ls_set (ls_set (ls_set (ls_set (ls_set Rva4.out (fun k hk => by omega) 0 (.int .i64 1)) (fun k hk => by omega) 1 (.string y2)) (fun k hk => by omega) 2 (.slice Ava y3.length cva)) (fun k hk => by omega) 3 (.slice Avm y4.length cvm)) (fun k hk => by omega) 4 (.int .u8 0)).mono fun b hb _ => by omega
    have Lvm : Hid (Ls Wf (fun k => w.heap.size ≤ k) (.slice Avm y4.length cvm) y4) := by show Ls _ _ _ _; rw [hWf.out]; exact (ls_set (ls_set (ls_set (ls_set (ls_set Rvm4.out (fun k hk => by omega) 0 (.int .i64 1)) (fun k hk => by omega) 1 (.string y2)) (fun k hk => by omega) 2 (.slice Ava y3.length cva)) (fun k hk => by omega) 3 (.slice Avm y4.length cvm)) (fun k hk => by omega) 4 (.int .u8 0)).mono fun b hb _ => by omega
    have o0 : Wf.cell? ⟨x0, 0, none⟩ = some (.int .i64 1) := cell_of KF.out 0 (by simp)
    have o1 : Wf.cell? ⟨x0, 1, none⟩ = some (.string y2) := cell_of KF.out 1 (by simp)
    have o2 : Wf.cell? ⟨x0, 2, none⟩ = some (.slice Ava y3.length cva) := cell_of KF.out 2 (by simp)
    have o3 : Wf.cell? ⟨x0, 3, none⟩ = some (.slice Avm y4.length cvm) := cell_of KF.out 3 (by simp)
    have o4 : Wf.cell? ⟨x0, 4, none⟩ = some (.int .u8 0) := cell_of KF.out 4 (by simp)
    clear K4s V4s B4s H4s KF
    go_wp2
    try rw [← hW4s.out]
    try rw [← hWf.out]
    refine bodyPost_ret (v := .agg #[.int .i64 1, .string y2, .slice Ava y3.length cva, .slice Avm y4.length cvm, .int .u8 0]) (by simp [results, Tryz.results82, go_sem, o0, o1, o2, o3, o4]) rfl ?_
    show RtokenT B g q w s d _ _
    unfold RtokenT
    rw [hR.out]
    exact ⟨_, _, rfl, Lva.out, Lvm.out, HF.out, BF.out⟩
  by_cases k3 : kk = 3
  · subst k3
    obtain ⟨⟨y2, s2⟩, e2⟩ : ∃ x, Hid (x = rT s1) := ⟨_, Lib.hid rfl⟩
    obtain ⟨⟨y3, s3⟩, e3⟩ : ∃ x, Hid (x = rL rAt s2) := ⟨_, Lib.hid rfl⟩
    obtain ⟨⟨y4, s4⟩, e4⟩ : ∃ x, Hid (x = rL rMk s3) := ⟨_, Lib.hid rfl⟩
    have qB : rTkB 3 = rS3 (fun t a m => ⟨(3 : Nat), t, a, m, 0⟩) rT (rL rAt) (rL rMk) := by unfold rTkB; rw [if_pos (by decide)]
    have hR : Hid (rTk s = (⟨3, y2, y3, y4, 0⟩, s4)) := by show _ = _; simp only [rTk, ← e1.out, qB, rS3, ← e2.out, ← e3.out, ← e4.out]; rfl
    go_enter Tryz.func82, Tryz.ntmps82
    go_wp2_with fail
    rw [← hW0.out, ← hx0.out]
    have KK := kind_any W0 B g q s d H0.out 4 (by decide)
    rw [← e1.out] at KK
    refine KK.mono ?_
    clear KK
    rintro e W1 ⟨rfl, h1, f1⟩
    try dsimp only at h1 ⊢
    have B1 := Lib.hid (B0.out.trans f1)
    have K1 := Lib.hid (bk_fr K0.out f1 hn0)
    have H1 := Lib.hid h1
    have z1 := f1.size
    clear h1 f1
    have p1 := rr_cell0 H1.out
    obtain ⟨x1, hx1⟩ : ∃ x1, Hid (x1 = W1.heap.size) := ⟨_, Lib.hid rfl⟩
    obtain ⟨W1v, hW1v⟩ : ∃ x, Hid (x = W1.alloc (.cells #[.int .i64 3, .string ⟨#[]⟩, .slice none 0 0, .slice none 0 0, .int .u8 0] 57)) := ⟨_, Lib.hid rfl⟩
    have hx01 : x0 < x1 := by rw [hx1.out]; exact K1.out.lt
    have hn1 : ¬ gq g q x1 := fun hh => by have := hlo.out _ hh; omega
    have HG1 : Hid (∀ k, x1 < k → ¬ gq g q k) := fun k hk hh => by have := hlo.out _ hh; omega
    have hxg : x1 ≠ g := fun e => hn1 (.inl e)
    have hgx : g ≠ x1 := fun e => hxg e.symm
    have hx10 : x1 ≠ x0 := by omega
    have hx01n : x0 ≠ x1 := by omega
    have hgl1 : g < W1.heap.size := H1.out.own g (.inl rfl)
    have B1v : Hid (Fr (gq g q) (gq g q) w W1v) := by show Fr _ _ _ _; rw [hW1v.out]; exact B1.out.alloc _
    have K1v : Hid (Bk W1v x0 57 #[.int .i64 0, .string ⟨#[]⟩, .slice none 0 0, .slice none 0 0, .int .u8 0]) := by show Bk _ _ _ _; rw [hW1v.out]; exact K1.out.alloc _
    have V1v : Hid (Bk W1v x1 57 #[.int .i64 3, .string ⟨#[]⟩, .slice none 0 0, .slice none 0 0, .int .u8 0]) := by show Bk _ _ _ _; rw [hW1v.out, hx1.out]; exact Bk.new _ _ _
    have H1v : Hid (Rr W1v B g q s1 d) := by show Rr _ _ _ _ _ _; rw [hW1v.out]; exact H1.out.alloc _
    have pv := rr_cell0 H1v.out
    have cv_0 : W1v.cell? ⟨x1, 0, none⟩ = some (.int .i64 3) := cell_of V1v.out 0 (by simp)
    have cv_1 : W1v.cell? ⟨x1, 1, none⟩ = some (.string ⟨#[]⟩) := cell_of V1v.out 1 (by simp)
    have cv_2 : W1v.cell? ⟨x1, 2, none⟩ = some (.slice none 0 0) := cell_of V1v.out 2 (by simp)
    have cv_3 : W1v.cell? ⟨x1, 3, none⟩ = some (.slice none 0 0) := cell_of V1v.out 3 (by simp)
    have cv_4 : W1v.cell? ⟨x1, 4, none⟩ = some (.int .u8 0) := cell_of V1v.out 4 (by simp)
    have hxw1 : w.heap.size ≤ x1 := by omega
    have hxB1 : B ≤ x1 := by omega
    have hfv : ∀ k, W1v.frozen? ⟨x1, k, none⟩ = false := fun k => V1v.out.frozen k
    go_wp2_with fail
    rw [← hW1v.out, ← hx1.out]
    have KK := rpiece_any W1v B g q s1 d H1v.out
    rw [← e2.out] at KK
    refine KK.mono ?_
    clear KK
    rintro e W2 ⟨rfl, h2, f2⟩
    try dsimp only at h2 ⊢
    have B2 := Lib.hid (B1v.out.trans f2)
    have K2 := Lib.hid (bk_fr K1v.out f2 hn0)
    have V2 := Lib.hid (bk_fr V1v.out f2 hn1)
    have H2 := Lib.hid h2
    have z2 := f2.size
    clear h2 f2
    have p2 := rr_cell0 H2.out
    have c2_0 : W2.cell? ⟨x1, 0, none⟩ = some (.int .i64 3) := cell_of V2.out 0 (by simp)
    have c2_1 : W2.cell? ⟨x1, 1, none⟩ = some (.string ⟨#[]⟩) := cell_of V2.out 1 (by simp)
    have c2_2 : W2.cell? ⟨x1, 2, none⟩ = some (.slice none 0 0) := cell_of V2.out 2 (by simp)
    have c2_3 : W2.cell? ⟨x1, 3, none⟩ = some (.slice none 0 0) := cell_of V2.out 3 (by simp)
    have c2_4 : W2.cell? ⟨x1, 4, none⟩ = some (.int .u8 0) := cell_of V2.out 4 (by simp)
    have fz2 : ∀ k, W2.frozen? ⟨x1, k, none⟩ = false := fun k => V2.out.frozen k
    have w2_1 := fz2 1
    obtain ⟨W2s, hW2s⟩ : ∃ x, Hid (x = (W2.setCell ⟨x1, 1, none⟩ (.string y2))) := ⟨_, Lib.hid rfl⟩
    have B2s : Hid (Fr (gq g q) (gq g q) w W2s) := by show Fr _ _ _ _; rw [hW2s.out]; exact (B2.out.set (p := ⟨x1, 1, none⟩) (.inr hxw1) (.string y2))
    have K2s : Hid (Bk W2s x0 57 #[.int .i64 0, .string ⟨#[]⟩, .slice none 0 0, .slice none 0 0, .int .u8 0]) := by show Bk _ _ _ _; rw [hW2s.out]; exact (K2.out.far (p := ⟨x1, 1, none⟩) hx01n (.string y2))
    have V2s : Hid (Bk W2s x1 57 #[.int .i64 3, .string y2, .slice none 0 0, .slice none 0 0, .int .u8 0]) := by show Bk _ _ _ _; rw [hW2s.out]; simpa using (V2.out.set 1 (.string y2))
    have H2s : Hid (Rr W2s B g q s2 d) := by show Rr _ _ _ _ _ _; rw [hW2s.out]; exact (rr_set H2.out hxB1 1 (.string y2))
    have p2s := rr_cell0 H2s.out
    have d2_0 : W2s.cell? ⟨x1, 0, none⟩ = some (.int .i64 3) := cell_of V2s.out 0 (by simp)
    have d2_1 : W2s.cell? ⟨x1, 1, none⟩ = some (.string y2) := cell_of V2s.out 1 (by simp)
    have d2_2 : W2s.cell? ⟨x1, 2, none⟩ = some (.slice none 0 0) := cell_of V2s.out 2 (by simp)
    have d2_3 : W2s.cell? ⟨x1, 3, none⟩ = some (.slice none 0 0) := cell_of V2s.out 3 (by simp)
    have d2_4 : W2s.cell? ⟨x1, 4, none⟩ = some (.int .u8 0) := cell_of V2s.out 4 (by simp)
    go_wp2_with fail
    rw [← hW2s.out]
    have KK := rl_at W2s B g q s2 d H2s.out
    rw [← e3.out] at KK
    refine KK.mono ?_
    clear KK
    rintro e W3 ⟨vva, rfl, rva, h3, f3⟩
    try dsimp only at h3 rva ⊢
    obtain ⟨Ava, cva, rfl⟩ := rva.form
    have Rva3 : Hid (Ls W3 (fun k => x1 < k) (.slice Ava y3.length cva) y3) := rva.mono fun b hb _ => Nat.lt_of_lt_of_le V2s.out.lt hb
    clear rva
    have B3 := Lib.hid (B2s.out.trans f3)
    have K3 := Lib.hid (bk_fr K2s.out f3 hn0)
    have V3 := Lib.hid (bk_fr V2s.out f3 hn1)
    have H3 := Lib.hid h3
    have z3 := f3.size
    clear h3 f3
    have p3 := rr_cell0 H3.out
    have c3_0 : W3.cell? ⟨x1, 0, none⟩ = some (.int .i64 3) := cell_of V3.out 0 (by simp)
    have c3_1 : W3.cell? ⟨x1, 1, none⟩ = some (.string y2) := cell_of V3.out 1 (by simp)
    have c3_2 : W3.cell? ⟨x1, 2, none⟩ = some (.slice none 0 0) := cell_of V3.out 2 (by simp)
    have c3_3 : W3.cell? ⟨x1, 3, none⟩ = some (.slice none 0 0) := cell_of V3.out 3 (by simp)
    have c3_4 : W3.cell? ⟨x1, 4, none⟩ = some (.int .u8 0) := cell_of V3.out 4 (by simp)
    have fz3 : ∀ k, W3.frozen? ⟨x1, k, none⟩ = false := fun k => V3.out.frozen k
    have w3_2 := fz3 2
    obtain ⟨W3s, hW3s⟩ : ∃ x, Hid (x = (W3.setCell ⟨x1, 2, none⟩ (.slice Ava y3.length cva))) := ⟨_, Lib.hid rfl⟩
    have B3s : Hid (Fr (gq g q) (gq g q) w W3s) := by show Fr _ _ _ _; rw [hW3s.out]; exact (B3.out.set (p := ⟨x1, 2, none⟩) (.inr hxw1) (.slice Ava y3.length cva))
    have K3s : Hid (Bk W3s x0 57 #[.int .i64 0, .string ⟨#[]⟩, .slice none 0 0, .slice none 0 0, .int .u8 0]) := by show Bk _ _ _ _; rw [hW3s.out]; exact (K3.out.far (p := ⟨x1, 2, none⟩) hx01n (.slice Ava y3.length cva))
    have V3s : Hid (Bk W3s x1 57 #[.int .i64 3, .string y2, .slice Ava y3.length cva, .slice none 0 0, .int .u8 0]) := by show Bk _ _ _ _; rw [hW3s.out]; simpa using (V3.out.set 2 (.slice Ava y3.length cva))
    have H3s : Hid (Rr W3s B g q s3 d) := by show Rr _ _ _ _ _ _; rw [hW3s.out]; exact (rr_set H3.out hxB1 2 (.slice Ava y3.length cva))
    have Qva : Ls ((W3.setCell ⟨x1, 2, none⟩ (.slice Ava y3.length cva))) (fun k => x1 < k) (.slice Ava y3.length cva) y3 := (ls_set Rva3.out (fun k hk => by omega) 2 (.slice Ava y3.length cva))
    rw [← hW3s.out] at Qva
    replace Rva3 := Lib.hid Qva
    clear Qva
    have p3s := rr_cell0 H3s.out
    have d3_0 : W3s.cell? ⟨x1, 0, none⟩ = some (.int .i64 3) := cell_of V3s.out 0 (by simp)
    have d3_1 : W3s.cell? ⟨x1, 1, none⟩ = some (.string y2) := cell_of V3s.out 1 (by simp)
    have d3_2 : W3s.cell? ⟨x1, 2, none⟩ = some (.slice Ava y3.length cva) := cell_of V3s.out 2 (by simp)
    have d3_3 : W3s.cell? ⟨x1, 3, none⟩ = some (.slice none 0 0) := cell_of V3s.out 3 (by simp)
    have d3_4 : W3s.cell? ⟨x1, 4, none⟩ = some (.int .u8 0) := cell_of V3s.out 4 (by simp)
    go_wp2_with fail
    rw [← hW3s.out]
    have KK := rl_mk W3s B g q s3 d H3s.out
    rw [← e4.out] at KK
    refine KK.mono ?_
    clear KK
    rintro e W4 ⟨vvm, rfl, rvm, h4, f4⟩
    try dsimp only at h4 rvm ⊢
    have Rva4 := Lib.hid (Rva3.out.keep (f4.kept HG1.out))
    obtain ⟨Avm, cvm, rfl⟩ := rvm.form
    have Rvm4 : Hid (Ls W4 (fun k => x1 < k) (.slice Avm y4.length cvm) y4) := rvm.mono fun b hb _ => Nat.lt_of_lt_of_le V3s.out.lt hb
    clear rvm
    have B4 := Lib.hid (B3s.out.trans f4)
    have K4 := Lib.hid (bk_fr K3s.out f4 hn0)
    have V4 := Lib.hid (bk_fr V3s.out f4 hn1)
    have H4 := Lib.hid h4
    have z4 := f4.size
    clear h4 f4
    have p4 := rr_cell0 H4.out
    have c4_0 : W4.cell? ⟨x1, 0, none⟩ = some (.int .i64 3) := cell_of V4.out 0 (by simp)
    have c4_1 : W4.cell? ⟨x1, 1, none⟩ = some (.string y2) := cell_of V4.out 1 (by simp)
    have c4_2 : W4.cell? ⟨x1, 2, none⟩ = some (.slice Ava y3.length cva) := cell_of V4.out 2 (by simp)
    have c4_3 : W4.cell? ⟨x1, 3, none⟩ = some (.slice none 0 0) := cell_of V4.out 3 (by simp)
    have c4_4 : W4.cell? ⟨x1, 4, none⟩ = some (.int .u8 0) := cell_of V4.out 4 (by simp)
    have fz4 : ∀ k, W4.frozen? ⟨x1, k, none⟩ = false := fun k => V4.out.frozen k
    have w4_3 := fz4 3
    obtain ⟨W4s, hW4s⟩ : ∃ x, Hid (x = (W4.setCell ⟨x1, 3, none⟩ (.slice Avm y4.length cvm))) := ⟨_, Lib.hid rfl⟩
    have B4s : Hid (Fr (gq g q) (gq g q) w W4s) := by show Fr _ _ _ _; rw [hW4s.out]; exact (B4.out.set (p := ⟨x1, 3, none⟩) (.inr hxw1) (.slice Avm y4.length cvm))
    have K4s : Hid (Bk W4s x0 57 #[.int .i64 0, .string ⟨#[]⟩, .slice none 0 0, .slice none 0 0, .int .u8 0]) := by show Bk _ _ _ _; rw [hW4s.out]; exact (K4.out.far (p := ⟨x1, 3, none⟩) hx01n (.slice Avm y4.length cvm))
    have V4s : Hid (Bk W4s x1 57 #[.int .i64 3, .string y2, .slice Ava y3.length cva, .slice Avm y4.length cvm, .int .u8 0]) := by show Bk _ _ _ _; rw [hW4s.out]; simpa using (V4.out.set 3 (.slice Avm y4.length cvm))
    have H4s : Hid (Rr W4s B g q s4 d) := by show Rr _ _ _ _ _ _; rw [hW4s.out]; exact (rr_set H4.out hxB1 3 (.slice Avm y4.length cvm))
    have Qva : Ls ((W4.setCell ⟨x1, 3, none⟩ (.slice Avm y4.length cvm))) (fun k => x1 < k) (.slice Ava y3.length cva) y3 := (ls_set Rva4.out (fun k hk => by omega) 3 (.slice Avm y4.length cvm))
    rw [← hW4s.out] at Qva
    replace Rva4 := Lib.hid Qva
    clear Qva
    have Qvm : Ls ((W4.setCell ⟨x1, 3, none⟩ (.slice Avm y4.length cvm))) (fun k => x1 < k) (.slice Avm y4.length cvm) y4 := (ls_set Rvm4.out (fun k hk => by omega) 3 (.slice Avm y4.length cvm))
    rw [← hW4s.out] at Qvm
    replace Rvm4 := Lib.hid Qvm
    clear Qvm
    have p4s := rr_cell0 H4s.out
    have d4_0 : W4s.cell? ⟨x1, 0, none⟩ = some (.int .i64 3) := cell_of V4s.out 0 (by simp)
    have d4_1 : W4s.cell? ⟨x1, 1, none⟩ = some (.string y2) := cell_of V4s.out 1 (by simp)
    have d4_2 : W4s.cell? ⟨x1, 2, none⟩ = some (.slice Ava y3.length cva) := cell_of V4s.out 2 (by simp)
    have d4_3 : W4s.cell? ⟨x1, 3, none⟩ = some (.slice Avm y4.length cvm) := cell_of V4s.out 3 (by simp)
    have d4_4 : W4s.cell? ⟨x1, 4, none⟩ = some (.int .u8 0) := cell_of V4s.out 4 (by simp)
    have o0z : W4.cell? ⟨x0, 0, none⟩ = some (.int .i64 0) := cell_of K4.out 0 (by simp)
    have o0f : W4.frozen? ⟨x0, 0, none⟩ = false := K4.out.frozen 0
    have o1z : W4.cell? ⟨x0, 1, none⟩ = some (.string ⟨#[]⟩) := cell_of K4.out 1 (by simp)
    have o1f : W4.frozen? ⟨x0, 1, none⟩ = false := K4.out.frozen 1
    have o2z : W4.cell? ⟨x0, 2, none⟩ = some (.slice none 0 0) := cell_of K4.out 2 (by simp)
    have o2f : W4.frozen? ⟨x0, 2, none⟩ = false := K4.out.frozen 2
    have o3z : W4.cell? ⟨x0, 3, none⟩ = some (.slice none 0 0) := cell_of K4.out 3 (by simp)
    have o3f : W4.frozen? ⟨x0, 3, none⟩ = false := K4.out.frozen 3
    have o4z : W4.cell? ⟨x0, 4, none⟩ = some (.int .u8 0) := cell_of K4.out 4 (by simp)
    have o4f : W4.frozen? ⟨x0, 4, none⟩ = false := K4.out.frozen 4
    have hx0l : x0 < W4.heap.size := K4.out.lt
    obtain ⟨Wf, hWf⟩ : ∃ x, Hid (x = (((((W4s.setCell ⟨x0, 0, none⟩ (.int .i64 3)).setCell ⟨x0, 1, none⟩ (.string y2)).setCell ⟨x0, 2, none⟩ (.slice Ava y3.length cva)).setCell ⟨x0, 3, none⟩ (.slice Avm y4.length cvm)).setCell ⟨x0, 4, none⟩ (.int .u8 0))) := ⟨_, Lib.hid rfl⟩
    have BF : Hid (Fr (gq g q) (gq g q) w Wf) := by show Fr _ _ _ _; rw [hWf.out]; exact (((((B4s.out.set (p := ⟨x0, 0, none⟩) (.inr hxw) (.int .i64 3)).set (p := ⟨x0, 1, none⟩) (.inr hxw) (.string y2)).set (p := ⟨x0, 2, none⟩) (.inr hxw) (.slice Ava y3.length cva)).set (p := ⟨x0, 3, none⟩) (.inr hxw) (.slice Avm y4.length cvm)).set (p := ⟨x0, 4, none⟩) (.inr hxw) (.int .u8 0))
    have HF : Hid (Rr Wf B g q s4 d) := by show Rr _ _ _ _ _ _; rw [hWf.out]; exact (rr_set (rr_set (rr_set (rr_set (rr_set H4s.out hxB 0 (.int .i64 3)) hxB 1 (.string y2)) hxB 2 (.slice Ava y3.length cva)) hxB 3 (.slice Avm y4.length cvm)) hxB 4 (.int .u8 0))
    have KF : Hid (Bk Wf x0 57 #[.int .i64 3, .string y2, .slice Ava y3.length cva, .slice Avm y4.length cvm, .int .u8 0]) := by show Bk _ _ _ _; rw [hWf.out]; simpa using (((((K4s.out.set 0 (.int .i64 3)).set 1 (.string y2)).set 2 (.slice Ava y3.length cva)).set 3 (.slice Avm y4.length cvm)).set 4 (.int .u8 0))
    have Lva : Hid (Ls Wf (fun k => w.heap.size ≤ k) (.slice Ava y3.length cva) y3) := by show Ls _ _ _ _; rw [hWf.out]; exact (ls_set (ls_set (ls_set (ls_set (ls_set Rva4.out (fun k hk => by omega) 0 (.int .i64 3)) (fun k hk => by omega) 1 (.string y2)) (fun k hk => by omega) 2 (.slice Ava y3.length cva)) (fun k hk => by omega) 3 (.slice Avm y4.length cvm)) (fun k hk => by omega) 4 (.int .u8 0)).mono fun b hb _ => by omega
    have Lvm : Hid (Ls Wf (fun k => w.heap.size ≤ k) (.slice Avm y4.length cvm) y4) := by show Ls _ _ _ _; rw [hWf.out]; exact (ls_set (ls_set (ls_set (ls_set (ls_set Rvm4.out (fun k hk => by omega) 0 (.int .i64 3)) (fun k hk => by omega) 1 (.string y2)) (fun k hk => by omega) 2 (.slice Ava y3.length cva)) (fun k hk => by omega) 3 (.slice Avm y4.length cvm)) (fun k hk => by omega) 4 (.int .u8 0)).mono fun b hb _ => by omega
    have o0 : Wf.cell? ⟨x0, 0, none⟩ = some (.int .i64 3) := cell_of KF.out 0 (by simp)
    have o1 : Wf.cell? ⟨x0, 1, none⟩ = some (.string y2) := cell_of KF.out 1 (by simp)
    have o2 : Wf.cell? ⟨x0, 2, none⟩ = some (.slice Ava y3.length cva) := cell_of KF.out 2 (by simp)
    have o3 : Wf.cell? ⟨x0, 3, none⟩ = some (.slice Avm y4.length cvm) := cell_of KF.out 3 (by simp)
    have o4 : Wf.cell? ⟨x0, 4, none⟩ = some (.int .u8 0) := cell_of KF.out 4 (by simp)
    clear K4s V4s B4s H4s KF
    go_wp2
    try rw [← hW4s.out]
    try rw [← hWf.out]
    refine bodyPost_ret (v := .agg #[.int .i64 3, .string y2, .slice Ava y3.length cva, .slice Avm y4.length cvm, .int .u8 0]) (by simp [results, Tryz.results82, go_sem, o0, o1, o2, o3, o4]) rfl ?_
    show RtokenT B g q w s d _ _
    unfold RtokenT
    rw [hR.out]
    exact ⟨_, _, rfl, Lva.out, Lvm.out, HF.out, BF.out⟩
  by_cases k4 : kk = 4
  · subst k4
    obtain ⟨⟨y2, s2⟩, e2⟩ : ∃ x, Hid (x = rCh s1) := ⟨_, Lib.hid rfl⟩
    obtain ⟨⟨y3, s3⟩, e3⟩ : ∃ x, Hid (x = rL rMk s2) := ⟨_, Lib.hid rfl⟩
    have qB : rTkB 4 = rS2 (fun c m => ⟨(4 : Nat), .empty, [], m, c⟩) rCh (rL rMk) := by unfold rTkB; rw [if_neg (by decide), if_pos rfl]
    have hR : Hid (rTk s = (⟨4, .empty, [], y3, y2⟩, s3)) := by show _ = _; simp only [rTk, ← e1.out, qB, rS2, ← e2.out, ← e3.out]; rfl
    go_enter Tryz.func82, Tryz.ntmps82
    go_wp2_with fail
    rw [← hW0.out, ← hx0.out]
    have KK := kind_any W0 B g q s d H0.out 4 (by decide)
    rw [← e1.out] at KK
    refine KK.mono ?_
    clear KK
    rintro e W1 ⟨rfl, h1, f1⟩
    try dsimp only at h1 ⊢
    have B1 := Lib.hid (B0.out.trans f1)
    have K1 := Lib.hid (bk_fr K0.out f1 hn0)
    have H1 := Lib.hid h1
    have z1 := f1.size
    clear h1 f1
    have p1 := rr_cell0 H1.out
    obtain ⟨x1, hx1⟩ : ∃ x1, Hid (x1 = W1.heap.size) := ⟨_, Lib.hid rfl⟩
    obtain ⟨W1v, hW1v⟩ : ∃ x, Hid (x = W1.alloc (.cells #[.int .i64 4, .string ⟨#[]⟩, .slice none 0 0, .slice none 0 0, .int .u8 0] 57)) := ⟨_, Lib.hid rfl⟩
    have hx01 : x0 < x1 := by rw [hx1.out]; exact K1.out.lt
    have hn1 : ¬ gq g q x1 := fun hh => by have := hlo.out _ hh; omega
    have HG1 : Hid (∀ k, x1 < k → ¬ gq g q k) := fun k hk hh => by have := hlo.out _ hh; omega
    have hxg : x1 ≠ g := fun e => hn1 (.inl e)
    have hgx : g ≠ x1 := fun e => hxg e.symm
    have hx10 : x1 ≠ x0 := by omega
    have hx01n : x0 ≠ x1 := by omega
    have hgl1 : g < W1.heap.size := H1.out.own g (.inl rfl)
    have B1v : Hid (Fr (gq g q) (gq g q) w W1v) := by show Fr _ _ _ _; rw [hW1v.out]; exact B1.out.alloc _
    have K1v : Hid (Bk W1v x0 57 #[.int .i64 0, .string ⟨#[]⟩, .slice none 0 0, .slice none 0 0, .int .u8 0]) := by show Bk _ _ _ _; rw [hW1v.out]; exact K1.out.alloc _
    have V1v : Hid (Bk W1v x1 57 #[.int .i64 4, .string ⟨#[]⟩, .slice none 0 0, .slice none 0 0, .int .u8 0]) := by show Bk _ _ _ _; rw [hW1v.out, hx1.out]; exact Bk.new _ _ _
    have H1v : Hid (Rr W1v B g q s1 d) := by show Rr _ _ _ _ _ _; rw [hW1v.out]; exact H1.out.alloc _
    have pv := rr_cell0 H1v.out
    have cv_0 : W1v.cell? ⟨x1, 0, none⟩ = some (.int .i64 4) := cell_of V1v.out 0 (by simp)
    have cv_1 : W1v.cell? ⟨x1, 1, none⟩ = some (.string ⟨#[]⟩) := cell_of V1v.out 1 (by simp)
    have cv_2 : W1v.cell? ⟨x1, 2, none⟩ = some (.slice none 0 0) := cell_of V1v.out 2 (by simp)
    have cv_3 : W1v.cell? ⟨x1, 3, none⟩ = some (.slice none 0 0) := cell_of V1v.out 3 (by simp)
    have cv_4 : W1v.cell? ⟨x1, 4, none⟩ = some (.int .u8 0) := cell_of V1v.out 4 (by simp)
    have hxw1 : w.heap.size ≤ x1 := by omega
    have hxB1 : B ≤ x1 := by omega
    have hfv : ∀ k, W1v.frozen? ⟨x1, k, none⟩ = false := fun k => V1v.out.frozen k
    go_wp2_with fail
    rw [← hW1v.out, ← hx1.out]
    have KK := char_any W1v B g q s1 d H1v.out
    rw [← e2.out] at KK
    refine KK.mono ?_
    clear KK
    rintro e W2 ⟨rfl, h2, f2⟩
    try dsimp only at h2 ⊢
    have B2 := Lib.hid (B1v.out.trans f2)
    have K2 := Lib.hid (bk_fr K1v.out f2 hn0)
    have V2 := Lib.hid (bk_fr V1v.out f2 hn1)
    have H2 := Lib.hid h2
    have z2 := f2.size
    clear h2 f2
    have p2 := rr_cell0 H2.out
    have c2_0 : W2.cell? ⟨x1, 0, none⟩ = some (.int .i64 4) := cell_of V2.out 0 (by simp)
    have c2_1 : W2.cell? ⟨x1, 1, none⟩ = some (.string ⟨#[]⟩) := cell_of V2.out 1 (by simp)
    have c2_2 : W2.cell? ⟨x1, 2, none⟩ = some (.slice none 0 0) := cell_of V2.out 2 (by simp)
    have c2_3 : W2.cell? ⟨x1, 3, none⟩ = some (.slice none 0 0) := cell_of V2.out 3 (by simp)
    have c2_4 : W2.cell? ⟨x1, 4, none⟩ = some (.int .u8 0) := cell_of V2.out 4 (by simp)
    have fz2 : ∀ k, W2.frozen? ⟨x1, k, none⟩ = false := fun k => V2.out.frozen k
    have w2_4 := fz2 4
    obtain ⟨W2s, hW2s⟩ : ∃ x, Hid (x = (W2.setCell ⟨x1, 4, none⟩ (.int .u8 y2))) := ⟨_, Lib.hid rfl⟩
    have B2s : Hid (Fr (gq g q) (gq g q) w W2s) := by show Fr _ _ _ _; rw [hW2s.out]; exact (B2.out.set (p := ⟨x1, 4, none⟩) (.inr hxw1) (.int .u8 y2))
    have K2s : Hid (Bk W2s x0 57 #[.int .i64 0, .string ⟨#[]⟩, .slice none 0 0, .slice none 0 0, .int .u8 0]) := by show Bk _ _ _ _; rw [hW2s.out]; exact (K2.out.far (p := ⟨x1, 4, none⟩) hx01n (.int .u8 y2))
    have V2s : Hid (Bk W2s x1 57 #[.int .i64 4, .string ⟨#[]⟩, .slice none 0 0, .slice none 0 0, .int .u8 y2]) := by show Bk _ _ _ _; rw [hW2s.out]; simpa using (V2.out.set 4 (.int .u8 y2))
    have H2s : Hid (Rr W2s B g q s2 d) := by show Rr _ _ _ _ _ _; rw [hW2s.out]; exact (rr_set H2.out hxB1 4 (.int .u8 y2))
    have p2s := rr_cell0 H2s.out
    have d2_0 : W2s.cell? ⟨x1, 0, none⟩ = some (.int .i64 4) := cell_of V2s.out 0 (by simp)
    have d2_1 : W2s.cell? ⟨x1, 1, none⟩ = some (.string ⟨#[]⟩) := cell_of V2s.out 1 (by simp)
    have d2_2 : W2s.cell? ⟨x1, 2, none⟩ = some (.slice none 0 0) := cell_of V2s.out 2 (by simp)
    have d2_3 : W2s.cell? ⟨x1, 3, none⟩ = some (.slice none 0 0) := cell_of V2s.out 3 (by simp)
    have d2_4 : W2s.cell? ⟨x1, 4, none⟩ = some (.int .u8 y2) := cell_of V2s.out 4 (by simp)
    go_wp2_with fail
    rw [← hW2s.out]
    have KK := rl_mk W2s B g q s2 d H2s.out
    rw [← e3.out] at KK
    refine KK.mono ?_
    clear KK
    rintro e W3 ⟨vvm, rfl, rvm, h3, f3⟩
    try dsimp only at h3 rvm ⊢
    obtain ⟨Avm, cvm, rfl⟩ := rvm.form
    have Rvm3 : Hid (Ls W3 (fun k => x1 < k) (.slice Avm y3.length cvm) y3) := rvm.mono fun b hb _ => Nat.lt_of_lt_of_le V2s.out.lt hb
    clear rvm
    have B3 := Lib.hid (B2s.out.trans f3)
    have K3 := Lib.hid (bk_fr K2s.out f3 hn0)
    have V3 := Lib.hid (bk_fr V2s.out f3 hn1)
    have H3 := Lib.hid h3
    have z3 := f3.size
    clear h3 f3
    have p3 := rr_cell0 H3.out
    have c3_0 : W3.cell? ⟨x1, 0, none⟩ = some (.int .i64 4) := cell_of V3.out 0 (by simp)
    have c3_1 : W3.cell? ⟨x1, 1, none⟩ = some (.string ⟨#[]⟩) := cell_of V3.out 1 (by simp)
    have c3_2 : W3.cell? ⟨x1, 2, none⟩ = some (.slice none 0 0) := cell_of V3.out 2 (by simp)
    have c3_3 : W3.cell? ⟨x1, 3, none⟩ = some (.slice none 0 0) := cell_of V3.out 3 (by simp)
    have c3_4 : W3.cell? ⟨x1, 4, none⟩ = some (.int .u8 y2) := cell_of V3.out 4 (by simp)
    have fz3 : ∀ k, W3.frozen? ⟨x1, k, none⟩ = false := fun k => V3.out.frozen k
    have w3_3 := fz3 3
    obtain ⟨W3s, hW3s⟩ : ∃ x, Hid (x = (W3.setCell ⟨x1, 3, none⟩ (.slice Avm y3.length cvm))) := ⟨_, Lib.hid rfl⟩
    have B3s : Hid (Fr (gq g q) (gq g q) w W3s) := by show Fr _ _ _ _; rw [hW3s.out]; exact (B3.out.set (p := ⟨x1, 3, none⟩) (.inr hxw1) (.slice Avm y3.length cvm))
    have K3s : Hid (Bk W3s x0 57 #[.int .i64 0, .string ⟨#[]⟩, .slice none 0 0, .slice none 0 0, .int .u8 0]) := by show Bk _ _ _ _; rw [hW3s.out]; exact (K3.out.far (p := ⟨x1, 3, none⟩) hx01n (.slice Avm y3.length cvm))
    have V3s : Hid (Bk W3s x1 57 #[.int .i64 4, .string ⟨#[]⟩, .slice none 0 0, .slice Avm y3.length cvm, .int .u8 y2]) := by show Bk _ _ _ _; rw [hW3s.out]; simpa using (V3.out.set 3 (.slice Avm y3.length cvm))
    have H3s : Hid (Rr W3s B g q s3 d) := by show Rr _ _ _ _ _ _; rw [hW3s.out]; exact (rr_set H3.out hxB1 3 (.slice Avm y3.length cvm))
    have Qvm : Ls ((W3.setCell ⟨x1, 3, none⟩ (.slice Avm y3.length cvm))) (fun k => x1 < k) (.slice Avm y3.length cvm) y3 := (ls_set Rvm3.out (fun k hk => by omega) 3 (.slice Avm y3.length cvm))
    rw [← hW3s.out] at Qvm
    replace Rvm3 := Lib.hid Qvm
    clear Qvm
    have p3s := rr_cell0 H3s.out
    have d3_0 : W3s.cell? ⟨x1, 0, none⟩ = some (.int .i64 4) := cell_of V3s.out 0 (by simp)
    have d3_1 : W3s.cell? ⟨x1, 1, none⟩ = some (.string ⟨#[]⟩) := cell_of V3s.out 1 (by simp)
    have d3_2 : W3s.cell? ⟨x1, 2, none⟩ = some (.slice none 0 0) := cell_of V3s.out 2 (by simp)
    have d3_3 : W3s.cell? ⟨x1, 3, none⟩ = some (.slice Avm y3.length cvm) := cell_of V3s.out 3 (by simp)
    have d3_4 : W3s.cell? ⟨x1, 4, none⟩ = some (.int .u8 y2) := cell_of V3s.out 4 (by simp)
    have o0z : W3.cell? ⟨x0, 0, none⟩ = some (.int .i64 0) := cell_of K3.out 0 (by simp)
    have o0f : W3.frozen? ⟨x0, 0, none⟩ = false := K3.out.frozen 0
    have o1z : W3.cell? ⟨x0, 1, none⟩ = some (.string ⟨#[]⟩) := cell_of K3.out 1 (by simp)
    have o1f : W3.frozen? ⟨x0, 1, none⟩ = false := K3.out.frozen 1
    have o2z : W3.cell? ⟨x0, 2, none⟩ = some (.slice none 0 0) := cell_of K3.out 2 (by simp)
    have o2f : W3.frozen? ⟨x0, 2, none⟩ = false := K3.out.frozen 2
    have o3z : W3.cell? ⟨x0, 3, none⟩ = some (.slice none 0 0) := cell_of K3.out 3 (by simp)
    have o3f : W3.frozen? ⟨x0, 3, none⟩ = false := K3.out.frozen 3
    have o4z : W3.cell? ⟨x0, 4, none⟩ = some (.int .u8 0) := cell_of K3.out 4 (by simp)
    have o4f : W3.frozen? ⟨x0, 4, none⟩ = false := K3.out.frozen 4
    have hx0l : x0 < W3.heap.size := K3.out.lt
    obtain ⟨Wf, hWf⟩ : ∃ x, Hid (x = (((((W3s.setCell ⟨x0, 0, none⟩ (.int .i64 4)).setCell ⟨x0, 1, none⟩ (.string ⟨#[]⟩)).setCell ⟨x0, 2, none⟩ (.slice none 0 0)).setCell ⟨x0, 3, none⟩ (.slice Avm y3.length cvm)).setCell ⟨x0, 4, none⟩ (.int .u8 y2))) := ⟨_, Lib.hid rfl⟩
    have BF : Hid (Fr (gq g q) (gq g q) w Wf) := by show Fr _ _ _ _; rw [hWf.out]; exact (((((B3s.out.set (p := ⟨x0, 0, none⟩) (.inr hxw) (.int .i64 4)).set (p := ⟨x0, 1, none⟩) (.inr hxw) (.string ⟨#[]⟩)).set (p := ⟨x0, 2, none⟩) (.inr hxw) (.slice none 0 0)).set (p := ⟨x0, 3, none⟩) (.inr hxw) (.slice Avm y3.length cvm)).set (p := ⟨x0, 4, none⟩) (.inr hxw) (.int .u8 y2))
    have HF : Hid (Rr Wf B g q s3 d) := by show Rr _ _ _ _ _ _; rw [hWf.out]; exact (rr_set (rr_set (rr_set (rr_set (rr_set H3s.out hxB 0 (.int .i64 4)) hxB 1 (.string ⟨#[]⟩)) hxB 2 (.slice none 0 0)) hxB 3 (.slice Avm y3.length cvm)) hxB 4 (.int .u8 y2))
    have KF : Hid (Bk Wf x0 57 #[.int .i64 4, .string ⟨#[]⟩, .slice none 0 0, .slice Avm y3.length cvm, .int .u8 y2]) := by show Bk _ _ _ _; rw [hWf.out]; simpa using (((((K3s.out.set 0 (.int .i64 4)).set 1 (.string ⟨#[]⟩)).set 2 (.slice none 0 0)).set 3 (.slice Avm y3.length cvm)).set 4 (.int .u8 y2))
    have Lvm : Hid (Ls Wf (fun k => w.heap.size ≤ k) (.slice Avm y3.length cvm) y3) := by show Ls _ _ _ _; rw [hWf.out]; exact (ls_set (ls_set (ls_set (ls_set (ls_set Rvm3.out (fun k hk => by omega) 0 (.int .i64 4)) (fun k hk => by omega) 1 (.string ⟨#[]⟩)) (fun k hk => by omega) 2 (.slice none 0 0)) (fun k hk => by omega) 3 (.slice Avm y3.length cvm)) (fun k hk => by omega) 4 (.int .u8 y2)).mono fun b hb _ => by omega
    have o0 : Wf.cell? ⟨x0, 0, none⟩ = some (.int .i64 4) := cell_of KF.out 0 (by simp)
    have o1 : Wf.cell? ⟨x0, 1, none⟩ = some (.string ⟨#[]⟩) := cell_of KF.out 1 (by simp)
    have o2 : Wf.cell? ⟨x0, 2, none⟩ = some (.slice none 0 0) := cell_of KF.out 2 (by simp)
    have o3 : Wf.cell? ⟨x0, 3, none⟩ = some (.slice Avm y3.length cvm) := cell_of KF.out 3 (by simp)
    have o4 : Wf.cell? ⟨x0, 4, none⟩ = some (.int .u8 y2) := cell_of KF.out 4 (by simp)
    clear K3s V3s B3s H3s KF
    go_wp2
    try rw [← hW3s.out]
    try rw [← hWf.out]
    refine bodyPost_ret (v := .agg #[.int .i64 4, .string ⟨#[]⟩, .slice none 0 0, .slice Avm y3.length cvm, .int .u8 y2]) (by simp [results, Tryz.results82, go_sem, o0, o1, o2, o3, o4]) rfl ?_
    show RtokenT B g q w s d _ _
    unfold RtokenT
    rw [hR.out]
    exact ⟨_, _, rfl, Ls.nil _ _, Lvm.out, HF.out, BF.out⟩
  · have f1 : ((kk : Int) == 1) = false := by simpa using (by omega : ¬ (kk : Int) = 1)
    have f3 : ((kk : Int) == 3) = false := by simpa using (by omega : ¬ (kk : Int) = 3)
    have f4 : ((kk : Int) == 4) = false := by simpa using (by omega : ¬ (kk : Int) = 4)
    have hR : Hid (rTk s = (⟨kk, .empty, [], [], 0⟩, s1)) := by show _ = _; simp only [rTk, ← e1.out, rTkB]; rw [if_neg (by omega), if_neg k4]
    clear k1 k3 k4
    go_enter Tryz.func82, Tryz.ntmps82
    go_wp2_with fail
    rw [← hW0.out, ← hx0.out]
    have KK := kind_any W0 B g q s d H0.out 4 (by decide)
    rw [← e1.out] at KK
    refine KK.mono ?_
    clear KK
    rintro e W1 ⟨rfl, h1, f1⟩
    try dsimp only at h1 ⊢
    have B1 := Lib.hid (B0.out.trans f1)
    have K1 := Lib.hid (bk_fr K0.out f1 hn0)
    have H1 := Lib.hid h1
    have z1 := f1.size
    clear h1 f1
    have p1 := rr_cell0 H1.out
    obtain ⟨x1, hx1⟩ : ∃ x1, Hid (x1 = W1.heap.size) := ⟨_, Lib.hid rfl⟩
    obtain ⟨W1v, hW1v⟩ : ∃ x, Hid (x = W1.alloc (.cells #[.int .i64 (kk : Int), .string ⟨#[]⟩, .slice none 0 0, .slice none 0 0, .int .u8 0] 57)) := ⟨_, Lib.hid rfl⟩
    have hx01 : x0 < x1 := by rw [hx1.out]; exact K1.out.lt
    have hn1 : ¬ gq g q x1 := fun hh => by have := hlo.out _ hh; omega
    have HG1 : Hid (∀ k, x1 < k → ¬ gq g q k) := fun k hk hh => by have := hlo.out _ hh; omega
    have hxg : x1 ≠ g := fun e => hn1 (.inl e)
    have hgx : g ≠ x1 := fun e => hxg e.symm
    have hx10 : x1 ≠ x0 := by omega
    have hx01n : x0 ≠ x1 := by omega
    have hgl1 : g < W1.heap.size := H1.out.own g (.inl rfl)
    have B1v : Hid (Fr (gq g q) (gq g q) w W1v) := by show Fr _ _ _ _; rw [hW1v.out]; exact B1.out.alloc _
    have K1v : Hid (Bk W1v x0 57 #[.int .i64 0, .string ⟨#[]⟩, .slice none 0 0, .slice none 0 0, .int .u8 0]) := by show Bk _ _ _ _; rw [hW1v.out]; exact K1.out.alloc _
    have V1v : Hid (Bk W1v x1 57 #[.int .i64 (kk : Int), .string ⟨#[]⟩, .slice none 0 0, .slice none 0 0, .int .u8 0]) := by show Bk _ _ _ _; rw [hW1v.out, hx1.out]; exact Bk.new _ _ _
    have H1v : Hid (Rr W1v B g q s1 d) := by show Rr _ _ _ _ _ _; rw [hW1v.out]; exact H1.out.alloc _
    have pv := rr_cell0 H1v.out
    have cv_0 : W1v.cell? ⟨x1, 0, none⟩ = some (.int .i64 (kk : Int)) := cell_of V1v.out 0 (by simp)
    have cv_1 : W1v.cell? ⟨x1, 1, none⟩ = some (.string ⟨#[]⟩) := cell_of V1v.out 1 (by simp)
    have cv_2 : W1v.cell? ⟨x1, 2, none⟩ = some (.slice none 0 0) := cell_of V1v.out 2 (by simp)
    have cv_3 : W1v.cell? ⟨x1, 3, none⟩ = some (.slice none 0 0) := cell_of V1v.out 3 (by simp)
    have cv_4 : W1v.cell? ⟨x1, 4, none⟩ = some (.int .u8 0) := cell_of V1v.out 4 (by simp)
    have hxw1 : w.heap.size ≤ x1 := by omega
    have hxB1 : B ≤ x1 := by omega
    have hfv : ∀ k, W1v.frozen? ⟨x1, k, none⟩ = false := fun k => V1v.out.frozen k
    have o0z : W1.cell? ⟨x0, 0, none⟩ = some (.int .i64 0) := cell_of K1.out 0 (by simp)
    have o0f : W1.frozen? ⟨x0, 0, none⟩ = false := K1.out.frozen 0
    have o1z : W1.cell? ⟨x0, 1, none⟩ = some (.string ⟨#[]⟩) := cell_of K1.out 1 (by simp)
    have o1f : W1.frozen? ⟨x0, 1, none⟩ = false := K1.out.frozen 1
    have o2z : W1.cell? ⟨x0, 2, none⟩ = some (.slice none 0 0) := cell_of K1.out 2 (by simp)
    have o2f : W1.frozen? ⟨x0, 2, none⟩ = false := K1.out.frozen 2
    have o3z : W1.cell? ⟨x0, 3, none⟩ = some (.slice none 0 0) := cell_of K1.out 3 (by simp)
    have o3f : W1.frozen? ⟨x0, 3, none⟩ = false := K1.out.frozen 3
    have o4z : W1.cell? ⟨x0, 4, none⟩ = some (.int .u8 0) := cell_of K1.out 4 (by simp)
    have o4f : W1.frozen? ⟨x0, 4, none⟩ = false := K1.out.frozen 4
    have hx0l : x0 < W1.heap.size := K1.out.lt
    obtain ⟨Wf, hWf⟩ : ∃ x, Hid (x = ((((((W1.setCell ⟨x0, 0, none⟩ (.int .i64 (kk : Int))).setCell ⟨x0, 1, none⟩ (.string ⟨#[]⟩)).setCell ⟨x0, 2, none⟩ (.slice none 0 0)).setCell ⟨x0, 3, none⟩ (.slice none 0 0)).setCell ⟨x0, 4, none⟩ (.int .u8 0)).alloc (.cells #[.int .i64 (kk : Int), .string ⟨#[]⟩, .slice none 0 0, .slice none 0 0, .int .u8 0] 57))) := ⟨_, Lib.hid rfl⟩
    have BF : Hid (Fr (gq g q) (gq g q) w Wf) := by show Fr _ _ _ _; rw [hWf.out]; exact ((((((B1.out.set (p := ⟨x0, 0, none⟩) (.inr hxw) (.int .i64 (kk : Int))).set (p := ⟨x0, 1, none⟩) (.inr hxw) (.string ⟨#[]⟩)).set (p := ⟨x0, 2, none⟩) (.inr hxw) (.slice none 0 0)).set (p := ⟨x0, 3, none⟩) (.inr hxw) (.slice none 0 0)).set (p := ⟨x0, 4, none⟩) (.inr hxw) (.int .u8 0)).alloc _)
    have HF : Hid (Rr Wf B g q s1 d) := by show Rr _ _ _ _ _ _; rw [hWf.out]; exact ((rr_set (rr_set (rr_set (rr_set (rr_set H1.out hxB 0 (.int .i64 (kk : Int))) hxB 1 (.string ⟨#[]⟩)) hxB 2 (.slice none 0 0)) hxB 3 (.slice none 0 0)) hxB 4 (.int .u8 0)).alloc _)
    have KF : Hid (Bk Wf x0 57 #[.int .i64 (kk : Int), .string ⟨#[]⟩, .slice none 0 0, .slice none 0 0, .int .u8 0]) := by show Bk _ _ _ _; rw [hWf.out]; simpa using ((((((K1.out.set 0 (.int .i64 (kk : Int))).set 1 (.string ⟨#[]⟩)).set 2 (.slice none 0 0)).set 3 (.slice none 0 0)).set 4 (.int .u8 0)).alloc _)
    have o0 : Wf.cell? ⟨x0, 0, none⟩ = some (.int .i64 (kk : Int)) := cell_of KF.out 0 (by simp)
    have o1 : Wf.cell? ⟨x0, 1, none⟩ = some (.string ⟨#[]⟩) := cell_of KF.out 1 (by simp)
    have o2 : Wf.cell? ⟨x0, 2, none⟩ = some (.slice none 0 0) := cell_of KF.out 2 (by simp)
    have o3 : Wf.cell? ⟨x0, 3, none⟩ = some (.slice none 0 0) := cell_of KF.out 3 (by simp)
    have o4 : Wf.cell? ⟨x0, 4, none⟩ = some (.int .u8 0) := cell_of KF.out 4 (by simp)
    clear K1v V1v B1v H1v KF
    go_wp2
    try rw [← hWf.out]
    refine bodyPost_ret (v := .agg #[.int .i64 (kk : Int), .string ⟨#[]⟩, .slice none 0 0, .slice none 0 0, .int .u8 0]) (by simp [results, Tryz.results82, go_sem, o0, o1, o2, o3, o4]) rfl ?_
    show RtokenT B g q w s d _ _
    unfold RtokenT
    rw [hR.out]
    exact ⟨_, _, rfl, Ls.nil _ _, Ls.nil _ _, HF.out, BF.out⟩
end Go.Proofs.YtjajcecenflejaaGreat
