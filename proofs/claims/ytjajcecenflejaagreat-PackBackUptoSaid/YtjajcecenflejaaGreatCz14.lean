/- YtjajcecenflejaaGreatCz14 -/
import Derived.Test.YtjajcecenflejaaGreatCz13
namespace Go.Proofs.YtjajcecenflejaaGreat
open Go.RowKit
def RnodeTypeT (B g q : Nat) (w : World) (s : RS) (d : Int) (e : Ending) (w' : World) : Prop := ∃ vg va vm : Value, e = .returned (.agg #[.string (rTy s).1.n, .string (rTy s).1.c, vg, .bool (rTy s).1.i, va, vm]) ∧ Ls w' (fun k => w.heap.size ≤ k) vg (rTy s).1.g ∧ Ls w' (fun k => w.heap.size ≤ k) va (rTy s).1.a ∧ Ls w' (fun k => w.heap.size ≤ k) vm (rTy s).1.m ∧ Rr w' B g q (rTy s).2 d ∧ Fr (gq g q) (gq g q) w w'
set_option maxRecDepth 100000 in
set_option maxHeartbeats 4000000 in
theorem rnodeType_any (w : World) (B g q : Nat) (s : RS) (d : Int) (h : Rr w B g q s d) : Calls Tryz.prog 70 #[.pointer (some ⟨g, 0, none⟩)] w (RnodeTypeT B g q w s d) := by
  obtain ⟨⟨y1, s1⟩, e1⟩ : ∃ x, Hid (x = rT s) := ⟨_, Lib.hid rfl⟩
  obtain ⟨⟨y2, s2⟩, e2⟩ : ∃ x, Hid (x = rT s1) := ⟨_, Lib.hid rfl⟩
  obtain ⟨⟨y3, s3⟩, e3⟩ : ∃ x, Hid (x = (rL rT) s2) := ⟨_, Lib.hid rfl⟩
  obtain ⟨⟨y4, s4⟩, e4⟩ : ∃ x, Hid (x = rB s3) := ⟨_, Lib.hid rfl⟩
  obtain ⟨⟨y5, s5⟩, e5⟩ : ∃ x, Hid (x = (rL rSp) s4) := ⟨_, Lib.hid rfl⟩
  obtain ⟨⟨y6, s6⟩, e6⟩ : ∃ x, Hid (x = (rL rT) s5) := ⟨_, Lib.hid rfl⟩
  have hR : Hid (rTy s = (Ty.mk y1 y2 y3 y4 y5 y6, s6)) := by show _ = _; simp only [rTy, rS6, ← e1.out, ← e2.out, ← e3.out, ← e4.out, ← e5.out, ← e6.out]
  have hlo := Lib.hid h.lo
  have hbs := h.base
  obtain ⟨x0, hx0⟩ : ∃ x0, Hid (x0 = w.heap.size) := ⟨_, Lib.hid rfl⟩
  obtain ⟨W0, hW0⟩ : ∃ x, Hid (x = w.alloc (.cells #[.string ⟨#[]⟩, .string ⟨#[]⟩, .slice none 0 0, .bool false, .slice none 0 0, .slice none 0 0] 69)) := ⟨_, Lib.hid rfl⟩
  have H0 : Hid (Rr W0.drew B g q s d) := by show Rr _ _ _ _ _ _; rw [hW0.out]; exact (h.alloc _).drew
  have B0 : Hid (Fr (gq g q) (gq g q) w W0.drew) := by show Fr _ _ _ _; rw [hW0.out]; exact ((Fr.refl h.own).alloc _).drewN 1
  have K0 : Hid (Bk W0.drew x0 69 #[.string ⟨#[]⟩, .string ⟨#[]⟩, .slice none 0 0, .bool false, .slice none 0 0, .slice none 0 0]) := by show Bk _ _ _ _; rw [hW0.out, hx0.out]; exact (Bk.new _ _ _).drew
  have hnx : ¬ gq g q x0 := fun hh => by have := hlo.out _ hh; have := hx0.out; omega
  have hxB : B ≤ x0 := by rw [hx0.out]; exact hbs
  have hxw : w.heap.size ≤ x0 := by rw [hx0.out]; exact Nat.le_refl _
  have hx1 : Hid (x0 + 1 ≤ W0.drew.heap.size) := by show x0 + 1 ≤ W0.heap.size; rw [hW0.out, hx0.out]; simp
  have pw := rr_cell0 h
  have hgl : g < w.heap.size := h.own g (.inl rfl)
  have p0 : W0.drew.cell? ⟨g, 0, none⟩ = some (.pointer (some ⟨q, 0, none⟩)) := rr_cell0 H0.out
  have hgq : ∀ k, x0 < k → ¬ gq g q k := fun k hk hh => by have := hlo.out _ hh; omega
  have HGQ := Lib.hid hgq
  clear h hgq
  go_enter Tryz.func70, Tryz.ntmps70
  go_wp2_with fail
  rw [← hW0.out, ← hx0.out]
  refine wp_region_held_drew (S := fun W => W.cell? ⟨g, 0, none⟩ = some (.pointer (some ⟨q, 0, none⟩))) (by kernel_rfl) p0 (fun hHeld => ?_)
  refine wpAnyH_take (i := 0) (oi := ?o1) (v := ?v1) ?hi1 (by kernel_rfl) (by kernel_rfl) (by kernel_rfl) ?hq1 ?hy1 (by assumption) ?hr1
  case hi1 => (simp only [List.getElem?_toArray, List.getElem?_cons_zero]; exact rfl)
  case hq1 => exact fun _ _ _ h => h
  case hy1 => (refine Or.inl ⟨by rfl, ?_⟩; intro w hSw; (try dsimp only at hSw); go_simp; (try with_reducible rfl))
  try simp only [Act.put, List.setIfInBounds_toArray, List.set_cons_zero, List.set_cons_succ]
  refine wpAnyH_take (i := 1) (oi := ?o2) (v := ?v2) ?hi2 (by kernel_rfl) (by kernel_rfl) (by kernel_rfl) ?hq2 ?hy2 (by assumption) ?hr2
  case hi2 => (simp only [List.getElem?_toArray, List.getElem?_cons_succ, List.getElem?_cons_zero]; exact rfl)
  case hq2 => exact fun _ _ _ h => h
  case hy2 => (refine Or.inl ⟨by rfl, ?_⟩; intro w hSw; (try dsimp only at hSw); go_simp; (try with_reducible rfl))
  try simp only [Act.put, List.setIfInBounds_toArray, List.set_cons_zero, List.set_cons_succ]
  refine wpAnyH_take (i := 2) (oi := ?o3) (v := ?v3) ?hi3 (by kernel_rfl) (by kernel_rfl) (by kernel_rfl) ?hq3 ?hy3 (by assumption) ?hr3
  case hi3 => (simp only [List.getElem?_toArray, List.getElem?_cons_succ, List.getElem?_cons_zero]; exact rfl)
  case hq3 => exact fun _ _ _ h => h
  case hy3 => (refine Or.inl ⟨by rfl, ?_⟩; intro w hSw; (try dsimp only at hSw); go_simp; (try with_reducible rfl))
  try simp only [Act.put, List.setIfInBounds_toArray, List.set_cons_zero, List.set_cons_succ]
  refine wpAnyH_take (i := 3) (oi := ?o4) (v := ?v4) ?hi4 (by kernel_rfl) (by kernel_rfl) (by kernel_rfl) ?hq4 ?hy4 (by assumption) ?hr4
  case hi4 => (simp only [List.getElem?_toArray, List.getElem?_cons_succ, List.getElem?_cons_zero]; exact rfl)
  case hq4 => exact fun _ _ _ h => h
  case hy4 => (refine Or.inl ⟨by rfl, ?_⟩; intro w hSw; (try dsimp only at hSw); go_simp; (try with_reducible rfl))
  try simp only [Act.put, List.setIfInBounds_toArray, List.set_cons_zero, List.set_cons_succ]
  refine wpAnyH_take (i := 5) (oi := ?o5) (v := ?v5) ?hi5 (by kernel_rfl) (by kernel_rfl) (by kernel_rfl) ?hq5 ?hy5 (by assumption) ?hr5
  case hi5 => (simp only [List.getElem?_toArray, List.getElem?_cons_succ, List.getElem?_cons_zero]; exact rfl)
  case hq5 => exact fun _ _ _ h => h
  case hy5 => (refine Or.inl ⟨by rfl, ?_⟩; intro w hSw; (try dsimp only at hSw); go_simp; (try with_reducible rfl))
  try simp only [Act.put, List.setIfInBounds_toArray, List.set_cons_zero, List.set_cons_succ]
  refine wpAnyH_take (i := 6) (oi := ?o6) (v := ?v6) ?hi6 (by kernel_rfl) (by kernel_rfl) (by kernel_rfl) ?hq6 ?hy6 (by assumption) ?hr6
  case hi6 => (simp only [List.getElem?_toArray, List.getElem?_cons_succ, List.getElem?_cons_zero]; exact rfl)
  case hq6 => exact fun _ _ _ h => h
  case hy6 => (refine Or.inl ⟨by rfl, ?_⟩; intro w hSw; (try dsimp only at hSw); go_simp; (try with_reducible rfl))
  try simp only [Act.put, List.setIfInBounds_toArray, List.set_cons_zero, List.set_cons_succ]
  refine wpAnyH_take (i := 7) (oi := ?o7) (v := ?v7) ?hi7 (by kernel_rfl) (by kernel_rfl) (by kernel_rfl) ?hq7 ?hy7 (by assumption) ?hr7
  case hi7 => (simp only [List.getElem?_toArray, List.getElem?_cons_succ, List.getElem?_cons_zero]; exact rfl)
  case hq7 => exact fun _ _ _ h => h
  case hy7 => (refine Or.inl ⟨by rfl, ?_⟩; intro w hSw; (try dsimp only at hSw); go_simp; (try with_reducible rfl))
  try simp only [Act.put, List.setIfInBounds_toArray, List.set_cons_zero, List.set_cons_succ]
  refine wpAnyH_take (i := 8) (oi := ?o8) (v := ?v8) ?hi8 (by kernel_rfl) (by kernel_rfl) (by kernel_rfl) ?hq8 ?hy8 (by assumption) ?hr8
  case hi8 => (simp only [List.getElem?_toArray, List.getElem?_cons_succ, List.getElem?_cons_zero]; exact rfl)
  case hq8 => exact fun _ _ _ h => h
  case hy8 => (refine Or.inl ⟨by rfl, ?_⟩; intro w hSw; (try dsimp only at hSw); go_simp; (try with_reducible rfl))
  try simp only [Act.put, List.setIfInBounds_toArray, List.set_cons_zero, List.set_cons_succ]
  refine wpAnyH_take (i := 10) (oi := ?o9) (v := ?v9) ?hi9 (by kernel_rfl) (by kernel_rfl) (by kernel_rfl) ?hq9 ?hy9 (by assumption) ?hr9
  case hi9 => (simp only [List.getElem?_toArray, List.getElem?_cons_succ, List.getElem?_cons_zero]; exact rfl)
  case hq9 => exact fun _ _ _ h => h
  case hy9 => (refine Or.inl ⟨by rfl, ?_⟩; intro w hSw; (try dsimp only at hSw); go_simp; (try with_reducible rfl))
  try simp only [Act.put, List.setIfInBounds_toArray, List.set_cons_zero, List.set_cons_succ]
  refine wpAnyH_take (i := 11) (oi := ?o10) (v := ?v10) ?hi10 (by kernel_rfl) (by kernel_rfl) (by kernel_rfl) ?hq10 ?hy10 (by assumption) ?hr10
  case hi10 => (simp only [List.getElem?_toArray, List.getElem?_cons_succ, List.getElem?_cons_zero]; exact rfl)
  case hq10 => exact fun _ _ _ h => h
  case hy10 => (refine Or.inl ⟨by rfl, ?_⟩; intro w hSw; (try dsimp only at hSw); go_simp; (try with_reducible rfl))
  try simp only [Act.put, List.setIfInBounds_toArray, List.set_cons_zero, List.set_cons_succ]
  refine wpAnyH_take (i := 13) (oi := ?o11) (v := ?v11) ?hi11 (by kernel_rfl) (by kernel_rfl) (by kernel_rfl) ?hq11 ?hy11 (by assumption) ?hr11
  case hi11 => (simp only [List.getElem?_toArray, List.getElem?_cons_succ, List.getElem?_cons_zero]; exact rfl)
  case hq11 => exact fun _ _ _ h => h
  case hy11 => (refine Or.inl ⟨by rfl, ?_⟩; intro w hSw; (try dsimp only at hSw); go_simp; (try with_reducible rfl))
  try simp only [Act.put, List.setIfInBounds_toArray, List.set_cons_zero, List.set_cons_succ]
  refine wpAnyH_take (i := 15) (oi := ?o12) (v := ?v12) ?hi12 (by kernel_rfl) (by kernel_rfl) (by kernel_rfl) ?hq12 ?hy12 (by assumption) ?hr12
  case hi12 => (simp only [List.getElem?_toArray, List.getElem?_cons_succ, List.getElem?_cons_zero]; exact rfl)
  case hq12 => exact fun _ _ _ h => h
  case hy12 => (refine Or.inl ⟨by rfl, ?_⟩; intro w hSw; (try dsimp only at hSw); go_simp; (try with_reducible rfl))
  try simp only [Act.put, List.setIfInBounds_toArray, List.set_cons_zero, List.set_cons_succ]
  refine wpAnyH_take (i := 17) (oi := ?o13) (v := ?v13) ?hi13 (by kernel_rfl) (by kernel_rfl) (by kernel_rfl) ?hq13 ?hy13 (by assumption) ?hr13
  case hi13 => (simp only [List.getElem?_toArray, List.getElem?_cons_succ, List.getElem?_cons_zero]; exact rfl)
  case hq13 => exact fun _ _ _ h => h
  case hy13 => (refine Or.inl ⟨by rfl, ?_⟩; intro w hSw; (try dsimp only at hSw); go_simp; (try with_reducible rfl))
  try simp only [Act.put, List.setIfInBounds_toArray, List.set_cons_zero, List.set_cons_succ]
  refine wpAnyH_take (i := 18) (oi := ?o14) (v := ?v14) ?hi14 (by kernel_rfl) (by kernel_rfl) (by kernel_rfl) ?hq14 ?hy14 (by assumption) ?hr14
  case hi14 => (simp only [List.getElem?_toArray, List.getElem?_cons_succ, List.getElem?_cons_zero]; exact rfl)
  case hq14 => exact fun _ _ _ h => h
  case hy14 => (refine Or.inl ⟨by rfl, ?_⟩; intro w hSw; (try dsimp only at hSw); go_simp; (try with_reducible rfl))
  try simp only [Act.put, List.setIfInBounds_toArray, List.set_cons_zero, List.set_cons_succ]
  refine wpAnyH_ready (rs := [4]) (by kernel_rfl) (by simp) ?_
  refine AllReadyH.cons (o := ?o15) ?hi15 (fun K hK => ?hk15) ?hr15
  case hi15 => (simp only [List.getElem?_toArray, List.getElem?_cons_succ, List.getElem?_cons_zero]; exact rfl)
  case hr15 => exact AllReadyH.nil
  go_simp
  ((try go_at_call 59); have KK := rpiece_any W0.drew B g q s d H0.out; rw [← e1.out] at KK; refine KK.mono ?_; clear KK; rintro e W1 ⟨rfl, h1, f1⟩; dsimp only at h1 ⊢; have z1 : Hid (W0.drew.heap.size ≤ W1.heap.size) := f1.size; have B1 := Lib.hid (B0.out.trans f1); have K1 := Lib.hid (bk_fr K0.out f1 hnx); have H1 := Lib.hid h1; have p1 := rr_cell0 h1; clear h1 f1; refine hK _ _ p1 (fun hHeld => ?_))
  clear hK K
  try simp only [Act.put, List.setIfInBounds_toArray, List.set_cons_zero, List.set_cons_succ]
  refine wpAnyH_ready (rs := [9]) (by kernel_rfl) (by simp) ?_
  refine AllReadyH.cons (o := ?o16) ?hi16 (fun K hK => ?hk16) ?hr16
  case hi16 => (simp only [List.getElem?_toArray, List.getElem?_cons_succ, List.getElem?_cons_zero]; exact rfl)
  case hr16 => exact AllReadyH.nil
  go_simp
  ((try go_at_call 59); have KK := rpiece_any W1 B g q s1 d H1.out; rw [← e2.out] at KK; refine KK.mono ?_; clear KK; rintro e W2 ⟨rfl, h2, f2⟩; dsimp only at h2 ⊢; have z2 : Hid (W0.drew.heap.size ≤ W2.heap.size) := Nat.le_trans z1.out f2.size; have B2 := Lib.hid (B1.out.trans f2); have K2 := Lib.hid (bk_fr K1.out f2 hnx); have H2 := Lib.hid h2; have p2 := rr_cell0 h2; clear h2 f2; refine hK _ _ p2 (fun hHeld => ?_))
  clear hK K
  try simp only [Act.put, List.setIfInBounds_toArray, List.set_cons_zero, List.set_cons_succ]
  refine wpAnyH_ready (rs := [12]) (by kernel_rfl) (by simp) ?_
  refine AllReadyH.cons (o := ?o17) ?hi17 (fun K hK => ?hk17) ?hr17
  case hi17 => (simp only [List.getElem?_toArray, List.getElem?_cons_succ, List.getElem?_cons_zero]; exact rfl)
  case hr17 => exact AllReadyH.nil
  go_simp
  ((try go_at_call 93); have KK := rl_s W2 B g q s2 d H2.out; rw [← e3.out] at KK; refine KK.mono ?_; clear KK; rintro e W3 ⟨vg, rfl, rg, h3, f3⟩; dsimp only at h3 rg ⊢; obtain ⟨Ag, cg, rfl⟩ := rg.form; have Rg3 : Hid (Ls W3 (fun k => x0 < k) _ y3) := rg.mono fun b hb _ => Nat.lt_of_lt_of_le (Nat.lt_of_succ_le hx1.out) (Nat.le_trans z2.out hb); clear rg; have z3 : Hid (W0.drew.heap.size ≤ W3.heap.size) := Nat.le_trans z2.out f3.size; have B3 := Lib.hid (B2.out.trans f3); have K3 := Lib.hid (bk_fr K2.out f3 hnx); have H3 := Lib.hid h3; have p3 := rr_cell0 h3; clear h3 f3; refine hK _ _ p3 (fun hHeld => ?_))
  clear hK K
  try simp only [Act.put, List.setIfInBounds_toArray, List.set_cons_zero, List.set_cons_succ]
  refine wpAnyH_ready (rs := [14]) (by kernel_rfl) (by simp) ?_
  refine AllReadyH.cons (o := ?o18) ?hi18 (fun K hK => ?hk18) ?hr18
  case hi18 => (simp only [List.getElem?_toArray, List.getElem?_cons_succ, List.getElem?_cons_zero]; exact rfl)
  case hr18 => exact AllReadyH.nil
  go_simp
  ((try go_at_call 94); have KK := truth_any W3 B g q s3 d H3.out; rw [← e4.out] at KK; refine KK.mono ?_; clear KK; rintro e W4 ⟨rfl, h4, f4⟩; dsimp only at h4 ⊢; have Rg4 := Lib.hid (Rg3.out.keep (f4.kept HGQ.out)); have z4 : Hid (W0.drew.heap.size ≤ W4.heap.size) := Nat.le_trans z3.out f4.size; have B4 := Lib.hid (B3.out.trans f4); have K4 := Lib.hid (bk_fr K3.out f4 hnx); have H4 := Lib.hid h4; have p4 := rr_cell0 h4; clear h4 f4; refine hK _ _ p4 (fun hHeld => ?_))
  clear hK K
  try simp only [Act.put, List.setIfInBounds_toArray, List.set_cons_zero, List.set_cons_succ]
  refine wpAnyH_ready (rs := [16]) (by kernel_rfl) (by simp) ?_
  refine AllReadyH.cons (o := ?o19) ?hi19 (fun K hK => ?hk19) ?hr19
  case hi19 => (simp only [List.getElem?_toArray, List.getElem?_cons_succ, List.getElem?_cons_zero]; exact rfl)
  case hr19 => exact AllReadyH.nil
  go_simp
  ((try go_at_call 95); have KK := rl_sp W4 B g q s4 d H4.out; rw [← e5.out] at KK; refine KK.mono ?_; clear KK; rintro e W5 ⟨va, rfl, ra, h5, f5⟩; dsimp only at h5 ra ⊢; obtain ⟨Aa, ca, rfl⟩ := ra.form; have Ra5 : Hid (Ls W5 (fun k => x0 < k) _ y5) := ra.mono fun b hb _ => Nat.lt_of_lt_of_le (Nat.lt_of_succ_le hx1.out) (Nat.le_trans z4.out hb); clear ra; have Rg5 := Lib.hid (Rg4.out.keep (f5.kept HGQ.out)); have z5 : Hid (W0.drew.heap.size ≤ W5.heap.size) := Nat.le_trans z4.out f5.size; have B5 := Lib.hid (B4.out.trans f5); have K5 := Lib.hid (bk_fr K4.out f5 hnx); have H5 := Lib.hid h5; have p5 := rr_cell0 h5; clear h5 f5; refine hK _ _ p5 (fun hHeld => ?_))
  clear hK K
  try simp only [Act.put, List.setIfInBounds_toArray, List.set_cons_zero, List.set_cons_succ]
  refine wpAnyH_ready (rs := [19]) (by kernel_rfl) (by simp) ?_
  refine AllReadyH.cons (o := ?o20) ?hi20 (fun K hK => ?hk20) ?hr20
  case hi20 => (simp only [List.getElem?_toArray, List.getElem?_cons_succ, List.getElem?_cons_zero]; exact rfl)
  case hr20 => exact AllReadyH.nil
  go_simp
  ((try go_at_call 93); have KK := rl_s W5 B g q s5 d H5.out; rw [← e6.out] at KK; refine KK.mono ?_; clear KK; rintro e W6 ⟨vm, rfl, rm, h6, f6⟩; dsimp only at h6 rm ⊢; obtain ⟨Am, cm, rfl⟩ := rm.form; have Rm6 : Hid (Ls W6 (fun k => x0 < k) _ y6) := rm.mono fun b hb _ => Nat.lt_of_lt_of_le (Nat.lt_of_succ_le hx1.out) (Nat.le_trans z5.out hb); clear rm; have Rg6 := Lib.hid (Rg5.out.keep (f6.kept HGQ.out)); have Ra6 := Lib.hid (Ra5.out.keep (f6.kept HGQ.out)); have z6 : Hid (W0.drew.heap.size ≤ W6.heap.size) := Nat.le_trans z5.out f6.size; have B6 := Lib.hid (B5.out.trans f6); have K6 := Lib.hid (bk_fr K5.out f6 hnx); have H6 := Lib.hid h6; have p6 := rr_cell0 h6; clear h6 f6; have t0 : W6.cell? ⟨x0, 0, none⟩ = some (.string ⟨#[]⟩) := cell_of K6.out 0 rfl; have u0 := K6.out.frozen 0; have t1 : W6.cell? ⟨x0, 1, none⟩ = some (.string ⟨#[]⟩) := cell_of K6.out 1 rfl; have u1 := K6.out.frozen 1; have t2 : W6.cell? ⟨x0, 2, none⟩ = some (.slice none 0 0) := cell_of K6.out 2 rfl; have u2 := K6.out.frozen 2; have t3 : W6.cell? ⟨x0, 3, none⟩ = some (.bool false) := cell_of K6.out 3 rfl; have u3 := K6.out.frozen 3; have t4 : W6.cell? ⟨x0, 4, none⟩ = some (.slice none 0 0) := cell_of K6.out 4 rfl; have u4 := K6.out.frozen 4; have t5 : W6.cell? ⟨x0, 5, none⟩ = some (.slice none 0 0) := cell_of K6.out 5 rfl; have u5 := K6.out.frozen 5; refine hK _ _ p6 (fun hHeld => ?_))
  clear hK K
  try simp only [Act.put, List.setIfInBounds_toArray, List.set_cons_zero, List.set_cons_succ]
  refine wpAnyH_take (i := 20) (oi := ?o21) (v := ?v21) ?hi21 (by kernel_rfl) (by kernel_rfl) (by kernel_rfl) ?hq21 ?hy21 (by assumption) ?hr21
  case hi21 => (simp only [List.getElem?_toArray, List.getElem?_cons_succ, List.getElem?_cons_zero]; exact rfl)
  case hq21 => exact fun _ _ _ h => h
  case hy21 => (refine Or.inl ⟨by rfl, ?_⟩; intro w hSw; (try dsimp only at hSw); go_simp; (try with_reducible rfl))
  try simp only [Act.put, List.setIfInBounds_toArray, List.set_cons_zero, List.set_cons_succ]
  refine wpAnyH_ready (rs := [21]) (by kernel_rfl) (by simp) ?_
  refine AllReadyH.cons (o := ?o22) ?hi22 (fun K hK => ?hk22) ?hr22
  case hi22 => (simp only [List.getElem?_toArray, List.getElem?_cons_succ, List.getElem?_cons_zero]; exact rfl)
  case hr22 => exact AllReadyH.nil
  go_simp
  (refine hK _ _ (rr_cell0 (rr_set (rr_set (rr_set (rr_set (rr_set (rr_set H6.out hxB 0 (.string y1)) hxB 1 (.string y2)) hxB 2 (.slice Ag y3.length cg)) hxB 3 (.bool y4)) hxB 4 (.slice Aa y5.length ca)) hxB 5 (.slice Am y6.length cm))) (fun hHeld => ?_))
  clear hK K
  try simp only [Act.put, List.setIfInBounds_toArray, List.set_cons_zero, List.set_cons_succ]
  refine wpAnyH_done (by kernel_rfl) ?_ _
  all_goals
    obtain ⟨Wf, hWf⟩ : ∃ x, Hid (x = ((((((W6.setCell ⟨x0, 0, none⟩ (.string y1)).setCell ⟨x0, 1, none⟩ (.string y2)).setCell ⟨x0, 2, none⟩ (.slice Ag y3.length cg)).setCell ⟨x0, 3, none⟩ (.bool y4)).setCell ⟨x0, 4, none⟩ (.slice Aa y5.length ca)).setCell ⟨x0, 5, none⟩ (.slice Am y6.length cm))) := ⟨_, Lib.hid rfl⟩
    have BF : Hid (Fr (gq g q) (gq g q) w Wf) := by show Fr _ _ _ _; rw [hWf.out]; exact ((((((B6.out.set (p := ⟨x0, 0, none⟩) (.inr hxw) (.string y1)).set (p := ⟨x0, 1, none⟩) (.inr hxw) (.string y2)).set (p := ⟨x0, 2, none⟩) (.inr hxw) (.slice Ag y3.length cg)).set (p := ⟨x0, 3, none⟩) (.inr hxw) (.bool y4)).set (p := ⟨x0, 4, none⟩) (.inr hxw) (.slice Aa y5.length ca)).set (p := ⟨x0, 5, none⟩) (.inr hxw) (.slice Am y6.length cm))
    have HF : Hid (Rr Wf B g q s6 d) := by show Rr _ _ _ _ _ _; rw [hWf.out]; exact (rr_set (rr_set (rr_set (rr_set (rr_set (rr_set H6.out hxB 0 (.string y1)) hxB 1 (.string y2)) hxB 2 (.slice Ag y3.length cg)) hxB 3 (.bool y4)) hxB 4 (.slice Aa y5.length ca)) hxB 5 (.slice Am y6.length cm))
    have KF : Hid (Bk Wf x0 69 #[.string y1, .string y2, .slice Ag y3.length cg, .bool y4, .slice Aa y5.length ca, .slice Am y6.length cm]) := by show Bk _ _ _ _; rw [hWf.out]; simpa using ((((((K6.out.set 0 (.string y1)).set 1 (.string y2)).set 2 (.slice Ag y3.length cg)).set 3 (.bool y4)).set 4 (.slice Aa y5.length ca)).set 5 (.slice Am y6.length cm))
    have Lg : Hid (Ls Wf (fun k => w.heap.size ≤ k) (.slice Ag y3.length cg) y3) := by show Ls _ _ _ _; rw [hWf.out]; exact (ls_set (ls_set (ls_set (ls_set (ls_set (ls_set Rg6.out (fun k hk => by omega) 0 (.string y1)) (fun k hk => by omega) 1 (.string y2)) (fun k hk => by omega) 2 (.slice Ag y3.length cg)) (fun k hk => by omega) 3 (.bool y4)) (fun k hk => by omega) 4 (.slice Aa y5.length ca)) (fun k hk => by omega) 5 (.slice Am y6.length cm)).mono fun b hb _ => by omega
    have La : Hid (Ls Wf (fun k => w.heap.size ≤ k) (.slice Aa y5.length ca) y5) := by show Ls _ _ _ _; rw [hWf.out]; exact (ls_set (ls_set (ls_set (ls_set (ls_set (ls_set Ra6.out (fun k hk => by omega) 0 (.string y1)) (fun k hk => by omega) 1 (.string y2)) (fun k hk => by omega) 2 (.slice Ag y3.length cg)) (fun k hk => by omega) 3 (.bool y4)) (fun k hk => by omega) 4 (.slice Aa y5.length ca)) (fun k hk => by omega) 5 (.slice Am y6.length cm)).mono fun b hb _ => by omega
    have Lm : Hid (Ls Wf (fun k => w.heap.size ≤ k) (.slice Am y6.length cm) y6) := by show Ls _ _ _ _; rw [hWf.out]; exact (ls_set (ls_set (ls_set (ls_set (ls_set (ls_set Rm6.out (fun k hk => by omega) 0 (.string y1)) (fun k hk => by omega) 1 (.string y2)) (fun k hk => by omega) 2 (.slice Ag y3.length cg)) (fun k hk => by omega) 3 (.bool y4)) (fun k hk => by omega) 4 (.slice Aa y5.length ca)) (fun k hk => by omega) 5 (.slice Am y6.length cm)).mono fun b hb _ => by omega
    have o0 : Wf.cell? ⟨x0, 0, none⟩ = some (.string y1) := by have := KF.out.cell 0; simpa using this
    have o1 : Wf.cell? ⟨x0, 1, none⟩ = some (.string y2) := by have := KF.out.cell 1; simpa using this
    have o2 : Wf.cell? ⟨x0, 2, none⟩ = some (.slice Ag y3.length cg) := by have := KF.out.cell 2; simpa using this
    have o3 : Wf.cell? ⟨x0, 3, none⟩ = some (.bool y4) := by have := KF.out.cell 3; simpa using this
    have o4 : Wf.cell? ⟨x0, 4, none⟩ = some (.slice Aa y5.length ca) := by have := KF.out.cell 4; simpa using this
    have o5 : Wf.cell? ⟨x0, 5, none⟩ = some (.slice Am y6.length cm) := by have := KF.out.cell 5; simpa using this
    clear B0 K0 H0 B1 K1 H1 B2 K2 H2 B3 K3 H3 B4 K4 H4 B5 K5 H5 B6 K6 H6 KF
    go_wp2
    try rw [← hWf.out]
    refine bodyPost_ret (v := .agg #[.string y1, .string y2, .slice Ag y3.length cg, .bool y4, .slice Aa y5.length ca, .slice Am y6.length cm]) (by simp [results, Tryz.results70, go_sem, o0, o1, o2, o3, o4, o5]) rfl ?_
    unfold RnodeTypeT
    rw [hR.out]
    exact ⟨_, _, _, rfl, Lg.out, La.out, Lm.out, HF.out, BF.out⟩
theorem info_ty : (Tryz.prog.info? 69).map (fun i => (i.zero, i.size, i.bytes)) = some (some (.agg #[.string .empty, .string .empty, .slice none 0 0, .bool false, .slice none 0 0, .slice none 0 0]), 6, 112) := by kernel_rfl
set_option maxRecDepth 100000 in
set_option maxHeartbeats 2000000 in
theorem rl_ty (w : World) (B g q : Nat) (s : RS) (d : Int) (h : Rr w B g q s d) :
    Calls Tryz.prog 69 #[.pointer (some ⟨g, 0, none⟩), .func (.func 70) #[] #[]] w (RlT B g q w (rL rTy s) d) := by
  have hN := rU_le 65536 3 s
  have HL : Hid (rL rTy s = rLoop rTy (rU 65536 3 s).1 [] (rU 65536 3 s).2) := rfl
  have HU := Lib.hid (upTo_any w B g q s d h 65536 3 (by decide))
  obtain ⟨⟨N, s1⟩, hr⟩ : ∃ x, x = rU 65536 3 s := ⟨_, rfl⟩
  rw [← hr] at hN HL HU
  clear hr
  simp only at hN
  obtain ⟨R, hR⟩ : ∃ x, Hid (x = rL rTy s) := ⟨_, Lib.hid rfl⟩
  rw [← hR.out]
  have HR : Hid (R = rLoop rTy N [] s1) := hR.out.trans HL.out
  have hlo := Lib.hid h.lo
  have hbs := h.base
  clear hR HL h
  go_enter Tryz.func69, Tryz.ntmps69
  go_wp2_with fail
  refine HU.out.mono ?_
  rintro e w1 ⟨rfl, h1, f1⟩
  have H1 := Lib.hid h1
  have F1 := Lib.hid f1
  clear h1 f1 HU
  go_wp2
  go_loopg [5, 8] N (fun n s5 s8 wk => ∃ (k : Nat) (v5 : Value) (acc : List Ty) (st : RS), k ≤ N ∧ n = N - k ∧ s5 = v5 ∧ s8 = .int .i64 k ∧ Hid (Rw wk w.heap.size 69 v5 k acc) ∧ Hid (Rr wk B g q st d) ∧ Hid (Fr (gq g q) (gq g q) w wk) ∧ Hid (R = rLoop rTy (N - k) acc st))
  case atStart => exact ⟨0, _, [], s1, Nat.zero_le _, by omega, rfl, rfl, Rw.none _ _ _, H1.out, F1.out, HR.out⟩
  case round =>
    obtain ⟨k, v5, acc, st, hk, hn, h5, rfl, hrw, hrr, hfr, hres⟩ := hrel
    have h5 := h5.symm
    subst h5
    have HG := Lib.hid hn
    clear hn HR H1 F1
    by_cases hlt : k < N
    · have hi1 : (k : Int) < (N : Int) := by omega
      obtain ⟨m, hm⟩ : ∃ m, Hid (N - k = m + 1) := ⟨N - k - 1, by show _ = _; omega⟩
      have hm2 : Hid (N - (k + 1) = m) := by show _ = _; have := hm.out; omega
      go_wp2_with fail
      refine (well_any wr B g q st d hrr.out).mono ?_
      rintro e w' ⟨rfl, rfl⟩
      by_cases hw : st.n = 0 ∧ st.f = 0
      · have hwt : decide (st.n = 0 ∧ st.f = 0) = true := by simpa using hw
        have hnext : Hid (R = rLoop rTy m (acc ++ [(rTy st).1]) (rTy st).2) := by show _ = _; rw [hres.out, hm.out, rLoop, if_pos hw]
        rw [hwt]
        clear hres hw hwt
        obtain ⟨⟨y, st2⟩, hy⟩ : ∃ x, x = rTy st := ⟨_, rfl⟩
        have HE := rnodeType_any wr B g q st d hrr.out
        unfold RnodeTypeT at HE; rw [← hy] at hnext HE
        have HE := Lib.hid HE
        clear hy
        go_wp2_with fail
        refine HE.out.mono ?_
        rintro e w2 ⟨vg, va, vm, rfl, rvg, rva, rvm, hr1, hf1⟩
        try dsimp only at hr1 rvg rva rvm
        obtain ⟨Avg, cvg, rfl⟩ := rvg.form
        obtain ⟨Ava, cva, rfl⟩ := rva.form
        obtain ⟨Avm, cvm, rfl⟩ := rvm.form
        have hce : Hid (Cs w2 (fun x => wr.heap.size ≤ x) [.string y.n, .string y.c, .slice Avg y.g.length cvg, .bool y.i, .slice Ava y.a.length cva, .slice Avm y.m.length cvm] (Cl.c y)) := by show Cs _ _ _ _; exact Cs.cons (.v _ rfl) (Cs.cons (.v _ rfl) (Cs.cons rvg (Cs.cons (.v _ rfl) (Cs.cons rva (Cs.cons rvm (Cs.nil))))))
        have hrw2 := hrw.out.fr hf1 fun x hx => Nat.lt_of_lt_of_le (hlo.out x hx) hbs
        have hle : w.heap.size ≤ wr.heap.size := hfr.out.size
        have hle2 : wr.heap.size ≤ w2.heap.size := hf1.size
        have HR2 := Lib.hid hr1
        have HF2 := Lib.hid (hfr.out.trans hf1)
        obtain ⟨cs, ho, hcc⟩ := hrw2.ex
        have hvlt : ∀ x, v5.ownBlock = some x → x < wr.heap.size := fun x hx => by
          obtain ⟨cs', ho', _⟩ := hrw.out.ex
          exact (World.ownsRow.lt ho' x hx).2
        have HV := Lib.hid hvlt
        have HRW := Lib.hid hrw2
        have HCC := Lib.hid hcc
        have HO := Lib.hid ho
        clear hr1 hf1 hrr hfr hrw hrw2 hcc hvlt ho HE rvg rva rvm
        go_wp2_with (at_builtin; refine wpList_appR _ rfl _ _ 28 69 rfl _ 6 112 Tryz.underlying28 info_ty rfl (by decide) w.heap.size rfl rfl (World.ownsRow.alloc HO.out _) (Rd.lit w2 69 6 1 #[.string y.n, .string y.c, .slice Avg y.g.length cvg, .bool y.i, .slice Ava y.a.length cva, .slice Avm y.m.length cvm] (0, 0) rfl (by omega)) (by simp [Value.oneCell']) ?_ ?_ ?_ ?_)
        · unfold maxLen; omega
        · omega
        · simp; omega
        intro v' w4 ho4 hg4 hat
        have hal : Below w2.heap.size w2 (w2.alloc (.cells #[.string y.n, .string y.c, .slice Avg y.g.length cvg, .bool y.i, .slice Ava y.a.length cva, .slice Avm y.m.length cvm] 69)) := (Below.refl _ _).alloc (Nat.le_refl _) _
        have H4 : Hid (Rw w4 w.heap.size 69 v' (k + 1) (acc ++ [y])) := by
          refine Rw.more (w := w2.alloc (.cells #[.string y.n, .string y.c, .slice Avg y.g.length cvg, .bool y.i, .slice Ava y.a.length cva, .slice Avm y.m.length cvm] 69)) (N := wr.heap.size) (HRW.out.all hal) (hce.out.keep (.below hal)) HV.out hle (HCC.out.keep (.below hal)) (by show World.ownsRow w4 w.heap.size _ 6 _ _ _; simpa using ho4) hg4 (by simpa using hat)
        have R4 : Hid (Rr w4 B g q st2 d) := (HR2.out.all hal).grown hg4 fun x hx => Nat.le_trans hbs (World.ownsRow.lt HO.out x hx).1
        have F4 : Hid (Fr (gq g q) (gq g q) w w4) := (HF2.out.alloc _).grown hg4 fun x hx => .inr (World.ownsRow.lt HO.out x hx).1
        clear ho4 hg4 hat HRW HCC HR2 HF2 HO hal HV hce
        go_wp2
        go_roundg (N - (k + 1))
        case measure => have := HG.out; omega
        case rel => exact ⟨k + 1, v', acc ++ [y], st2, by omega, rfl, rfl, by go_num, H4, R4, F4, by show _ = _; rw [hm2.out]; exact hnext.out⟩
      · have hwt : decide (st.n = 0 ∧ st.f = 0) = false := by simpa using hw
        have hend : Hid (R = ([], st)) := by show _ = _; rw [hres.out, hm.out, rLoop, if_neg hw]
        rw [hwt]
        clear hres hw hwt
        go_wp2
        go_ret
        exact ⟨_, rfl, by rw [hend.out]; exact Ls.nil _ _, by rw [hend.out]; exact hrr.out, hfr.out⟩
    · have hi1 : ¬ (k : Int) < (N : Int) := by omega
      have hend : Hid (R = (acc, st)) := by show _ = _; rw [hres.out, show N - k = 0 by omega, rLoop]
      go_wp2
      go_ret
      exact ⟨_, rfl, by rw [hend.out]; exact hrw.out.ls, by rw [hend.out]; exact hrr.out, hfr.out⟩
def RmarkTypeT (B g q : Nat) (w : World) (s : RS) (d : Int) (e : Ending) (w' : World) : Prop := ∃ ve va : Value, e = .returned (.agg #[.string (rMt s).1.n, ve, va]) ∧ Ls w' (fun k => w.heap.size ≤ k) ve (rMt s).1.e ∧ Ls w' (fun k => w.heap.size ≤ k) va (rMt s).1.a ∧ Rr w' B g q (rMt s).2 d ∧ Fr (gq g q) (gq g q) w w'
set_option maxRecDepth 100000 in
set_option maxHeartbeats 4000000 in
theorem rmarkType_any (w : World) (B g q : Nat) (s : RS) (d : Int) (h : Rr w B g q s d) : Calls Tryz.prog 72 #[.pointer (some ⟨g, 0, none⟩)] w (RmarkTypeT B g q w s d) := by
  obtain ⟨⟨y1, s1⟩, e1⟩ : ∃ x, Hid (x = rT s) := ⟨_, Lib.hid rfl⟩
  obtain ⟨⟨y2, s2⟩, e2⟩ : ∃ x, Hid (x = (rL rT) s1) := ⟨_, Lib.hid rfl⟩
  obtain ⟨⟨y3, s3⟩, e3⟩ : ∃ x, Hid (x = (rL rSp) s2) := ⟨_, Lib.hid rfl⟩
  have hR : Hid (rMt s = (Mt.mk y1 y2 y3, s3)) := by show _ = _; simp only [rMt, rS3, ← e1.out, ← e2.out, ← e3.out]
  have hlo := Lib.hid h.lo
  have hbs := h.base
  obtain ⟨x0, hx0⟩ : ∃ x0, Hid (x0 = w.heap.size) := ⟨_, Lib.hid rfl⟩
  obtain ⟨W0, hW0⟩ : ∃ x, Hid (x = w.alloc (.cells #[.string ⟨#[]⟩, .slice none 0 0, .slice none 0 0] 71)) := ⟨_, Lib.hid rfl⟩
  have H0 : Hid (Rr W0 B g q s d) := by show Rr _ _ _ _ _ _; rw [hW0.out]; exact (h.alloc _)
  have B0 : Hid (Fr (gq g q) (gq g q) w W0) := by show Fr _ _ _ _; rw [hW0.out]; exact ((Fr.refl h.own).alloc _)
  have K0 : Hid (Bk W0 x0 71 #[.string ⟨#[]⟩, .slice none 0 0, .slice none 0 0]) := by show Bk _ _ _ _; rw [hW0.out, hx0.out]; exact (Bk.new _ _ _)
  have hnx : ¬ gq g q x0 := fun hh => by have := hlo.out _ hh; have := hx0.out; omega
  have hxB : B ≤ x0 := by rw [hx0.out]; exact hbs
  have hxw : w.heap.size ≤ x0 := by rw [hx0.out]; exact Nat.le_refl _
  have hx1 : Hid (x0 + 1 ≤ W0.heap.size) := by show x0 + 1 ≤ W0.heap.size; rw [hW0.out, hx0.out]; simp
  have pw := rr_cell0 h
  have hgl : g < w.heap.size := h.own g (.inl rfl)
  have p0 : W0.cell? ⟨g, 0, none⟩ = some (.pointer (some ⟨q, 0, none⟩)) := rr_cell0 H0.out
  have hgq : ∀ k, x0 < k → ¬ gq g q k := fun k hk hh => by have := hlo.out _ hh; omega
  have HGQ := Lib.hid hgq
  clear h hgq
  go_enter Tryz.func72, Tryz.ntmps72
  go_wp2_with fail
  rw [← hW0.out, ← hx0.out]
  have KK := rpiece_any W0 B g q s d H0.out
  rw [← e1.out] at KK
  refine KK.mono ?_
  clear KK
  rintro e W1 ⟨rfl, h1, f1⟩
  dsimp only at h1 ⊢
  have z1 : Hid (W0.heap.size ≤ W1.heap.size) := f1.size
  have B1 := Lib.hid (B0.out.trans f1)
  have K1 := Lib.hid (bk_fr K0.out f1 hnx)
  have H1 := Lib.hid h1
  have p1 := rr_cell0 h1
  clear h1 f1
  go_wp2_with fail
  have KK := rl_s W1 B g q s1 d H1.out
  rw [← e2.out] at KK
  refine KK.mono ?_
  clear KK
  rintro e W2 ⟨ve, rfl, re, h2, f2⟩
  dsimp only at h2 re ⊢
  obtain ⟨Ae, ce, rfl⟩ := re.form
  have Re2 : Hid (Ls W2 (fun k => x0 < k) _ y2) := re.mono fun b hb _ => Nat.lt_of_lt_of_le (Nat.lt_of_succ_le hx1.out) (Nat.le_trans z1.out hb)
  clear re
  have z2 : Hid (W0.heap.size ≤ W2.heap.size) := Nat.le_trans z1.out f2.size
  have B2 := Lib.hid (B1.out.trans f2)
  have K2 := Lib.hid (bk_fr K1.out f2 hnx)
  have H2 := Lib.hid h2
  have p2 := rr_cell0 h2
  clear h2 f2
  go_wp2_with fail
  have KK := rl_sp W2 B g q s2 d H2.out
  rw [← e3.out] at KK
  refine KK.mono ?_
  clear KK
  rintro e W3 ⟨va, rfl, ra, h3, f3⟩
  dsimp only at h3 ra ⊢
  obtain ⟨Aa, ca, rfl⟩ := ra.form
  have Ra3 : Hid (Ls W3 (fun k => x0 < k) _ y3) := ra.mono fun b hb _ => Nat.lt_of_lt_of_le (Nat.lt_of_succ_le hx1.out) (Nat.le_trans z2.out hb)
  clear ra
  have Re3 := Lib.hid (Re2.out.keep (f3.kept HGQ.out))
  have z3 : Hid (W0.heap.size ≤ W3.heap.size) := Nat.le_trans z2.out f3.size
  have B3 := Lib.hid (B2.out.trans f3)
  have K3 := Lib.hid (bk_fr K2.out f3 hnx)
  have H3 := Lib.hid h3
  have p3 := rr_cell0 h3
  clear h3 f3
  have t0 : W3.cell? ⟨x0, 0, none⟩ = some (.string ⟨#[]⟩) := cell_of K3.out 0 rfl
  have u0 := K3.out.frozen 0
  have t1 : W3.cell? ⟨x0, 1, none⟩ = some (.slice none 0 0) := cell_of K3.out 1 rfl
  have u1 := K3.out.frozen 1
  have t2 : W3.cell? ⟨x0, 2, none⟩ = some (.slice none 0 0) := cell_of K3.out 2 rfl
  have u2 := K3.out.frozen 2
  all_goals
    obtain ⟨Wf, hWf⟩ : ∃ x, Hid (x = (((W3.setCell ⟨x0, 0, none⟩ (.string y1)).setCell ⟨x0, 1, none⟩ (.slice Ae y2.length ce)).setCell ⟨x0, 2, none⟩ (.slice Aa y3.length ca))) := ⟨_, Lib.hid rfl⟩
    have BF : Hid (Fr (gq g q) (gq g q) w Wf) := by show Fr _ _ _ _; rw [hWf.out]; exact (((B3.out.set (p := ⟨x0, 0, none⟩) (.inr hxw) (.string y1)).set (p := ⟨x0, 1, none⟩) (.inr hxw) (.slice Ae y2.length ce)).set (p := ⟨x0, 2, none⟩) (.inr hxw) (.slice Aa y3.length ca))
    have HF : Hid (Rr Wf B g q s3 d) := by show Rr _ _ _ _ _ _; rw [hWf.out]; exact (rr_set (rr_set (rr_set H3.out hxB 0 (.string y1)) hxB 1 (.slice Ae y2.length ce)) hxB 2 (.slice Aa y3.length ca))
    have KF : Hid (Bk Wf x0 71 #[.string y1, .slice Ae y2.length ce, .slice Aa y3.length ca]) := by show Bk _ _ _ _; rw [hWf.out]; simpa using (((K3.out.set 0 (.string y1)).set 1 (.slice Ae y2.length ce)).set 2 (.slice Aa y3.length ca))
    have Le : Hid (Ls Wf (fun k => w.heap.size ≤ k) (.slice Ae y2.length ce) y2) := by show Ls _ _ _ _; rw [hWf.out]; exact (ls_set (ls_set (ls_set Re3.out (fun k hk => by omega) 0 (.string y1)) (fun k hk => by omega) 1 (.slice Ae y2.length ce)) (fun k hk => by omega) 2 (.slice Aa y3.length ca)).mono fun b hb _ => by omega
    have La : Hid (Ls Wf (fun k => w.heap.size ≤ k) (.slice Aa y3.length ca) y3) := by show Ls _ _ _ _; rw [hWf.out]; exact (ls_set (ls_set (ls_set Ra3.out (fun k hk => by omega) 0 (.string y1)) (fun k hk => by omega) 1 (.slice Ae y2.length ce)) (fun k hk => by omega) 2 (.slice Aa y3.length ca)).mono fun b hb _ => by omega
    have o0 : Wf.cell? ⟨x0, 0, none⟩ = some (.string y1) := by have := KF.out.cell 0; simpa using this
    have o1 : Wf.cell? ⟨x0, 1, none⟩ = some (.slice Ae y2.length ce) := by have := KF.out.cell 1; simpa using this
    have o2 : Wf.cell? ⟨x0, 2, none⟩ = some (.slice Aa y3.length ca) := by have := KF.out.cell 2; simpa using this
    clear B0 K0 H0 B1 K1 H1 B2 K2 H2 B3 K3 H3 KF
    go_wp2
    try rw [← hWf.out]
    refine bodyPost_ret (v := .agg #[.string y1, .slice Ae y2.length ce, .slice Aa y3.length ca]) (by simp [results, Tryz.results72, go_sem, o0, o1, o2]) rfl ?_
    unfold RmarkTypeT
    rw [hR.out]
    exact ⟨_, _, rfl, Le.out, La.out, HF.out, BF.out⟩
theorem info_mt : (Tryz.prog.info? 71).map (fun i => (i.zero, i.size, i.bytes)) = some (some (.agg #[.string .empty, .slice none 0 0, .slice none 0 0]), 3, 64) := by kernel_rfl
set_option maxRecDepth 100000 in
set_option maxHeartbeats 2000000 in
theorem rl_mt (w : World) (B g q : Nat) (s : RS) (d : Int) (h : Rr w B g q s d) :
    Calls Tryz.prog 71 #[.pointer (some ⟨g, 0, none⟩), .func (.func 72) #[] #[]] w (RlT B g q w (rL rMt s) d) := by
  have hN := rU_le 65536 3 s
  have HL : Hid (rL rMt s = rLoop rMt (rU 65536 3 s).1 [] (rU 65536 3 s).2) := rfl
  have HU := Lib.hid (upTo_any w B g q s d h 65536 3 (by decide))
  obtain ⟨⟨N, s1⟩, hr⟩ : ∃ x, x = rU 65536 3 s := ⟨_, rfl⟩
  rw [← hr] at hN HL HU
  clear hr
  simp only at hN
  obtain ⟨R, hR⟩ : ∃ x, Hid (x = rL rMt s) := ⟨_, Lib.hid rfl⟩
  rw [← hR.out]
  have HR : Hid (R = rLoop rMt N [] s1) := hR.out.trans HL.out
  have hlo := Lib.hid h.lo
  have hbs := h.base
  clear hR HL h
  go_enter Tryz.func71, Tryz.ntmps71
  go_wp2_with fail
  refine HU.out.mono ?_
  rintro e w1 ⟨rfl, h1, f1⟩
  have H1 := Lib.hid h1
  have F1 := Lib.hid f1
  clear h1 f1 HU
  go_wp2
  go_loopg [5, 8] N (fun n s5 s8 wk => ∃ (k : Nat) (v5 : Value) (acc : List Mt) (st : RS), k ≤ N ∧ n = N - k ∧ s5 = v5 ∧ s8 = .int .i64 k ∧ Hid (Rw wk w.heap.size 71 v5 k acc) ∧ Hid (Rr wk B g q st d) ∧ Hid (Fr (gq g q) (gq g q) w wk) ∧ Hid (R = rLoop rMt (N - k) acc st))
  case atStart => exact ⟨0, _, [], s1, Nat.zero_le _, by omega, rfl, rfl, Rw.none _ _ _, H1.out, F1.out, HR.out⟩
  case round =>
    obtain ⟨k, v5, acc, st, hk, hn, h5, rfl, hrw, hrr, hfr, hres⟩ := hrel
    have h5 := h5.symm
    subst h5
    have HG := Lib.hid hn
    clear hn HR H1 F1
    by_cases hlt : k < N
    · have hi1 : (k : Int) < (N : Int) := by omega
      obtain ⟨m, hm⟩ : ∃ m, Hid (N - k = m + 1) := ⟨N - k - 1, by show _ = _; omega⟩
      have hm2 : Hid (N - (k + 1) = m) := by show _ = _; have := hm.out; omega
      go_wp2_with fail
      refine (well_any wr B g q st d hrr.out).mono ?_
      rintro e w' ⟨rfl, rfl⟩
      by_cases hw : st.n = 0 ∧ st.f = 0
      · have hwt : decide (st.n = 0 ∧ st.f = 0) = true := by simpa using hw
        have hnext : Hid (R = rLoop rMt m (acc ++ [(rMt st).1]) (rMt st).2) := by show _ = _; rw [hres.out, hm.out, rLoop, if_pos hw]
        rw [hwt]
        clear hres hw hwt
        obtain ⟨⟨y, st2⟩, hy⟩ : ∃ x, x = rMt st := ⟨_, rfl⟩
        have HE := rmarkType_any wr B g q st d hrr.out
        unfold RmarkTypeT at HE; rw [← hy] at hnext HE
        have HE := Lib.hid HE
        clear hy
        go_wp2_with fail
        refine HE.out.mono ?_
        rintro e w2 ⟨ve, va, rfl, rve, rva, hr1, hf1⟩
        try dsimp only at hr1 rve rva
        obtain ⟨Ave, cve, rfl⟩ := rve.form
        obtain ⟨Ava, cva, rfl⟩ := rva.form
        have hce : Hid (Cs w2 (fun x => wr.heap.size ≤ x) [.string y.n, .slice Ave y.e.length cve, .slice Ava y.a.length cva] (Cl.c y)) := by show Cs _ _ _ _; exact Cs.cons (.v _ rfl) (Cs.cons rve (Cs.cons rva (Cs.nil)))
        have hrw2 := hrw.out.fr hf1 fun x hx => Nat.lt_of_lt_of_le (hlo.out x hx) hbs
        have hle : w.heap.size ≤ wr.heap.size := hfr.out.size
        have hle2 : wr.heap.size ≤ w2.heap.size := hf1.size
        have HR2 := Lib.hid hr1
        have HF2 := Lib.hid (hfr.out.trans hf1)
        obtain ⟨cs, ho, hcc⟩ := hrw2.ex
        have hvlt : ∀ x, v5.ownBlock = some x → x < wr.heap.size := fun x hx => by
          obtain ⟨cs', ho', _⟩ := hrw.out.ex
          exact (World.ownsRow.lt ho' x hx).2
        have HV := Lib.hid hvlt
        have HRW := Lib.hid hrw2
        have HCC := Lib.hid hcc
        have HO := Lib.hid ho
        clear hr1 hf1 hrr hfr hrw hrw2 hcc hvlt ho HE rve rva
        go_wp2_with (at_builtin; refine wpList_appR _ rfl _ _ 29 71 rfl _ 3 64 Tryz.underlying29 info_mt rfl (by decide) w.heap.size rfl rfl (World.ownsRow.alloc HO.out _) (Rd.lit w2 71 3 1 #[.string y.n, .slice Ave y.e.length cve, .slice Ava y.a.length cva] (0, 0) rfl (by omega)) (by simp [Value.oneCell']) ?_ ?_ ?_ ?_)
        · unfold maxLen; omega
        · omega
        · simp; omega
        intro v' w4 ho4 hg4 hat
        have hal : Below w2.heap.size w2 (w2.alloc (.cells #[.string y.n, .slice Ave y.e.length cve, .slice Ava y.a.length cva] 71)) := (Below.refl _ _).alloc (Nat.le_refl _) _
        have H4 : Hid (Rw w4 w.heap.size 71 v' (k + 1) (acc ++ [y])) := by
          refine Rw.more (w := w2.alloc (.cells #[.string y.n, .slice Ave y.e.length cve, .slice Ava y.a.length cva] 71)) (N := wr.heap.size) (HRW.out.all hal) (hce.out.keep (.below hal)) HV.out hle (HCC.out.keep (.below hal)) (by show World.ownsRow w4 w.heap.size _ 3 _ _ _; simpa using ho4) hg4 (by simpa using hat)
        have R4 : Hid (Rr w4 B g q st2 d) := (HR2.out.all hal).grown hg4 fun x hx => Nat.le_trans hbs (World.ownsRow.lt HO.out x hx).1
        have F4 : Hid (Fr (gq g q) (gq g q) w w4) := (HF2.out.alloc _).grown hg4 fun x hx => .inr (World.ownsRow.lt HO.out x hx).1
        clear ho4 hg4 hat HRW HCC HR2 HF2 HO hal HV hce
        go_wp2
        go_roundg (N - (k + 1))
        case measure => have := HG.out; omega
        case rel => exact ⟨k + 1, v', acc ++ [y], st2, by omega, rfl, rfl, by go_num, H4, R4, F4, by show _ = _; rw [hm2.out]; exact hnext.out⟩
      · have hwt : decide (st.n = 0 ∧ st.f = 0) = false := by simpa using hw
        have hend : Hid (R = ([], st)) := by show _ = _; rw [hres.out, hm.out, rLoop, if_neg hw]
        rw [hwt]
        clear hres hw hwt
        go_wp2
        go_ret
        exact ⟨_, rfl, by rw [hend.out]; exact Ls.nil _ _, by rw [hend.out]; exact hrr.out, hfr.out⟩
    · have hi1 : ¬ (k : Int) < (N : Int) := by omega
      have hend : Hid (R = (acc, st)) := by show _ = _; rw [hres.out, show N - k = 0 by omega, rLoop]
      go_wp2
      go_ret
      exact ⟨_, rfl, by rw [hend.out]; exact hrw.out.ls, by rw [hend.out]; exact hrr.out, hfr.out⟩
def RschemaT (B g q : Nat) (w : World) (s : RS) (d : Int) (e : Ending) (w' : World) : Prop := ∃ vt vm : Value, e = .returned (.agg #[vt, vm]) ∧ Ls w' (fun k => w.heap.size ≤ k) vt (rSc s).1.t ∧ Ls w' (fun k => w.heap.size ≤ k) vm (rSc s).1.m ∧ Rr w' B g q (rSc s).2 d ∧ Fr (gq g q) (gq g q) w w'
set_option maxRecDepth 100000 in
set_option maxHeartbeats 4000000 in
theorem rschema_any (w : World) (B g q : Nat) (s : RS) (d : Int) (h : Rr w B g q s d) : Calls Tryz.prog 38 #[.pointer (some ⟨g, 0, none⟩)] w (RschemaT B g q w s d) := by
  obtain ⟨⟨y1, s1⟩, e1⟩ : ∃ x, Hid (x = (rL rTy) s) := ⟨_, Lib.hid rfl⟩
  obtain ⟨⟨y2, s2⟩, e2⟩ : ∃ x, Hid (x = (rL rMt) s1) := ⟨_, Lib.hid rfl⟩
  have hR : Hid (rSc s = (Sc.mk y1 y2, s2)) := by show _ = _; simp only [rSc, rS2, ← e1.out, ← e2.out]
  have hlo := Lib.hid h.lo
  have hbs := h.base
  obtain ⟨x0, hx0⟩ : ∃ x0, Hid (x0 = w.heap.size) := ⟨_, Lib.hid rfl⟩
  obtain ⟨W0, hW0⟩ : ∃ x, Hid (x = w.alloc (.cells #[.slice none 0 0, .slice none 0 0] 31)) := ⟨_, Lib.hid rfl⟩
  have H0 : Hid (Rr W0 B g q s d) := by show Rr _ _ _ _ _ _; rw [hW0.out]; exact (h.alloc _)
  have B0 : Hid (Fr (gq g q) (gq g q) w W0) := by show Fr _ _ _ _; rw [hW0.out]; exact ((Fr.refl h.own).alloc _)
  have K0 : Hid (Bk W0 x0 31 #[.slice none 0 0, .slice none 0 0]) := by show Bk _ _ _ _; rw [hW0.out, hx0.out]; exact (Bk.new _ _ _)
  have hnx : ¬ gq g q x0 := fun hh => by have := hlo.out _ hh; have := hx0.out; omega
  have hxB : B ≤ x0 := by rw [hx0.out]; exact hbs
  have hxw : w.heap.size ≤ x0 := by rw [hx0.out]; exact Nat.le_refl _
  have hx1 : Hid (x0 + 1 ≤ W0.heap.size) := by show x0 + 1 ≤ W0.heap.size; rw [hW0.out, hx0.out]; simp
  have pw := rr_cell0 h
  have hgl : g < w.heap.size := h.own g (.inl rfl)
  have p0 : W0.cell? ⟨g, 0, none⟩ = some (.pointer (some ⟨q, 0, none⟩)) := rr_cell0 H0.out
  have hgq : ∀ k, x0 < k → ¬ gq g q k := fun k hk hh => by have := hlo.out _ hh; omega
  have HGQ := Lib.hid hgq
  clear h hgq
  go_enter Tryz.func38, Tryz.ntmps38
  go_wp2_with fail
  rw [← hW0.out, ← hx0.out]
  have KK := rl_ty W0 B g q s d H0.out
  rw [← e1.out] at KK
  refine KK.mono ?_
  clear KK
  rintro e W1 ⟨vt, rfl, rt, h1, f1⟩
  dsimp only at h1 rt ⊢
  obtain ⟨At, ct, rfl⟩ := rt.form
  have Rt1 : Hid (Ls W1 (fun k => x0 < k) _ y1) := rt.mono fun b hb _ => Nat.lt_of_lt_of_le (Nat.lt_of_succ_le hx1.out) (Nat.le_trans (Nat.le_refl _) hb)
  clear rt
  have z1 : Hid (W0.heap.size ≤ W1.heap.size) := f1.size
  have B1 := Lib.hid (B0.out.trans f1)
  have K1 := Lib.hid (bk_fr K0.out f1 hnx)
  have H1 := Lib.hid h1
  have p1 := rr_cell0 h1
  clear h1 f1
  go_wp2_with fail
  have KK := rl_mt W1 B g q s1 d H1.out
  rw [← e2.out] at KK
  refine KK.mono ?_
  clear KK
  rintro e W2 ⟨vm, rfl, rm, h2, f2⟩
  dsimp only at h2 rm ⊢
  obtain ⟨Am, cm, rfl⟩ := rm.form
  have Rm2 : Hid (Ls W2 (fun k => x0 < k) _ y2) := rm.mono fun b hb _ => Nat.lt_of_lt_of_le (Nat.lt_of_succ_le hx1.out) (Nat.le_trans z1.out hb)
  clear rm
  have Rt2 := Lib.hid (Rt1.out.keep (f2.kept HGQ.out))
  have z2 : Hid (W0.heap.size ≤ W2.heap.size) := Nat.le_trans z1.out f2.size
  have B2 := Lib.hid (B1.out.trans f2)
  have K2 := Lib.hid (bk_fr K1.out f2 hnx)
  have H2 := Lib.hid h2
  have p2 := rr_cell0 h2
  clear h2 f2
  have t0 : W2.cell? ⟨x0, 0, none⟩ = some (.slice none 0 0) := cell_of K2.out 0 rfl
  have u0 := K2.out.frozen 0
  have t1 : W2.cell? ⟨x0, 1, none⟩ = some (.slice none 0 0) := cell_of K2.out 1 rfl
  have u1 := K2.out.frozen 1
  all_goals
    obtain ⟨Wf, hWf⟩ : ∃ x, Hid (x = ((W2.setCell ⟨x0, 0, none⟩ (.slice At y1.length ct)).setCell ⟨x0, 1, none⟩ (.slice Am y2.length cm))) := ⟨_, Lib.hid rfl⟩
    have BF : Hid (Fr (gq g q) (gq g q) w Wf) := by show Fr _ _ _ _; rw [hWf.out]; exact ((B2.out.set (p := ⟨x0, 0, none⟩) (.inr hxw) (.slice At y1.length ct)).set (p := ⟨x0, 1, none⟩) (.inr hxw) (.slice Am y2.length cm))
    have HF : Hid (Rr Wf B g q s2 d) := by show Rr _ _ _ _ _ _; rw [hWf.out]; exact (rr_set (rr_set H2.out hxB 0 (.slice At y1.length ct)) hxB 1 (.slice Am y2.length cm))
    have KF : Hid (Bk Wf x0 31 #[.slice At y1.length ct, .slice Am y2.length cm]) := by show Bk _ _ _ _; rw [hWf.out]; simpa using ((K2.out.set 0 (.slice At y1.length ct)).set 1 (.slice Am y2.length cm))
    have Lt : Hid (Ls Wf (fun k => w.heap.size ≤ k) (.slice At y1.length ct) y1) := by show Ls _ _ _ _; rw [hWf.out]; exact (ls_set (ls_set Rt2.out (fun k hk => by omega) 0 (.slice At y1.length ct)) (fun k hk => by omega) 1 (.slice Am y2.length cm)).mono fun b hb _ => by omega
    have Lm : Hid (Ls Wf (fun k => w.heap.size ≤ k) (.slice Am y2.length cm) y2) := by show Ls _ _ _ _; rw [hWf.out]; exact (ls_set (ls_set Rm2.out (fun k hk => by omega) 0 (.slice At y1.length ct)) (fun k hk => by omega) 1 (.slice Am y2.length cm)).mono fun b hb _ => by omega
    have o0 : Wf.cell? ⟨x0, 0, none⟩ = some (.slice At y1.length ct) := by have := KF.out.cell 0; simpa using this
    have o1 : Wf.cell? ⟨x0, 1, none⟩ = some (.slice Am y2.length cm) := by have := KF.out.cell 1; simpa using this
    clear B0 K0 H0 B1 K1 H1 B2 K2 H2 KF
    go_wp2
    try rw [← hWf.out]
    refine bodyPost_ret (v := .agg #[.slice At y1.length ct, .slice Am y2.length cm]) (by simp [results, Tryz.results38, go_sem, o0, o1]) rfl ?_
    unfold RschemaT
    rw [hR.out]
    exact ⟨_, _, rfl, Lt.out, Lm.out, HF.out, BF.out⟩
end Go.Proofs.YtjajcecenflejaaGreat
