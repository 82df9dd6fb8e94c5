/- YtjajcecenflejaaGreatCz10 -/
import Derived.Test.YtjajcecenflejaaGreatCz09
import Derived.Test.YtjajcecenflejaaGreatCz03
namespace Go.Proofs.YtjajcecenflejaaGreat
open Go.RowKit
def okW (d : Int) (n : Nd) : Prop := okNd (16 - d).toNat n
def NdC (d : Int) (y : Nd) : Prop := ∀ (va vm vk : Value) (w : World) (B : Nat) (O : Nat → Prop) (g : Nat) (l : List UInt8) (lo br : Bool), Wr w B O g l d lo br → Ls w (fun b => b < B) va y.a → Ls w (fun b => b < B) vm y.m → Ls w (fun b => b < B) vk y.k → l.length + uNd y ≤ limW →
  Calls Tryz.prog 29 #[.pointer (some ⟨g, 0, none⟩), .agg #[.string y.t, va, vm, .string y.x, vk]] w (WrT B O g w l d lo br (okW d y) (eNd y) (uNd y))
theorem wr_deep {w0 w : World} {B : Nat} {O0 O : Nat → Prop} {g : Nat} {l : List UInt8} {d : Int} {lo wr : Bool} (hb : Fr O0 O w0 w) (h : Wr w B O g l d lo wr) (d' : Int) : Fr O0 O w0 (w.setCell ⟨g, 1, none⟩ (.int .i64 d')) ∧ Wr (w.setCell ⟨g, 1, none⟩ (.int .i64 d')) B O g l d' lo wr := by
  have hg := wr_g h
  obtain ⟨v, h1, h2, h3, h4, h5⟩ := h
  exact ⟨hb.set (p := ⟨g, 1, none⟩) (.inl hg) _, v, by simpa using h1.set 1 (.int .i64 d'), ow_set h2 h4, h3, h4, h5⟩
theorem wr_cell1 {w : World} {B : Nat} {O : Nat → Prop} {g : Nat} {l : List UInt8} {d : Int} {lo wr : Bool} (h : Wr w B O g l d lo wr) : w.frozen? ⟨g, 1, none⟩ = false ∧ w.cell? ⟨g, 1, none⟩ = some (.int .i64 d) := by
  obtain ⟨v, h1, h2, h3, h4, h5⟩ := h
  exact ⟨h1.frozen 1, by have := h1.cell 1; simpa using this⟩
theorem uNd_mem {l : List Nd} {e : Nd} (h : e ∈ l) : uNd e ≤ (l.map uNd).sum := by
  induction l with
  | nil => cases h
  | cons x r ih =>
    rw [List.map_cons, List.sum_cons]
    rcases List.mem_cons.1 h with rfl | h
    · omega
    · have := ih h; omega
set_option maxRecDepth 100000 in
set_option maxHeartbeats 1000000 in
theorem pl_nd (L : List Nd) (v : Value) (w : World) (B : Nat) (O : Nat → Prop) (g : Nat) (l : List UInt8) (d : Int) (lo br : Bool) (HC : ∀ y ∈ L, NdC d y) (h : Wr w B O g l d lo br) (hv : Ls w (fun b => b < B) v L) (hl : l.length + uL uNd L ≤ limW) :
    Calls Tryz.prog 57 #[.pointer (some ⟨g, 0, none⟩), v, .func (.func 29) #[] #[]] w (WrT B O g w l d lo br (okL (okW d) L) (eL eNd L) (uL uNd L)) := by
  obtain ⟨A, cap, rfl⟩ := hv.form
  have hmax := hv.max
  unfold maxLen at hmax
  unfold uL at hl
  have hOB := fun k hk => (h.own k hk).2
  go_enter Tryz.func57, Tryz.ntmps57
  go_wp2_with fail
  refine (within_any (L.length : Int) 65536 w B O g l d lo br h).mono ?_
  rintro e w1 ⟨rfl, hb1, l1, r1, h1, hl1, hr1⟩
  go_wp2_with fail
  refine (wnum_any (L.length : Int) w1 B O g l d l1 r1 h1 (by omega)).mono ?_
  rintro e w2 ⟨rfl, O2, hb2, k2, l2, r2, h2, hlen2, hk2⟩
  have HB := Lib.hid (hb1.trans hb2)
  have HK : Hid (l2 = false → r2 = false → lo = false ∧ br = false ∧ L.length ≤ 65536 ∧ k2 = l ++ uv L.length) := fun a b => by
    obtain ⟨x1, x2, x3, x4⟩ := hk2.out a b
    obtain ⟨y1, y2⟩ := hl1.out x1
    exact ⟨y1, (hr1.out x2).1, by omega, by rw [x4]; rfl⟩
  clear hk2 hl1 hr1 h1 h hb1 hb2
  go_wp2
  go_loopg [18] L.length (fun n s wk => ∃ (k : Nat) (Ok : Nat → Prop) (lk : List UInt8) (lok rk : Bool), k ≤ L.length ∧ n = L.length - k ∧ s = .int .i64 k ∧ Wr wk B Ok g lk d lok rk ∧ Fr O Ok w wk ∧ Hid (lk.length ≤ l.length + 10 + sm uNd L k) ∧
    Hid (lok = false → rk = false → lo = false ∧ br = false ∧ L.length ≤ 65536 ∧ (∀ x ∈ L.take k, (okW d) x) ∧ lk = l ++ (uv L.length ++ (L.take k).flatMap eNd)))
  case atStart => exact ⟨0, O2, k2, l2, r2, Nat.zero_le _, by omega, rfl, h2, HB.out, by show _ ≤ _; omega, fun a b => by obtain ⟨x1, x2, x3, x4⟩ := HK.out a b; exact ⟨x1, x2, x3, by simp, by rw [x4]; simp⟩⟩
  case round =>
    obtain ⟨k, Ok, lk, lok, rk, hk, hn, rfl, hW, hb, hlk, hok⟩ := hrel
    have HN := Lib.hid hn
    clear hn HB HK h2 hlen2
    by_cases hlt : k < L.length
    · have hvk := ls_fr hv hb hOB
      have hsm := Lib.hid (sm_succ uNd L k hlt)
      have hsl := Lib.hid (sm_le uNd L (k + 1))
      have htk : Hid (L.take (k + 1) = L.take k ++ [L[k]]) := by show _ = _; rw [List.take_add_one, List.getElem?_eq_getElem hlt]; rfl
      have hmem : L[k] ∈ L := List.getElem_mem hlt
      obtain ⟨b, off, va, vm, vk, rfl, hbb, hcap, a0, a1, a2, a3, a4, ra, rm, rka⟩ := at_nd hvk hlt
      obtain ⟨y, hy⟩ : ∃ y, Hid (y = L[k]) := ⟨_, Lib.hid rfl⟩
      rw [← hy.out] at a0 a3 ra rm rka
      obtain ⟨Ara, cra, rfl⟩ := ra.form
      obtain ⟨Arm, crm, rfl⟩ := rm.form
      obtain ⟨Arka, crka, rfl⟩ := rka.form
      have hW' := hW
      have hBs := hW.base
      obtain ⟨vw, hbk, how, hBg, hne⟩ := hW
      have c2 := hbk.cell 2
      simp at c2
      have hgl := hbk.lt
      have hyu : Hid (lk.length + uNd y ≤ limW) := by show _ ≤ _; have := hlk.out; have := hsm.out; have := hsl.out; rw [hy.out]; omega
      have hi0 : (0 : Int) ≤ (k : Int) := by omega
      have hi1 : (k : Int) < (L.length : Int) := by omega
      clear hbk how hv
      cases lok
      · go_wp2_with fail
        refine (HC y (by rw [hy.out]; exact hmem) _ _ _ _ B Ok g lk false rk (hW'.alloc _) (ra.under (box1 _ _)) (rm.under (box1 _ _)) (rka.under (box1 _ _)) hyu.out).mono ?_
        rintro e w4 ⟨rfl, O4, hb4, l4, lo4, r4, h4, hlen4, hk4⟩
        have hbb4 := Lib.hid ((hb.alloc _).trans hb4)
        have HL4 : Hid (l4.length ≤ l.length + 10 + sm uNd L (k + 1)) := by show _ ≤ _; have := hlk.out; have := hsm.out; rw [← hy.out] at this; omega
        have HK4 : Hid (lo4 = false → r4 = false → lo = false ∧ br = false ∧ L.length ≤ 65536 ∧ (∀ x ∈ L.take (k + 1), (okW d) x) ∧ l4 = l ++ (uv L.length ++ (L.take (k + 1)).flatMap eNd)) := fun a b => by
          obtain ⟨x1, x2, x3, x4⟩ := hk4.out a b
          obtain ⟨y1, y2, y3, y4, y5⟩ := hok.out (by first | rfl | trivial) x2
          refine ⟨y1, y2, y3, ?_, ?_⟩
          · rw [htk.out]
            intro x hx
            rcases List.mem_append.1 hx with hx | hx
            · exact y4 x hx
            · rw [List.mem_singleton.1 hx, ← hy.out]; exact x3
          · rw [htk.out, x4, y5, List.flatMap_append, ← hy.out]
            simp [List.append_assoc]
        clear hk4 hlen4 hb4 hb hok hlk hW'
        go_wp2
        go_roundg (L.length - (k + 1))
        case measure => have := HN.out; omega
        case rel => exact ⟨k + 1, O4, l4, lo4, r4, by omega, rfl, by go_num, h4, hbb4.out, HL4, HK4⟩
      · go_wp2
        go_end0
        exact ⟨rfl, Ok, hb.alloc _, lk, true, rk, hW'.alloc _, by have := hlk.out; have := sm_le uNd L k; unfold uL; omega, fun a => by cases a⟩
    · have hkl : k = L.length := by omega
      have hi1 : ¬ (k : Int) < (L.length : Int) := by omega
      have HKL := Lib.hid hkl
      clear hkl
      go_wp2
      go_end0
      refine ⟨rfl, Ok, hb, lk, lok, rk, hW, by have := hlk.out; have := sm_le uNd L k; unfold uL; omega, fun a b => ?_⟩
      obtain ⟨x1, x2, x3, x4, x5⟩ := hok.out a b
      rw [HKL.out, List.take_length] at x4 x5
      exact ⟨x1, x2, ⟨x3, x4⟩, x5⟩
set_option maxRecDepth 100000 in
set_option maxHeartbeats 2000000 in
theorem wnode_any (n : Nd) : ∀ (d : Int), 0 ≤ d → d + uNd n ≤ 2000000000 → NdC d n := by
  induction n using Nd.ind with
  | h t a m x k ih =>
  intro d hd0 hd va vm vk w B O g l lo br h hva hvm hvk hl
  rw [uNd_eq] at hl hd
  have hl' := hl
  simp only [Nd.a, Nd.m, Nd.k, Nd.t, Nd.x] at hva hvm hvk hl' hd ⊢
  have HL := Lib.hid (show uL uNd k = (k.map uNd).sum + 10 from rfl)
  have HC : Hid (∀ y ∈ k, NdC (d + 1) y) := fun y hy => ih y hy (d + 1) (by omega) (by have := uNd_mem hy; have := HL.out; omega)
  obtain ⟨Aa, ca, rfl⟩ := hva.form
  obtain ⟨Am, cm, rfl⟩ := hvm.form
  obtain ⟨Ak, ck, rfl⟩ := hvk.form
  clear ih hl
  have hOB := fun k hk => (h.own k hk).2
  have hOl := fun k hk => (h.own k hk).1
  obtain ⟨x0, hx0⟩ : ∃ x0, Hid (x0 = w.heap.size) := ⟨_, Lib.hid rfl⟩
  obtain ⟨W0, hW0⟩ : ∃ W0, Hid (W0 = w.alloc (.cells #[.string t, .slice Aa a.length ca, .slice Am m.length cm, .string x, .slice Ak k.length ck] 26)) := ⟨_, Lib.hid rfl⟩
  have HB0 : Hid (Fr O O w W0) := by show Fr _ _ _ _; rw [hW0.out]; exact (Fr.refl hOl).alloc _
  have h0 : Wr W0 B O g l d lo br := by rw [hW0.out]; exact h.alloc _
  have C0 : Hid (Bk W0 x0 26 #[.string t, .slice Aa a.length ca, .slice Am m.length cm, .string x, .slice Ak k.length ck]) := by show Bk _ _ _ _; rw [hW0.out, hx0.out]; exact Bk.new _ _ _
  have hno0 : Hid (¬ O x0) := fun hh => by have := hOl _ hh; have := hx0.out; omega
  have hx0w : w.heap.size ≤ x0 := by rw [hx0.out]; exact Nat.le_refl _
  have hu : ∀ s : ByteArray, 10 ≤ uS s := fun s => by unfold uS; omega
  clear h
  obtain ⟨z1, y1⟩ := wr_cell1 h0
  obtain ⟨Wd, hWd⟩ : ∃ x, Hid (x = W0.setCell ⟨g, 1, none⟩ (.int .i64 (d + 1))) := ⟨_, Lib.hid rfl⟩
  obtain ⟨fd, hd1⟩ := wr_deep HB0.out h0 (d + 1)
  rw [← hWd.out] at fd hd1
  have hxg : g ≠ x0 := fun e => hno0.out (e ▸ wr_g h0)
  have Cd : Hid (Bk Wd x0 26 #[.string t, .slice Aa a.length ca, .slice Am m.length cm, .string x, .slice Ak k.length ck]) := by show Bk _ _ _ _; rw [hWd.out]; exact C0.out.far (p := ⟨g, 1, none⟩) (fun e => hxg e.symm) _
  have y1' : (w.alloc (.cells #[.string t, .slice Aa a.length ca, .slice Am m.length cm, .string x, .slice Ak k.length ck] 26)).cell? ⟨g, 1, none⟩ = some (.int .i64 d) := by rw [← hW0.out]; exact y1
  have z1' : (w.alloc (.cells #[.string t, .slice Aa a.length ca, .slice Am m.length cm, .string x, .slice Ak k.length ck] 26)).frozen? ⟨g, 1, none⟩ = false := by rw [← hW0.out]; exact z1
  go_enter Tryz.func29, Tryz.ntmps29
  go_wp2_with fail
  rw [← hW0.out, ← hx0.out, ← hWd.out]
  refine (within_any (d + 1) 16 Wd B O g l (d + 1) lo br hd1).mono ?_
  rintro e W1 ⟨rfl, hb1, lo1, br1, h1, hlo1, hbr1⟩
  have HB1 := Lib.hid (fd.trans hb1)
  have C1 := Lib.hid (bk_fr Cd.out hb1 hno0.out)
  have hN1 : l.length ≤ l.length + 0 := by omega
  have hK1 : Hid (lo1 = false → br1 = false → lo = false ∧ br = false ∧ d + 1 ≤ 16 ∧ l = l ++ []) := fun x y => ⟨(hlo1.out x).1, (hbr1.out y).1, by have := (hlo1.out x).2; omega, by simp⟩
  have hno1 := hno0
  clear hb1 fd Cd hlo1 hbr1
  have q1_0 : W1.cell? ⟨x0, 0, none⟩ = some (.string t) := by have := C1.out.cell 0; simpa using this
  go_wp2_with fail
  refine (wtext_any t W1 B O g l (d + 1) lo1 br1 h1 (by omega)).mono ?_
  rintro e W2 ⟨rfl, O2, hb2, l2, lo2, br2, h2, hn2, hk2⟩
  have HB2 := Lib.hid (HB1.out.trans hb2)
  have C2 := Lib.hid (bk_fr C1.out hb2 hno1.out)
  have hno2 : Hid (¬ O2 x0) := hb2.apart C1.out.lt hno1.out
  obtain ⟨hN2, hK2⟩ := acc_next hN1 hK1 hn2 hk2
  clear hb2 hn2 hk2 hN1 hK1 q1_0
  have q2_1 : W2.cell? ⟨x0, 1, none⟩ = some (.slice Aa a.length ca) := by have := C2.out.cell 1; simpa using this
  go_wp2_with fail
  refine (pl_at a (.slice Aa a.length ca) W2 B O2 g l2 (d + 1) lo2 br2 h2 (ls_fr hva HB2.out hOB) (by omega)).mono ?_
  rintro e W3 ⟨rfl, O3, hb3, l3, lo3, br3, h3, hn3, hk3⟩
  have HB3 := Lib.hid (HB2.out.trans hb3)
  have C3 := Lib.hid (bk_fr C2.out hb3 hno2.out)
  have hno3 : Hid (¬ O3 x0) := hb3.apart C2.out.lt hno2.out
  obtain ⟨hN3, hK3⟩ := acc_next hN2 hK2 hn3 hk3
  clear hb3 hn3 hk3 hN2 hK2 q2_1
  have q3_2 : W3.cell? ⟨x0, 2, none⟩ = some (.slice Am m.length cm) := by have := C3.out.cell 2; simpa using this
  go_wp2_with fail
  refine (pl_mk m (.slice Am m.length cm) W3 B O3 g l3 (d + 1) lo3 br3 h3 (ls_fr hvm HB3.out hOB) (by omega)).mono ?_
  rintro e W4 ⟨rfl, O4, hb4, l4, lo4, br4, h4, hn4, hk4⟩
  have HB4 := Lib.hid (HB3.out.trans hb4)
  have C4 := Lib.hid (bk_fr C3.out hb4 hno3.out)
  have hno4 : Hid (¬ O4 x0) := hb4.apart C3.out.lt hno3.out
  obtain ⟨hN4, hK4⟩ := acc_next hN3 hK3 hn4 hk4
  clear hb4 hn4 hk4 hN3 hK3 q3_2
  have q4_3 : W4.cell? ⟨x0, 3, none⟩ = some (.string x) := by have := C4.out.cell 3; simpa using this
  go_wp2_with fail
  refine (wtext_any x W4 B O4 g l4 (d + 1) lo4 br4 h4 (by omega)).mono ?_
  rintro e W5 ⟨rfl, O5, hb5, l5, lo5, br5, h5, hn5, hk5⟩
  have HB5 := Lib.hid (HB4.out.trans hb5)
  have C5 := Lib.hid (bk_fr C4.out hb5 hno4.out)
  have hno5 : Hid (¬ O5 x0) := hb5.apart C4.out.lt hno4.out
  obtain ⟨hN5, hK5⟩ := acc_next hN4 hK4 hn5 hk5
  clear hb5 hn5 hk5 hN4 hK4 q4_3
  have q5_4 : W5.cell? ⟨x0, 4, none⟩ = some (.slice Ak k.length ck) := by have := C5.out.cell 4; simpa using this
  go_wp2_with fail
  refine (pl_nd k (.slice Ak k.length ck) W5 B O5 g l5 (d + 1) lo5 br5 HC.out h5 (ls_fr hvk HB5.out hOB) (by omega)).mono ?_
  rintro e W6 ⟨rfl, O6, hb6, l6, lo6, br6, h6, hn6, hk6⟩
  have HB6 := Lib.hid (HB5.out.trans hb6)
  have C6 := Lib.hid (bk_fr C5.out hb6 hno5.out)
  have hno6 : Hid (¬ O6 x0) := hb6.apart C5.out.lt hno5.out
  obtain ⟨hN6, hK6⟩ := acc_next hN5 hK5 hn6 hk6
  clear hb6 hn6 hk6 hN5 hK5 q5_4
  obtain ⟨z9, y9⟩ := wr_cell1 h6
  obtain ⟨Wn, hWn⟩ : ∃ x, Hid (x = W6.setCell ⟨g, 1, none⟩ (.int .i64 d)) := ⟨_, Lib.hid rfl⟩
  obtain ⟨fn, hn1⟩ := wr_deep HB6.out h6 d
  rw [← hWn.out] at fn hn1
  have e9 : d + 1 - 1 = d := by omega
  go_wp2
  go_end0
  try rw [← hWn.out]
  refine ⟨rfl, O6, fn, l6, lo6, br6, hn1, by rw [uNd_eq]; simp only [Nd.a, Nd.m, Nd.k, Nd.t, Nd.x]; omega, fun p q => ?_⟩
  obtain ⟨x1, x2, ⟨⟨⟨⟨⟨y1, y2⟩, y3⟩, y4⟩, y5⟩, y6⟩, x7⟩ := hK6.out p q
  refine ⟨x1, x2, ?_, by rw [x7, eNd_eq]; simp [Nd.a, Nd.m, Nd.k, Nd.t, Nd.x]⟩
  unfold okW at y6 ⊢
  obtain ⟨f, hf⟩ : ∃ f : Nat, (16 - d).toNat = f + 1 := ⟨(16 - d).toNat - 1, by omega⟩
  rw [show (16 - (d + 1)).toNat = f by omega] at y6
  rw [hf]
  exact ⟨y2, y3, y4, y5, y6⟩
end Go.Proofs.YtjajcecenflejaaGreat
namespace Go.Proofs.YtjajcecenflejaaGreat
open Go.RowKit
set_option maxRecDepth 100000 in
set_option maxHeartbeats 1000000 in
theorem wschema_any (a : Sc) (vt : Value) (vm : Value) (w : World) (B : Nat) (O : Nat → Prop) (g : Nat) (l : List UInt8) (d : Int) (lo br : Bool) (h : Wr w B O g l d lo br) (hvt : Ls w (fun b => b < B) vt a.t) (hvm : Ls w (fun b => b < B) vm a.m) (hl : l.length + uSc a ≤ limW) :
    Calls Tryz.prog 36 #[.pointer (some ⟨g, 0, none⟩), .agg #[vt, vm]] w (WrT B O g w l d lo br (okSc a) (eSc a) (uSc a)) := by
  have hOB := fun k hk => (h.own k hk).2
  have hOl := fun k hk => (h.own k hk).1
  have hl' := hl
  unfold uSc at hl'
  obtain ⟨x0, hx0⟩ : ∃ x0, Hid (x0 = w.heap.size) := ⟨_, Lib.hid rfl⟩
  obtain ⟨W0, hW0⟩ : ∃ W0, Hid (W0 = w.alloc (.cells #[vt, vm] 31)) := ⟨_, Lib.hid rfl⟩
  have HB0 : Hid (Fr O O w W0) := by show Fr _ _ _ _; rw [hW0.out]; exact (Fr.refl hOl).alloc _
  have h0 : Wr W0 B O g l d lo br := by rw [hW0.out]; exact h.alloc _
  have C0 : Hid (Bk W0 x0 31 #[vt, vm]) := by show Bk _ _ _ _; rw [hW0.out, hx0.out]; exact Bk.new _ _ _
  have hn0 : Hid (¬ O x0) := fun hh => by have := hOl _ hh; have := hx0.out; omega
  have hu : ∀ s : ByteArray, 10 ≤ uS s := fun s => by unfold uS; omega
  clear h
  go_enter Tryz.func36, Tryz.ntmps36
  have q0 : W0.cell? ⟨x0, 0, none⟩ = some (vt) := by have := C0.out.cell 0; simpa using this
  go_wp2_with fail
  rw [← hW0.out, ← hx0.out]
  refine (pl_ty a.t vt W0 B O g l d lo br h0 (ls_fr hvt HB0.out hOB) (by omega)).mono ?_
  rintro e W1 ⟨rfl, O1, hb1, l1, lo1, br1, h1, hn1, hk1⟩
  have HB1 := Lib.hid (HB0.out.trans hb1)
  have C1 := Lib.hid (bk_fr C0.out hb1 hn0.out)
  have hno1 : Hid (¬ O1 x0) := hb1.apart C0.out.lt hn0.out
  have hd1 := Lib.hid hb1
  clear hb1 q0
  have q1 : W1.cell? ⟨x0, 1, none⟩ = some (vm) := by have := C1.out.cell 1; simpa using this
  go_wp2_with fail
  refine (pl_mt a.m vm W1 B O1 g l1 d lo1 br1 h1 (ls_fr hvm HB1.out hOB) (by omega)).mono ?_
  intro e Wn hr
  obtain ⟨rfl, hr2⟩ := hr
  have hr := Lib.hid (show WrT _ _ _ _ _ _ _ _ _ _ _ (.returned (.tuple #[])) Wn from ⟨rfl, hr2⟩)
  clear hr2
  go_wp2
  go_end0
  have r1 := hr.out
  have r0 := WrT.seq hd1.out hn1 hk1 r1
  exact WrT.mono (WrT.from HB0.out r0) (fun hh => hh) (fun _ => rfl) (by unfold uSc; omega)
set_option maxRecDepth 100000 in
set_option maxHeartbeats 2000000 in
theorem wsteps_any (L : List St) (hcs : ∀ s ∈ L, ∀ x ∈ s.mid, 0 ≤ x.c ∧ x.c < 256) (v : Value) (w : World) (B : Nat) (O : Nat → Prop) (g : Nat) (l : List UInt8) (d : Int) (lo br : Bool) (h : Wr w B O g l d lo br) (hv : Ls w (fun b => b < B) v L) (hl : l.length + uL uSt L ≤ limW) :
    Calls Tryz.prog 24 #[.pointer (some ⟨g, 0, none⟩), v] w (WrT B O g w l d lo br (okL okSt L) (eL eSt L) (uL uSt L)) := by
  go_enter Tryz.func24, Tryz.ntmps24
  go_wp2_with fail
  refine (pl_st L hcs v w B O g l d lo br h hv hl).mono ?_
  rintro e W1 ⟨rfl, hr⟩
  have HR := Lib.hid hr
  clear hr
  go_wp2
  go_end0
  exact ⟨rfl, HR.out⟩
theorem ls_below {T : Type} [Cl T] {w w' : World} {B : Nat} {v : Value} {l : List T} (h : Ls w (fun b => b < B) v l) (hb : Below B w w') : Ls w' (fun b => b < B) v l := h.keep fun b h1 h2 => ⟨h1, Nat.lt_of_lt_of_le h2 hb.size, hb.block b h1⟩
def PutT (w : World) (ok : Prop) (en : List UInt8) (e : Ending) (w' : World) : Prop :=
  ∃ (v : Value) (n : Nat), e = .returned (.tuple #[v, .int .i64 (n : Int)]) ∧ Below w.heap.size w w' ∧ (∃ A k c, v = .slice A k c) ∧ Hid (n = 0 → ok ∧ Ow w' 5 w.heap.size v en ∧ en.length ≤ limW)
theorem Fr.to_below {w w0 w' : World} {O O' : Nat → Prop} (hb : Below w.heap.size w w0) (h : Fr O O' w0 w') (hO : ∀ k, O k → w.heap.size ≤ k) : Below w.heap.size w w' :=
  ⟨h.os.trans hb.os, h.tape.trans hb.tape, h.output.trans hb.output, Nat.le_trans hb.size h.size, fun k hk => (h.block k (Nat.lt_of_lt_of_le hk hb.size) fun ho => by have := hO k ho; omega).trans (hb.block k hk)⟩
theorem Wr.new (w : World) (B : Nat) (hB : B ≤ w.heap.size) : Wr (w.alloc (.cells #[.slice none 0 0, .int .i64 0, .bool false, .bool false] 105)) B (fun k => k = w.heap.size) w.heap.size [] 0 false false :=
  ⟨.slice none 0 0, Bk.new _ _ _, Ow.nil _ _ _, hB, by simp [Value.ownBlock], fun k => by simp [Value.ownBlock]⟩
set_option maxRecDepth 100000 in
set_option maxHeartbeats 400000 in
theorem clone_nil (w : World) : Calls Tryz.prog 45 #[.slice none 0 0] w fun e w' => e = .returned (.slice none 0 0) ∧ w = w' := by
  have hn := fun w => Lib.run_eql_slice_nil (P := Tryz.prog) w 36 5 none 0 0 0 0 Tryz.underlying36
  go_enter Tryz.func45, Tryz.ntmps45
  go_wp2
  go_ret
  exact ⟨rfl, rfl⟩
def EndT (w : World) (g : Nat) (W1 : World) (lo br : Bool) (ok : Prop) (en : List UInt8) : Prop :=
  Below w.heap.size w W1 ∧ ∃ v, W1.cell? ⟨g, 0, none⟩ = some v ∧ (∃ A k c, v = .slice A k c) ∧ W1.cell? ⟨g, 2, none⟩ = some (.bool lo) ∧ W1.cell? ⟨g, 3, none⟩ = some (.bool br) ∧ (lo = false → br = false → ok ∧ Ow W1 5 w.heap.size v en ∧ en.length ≤ limW)
theorem WrT.ends {w W0 W1 : World} {O : Nat → Prop} {g : Nat} {ok : Prop} {en : List UInt8} {ub : Nat} {e : Ending} (hb : Below w.heap.size w W0) (hO : ∀ k, O k → w.heap.size ≤ k) (h : WrT w.heap.size O g W0 [] 0 false false ok en ub e W1) (hub : ub ≤ limW) : e = .returned (.tuple #[]) ∧ ∃ lo br, EndT w g W1 lo br ok en := by
  obtain ⟨rfl, O', hf, l', lo', br', hw, hn, hk⟩ := h
  refine ⟨rfl, lo', br', hf.to_below hb hO, ?_⟩
  obtain ⟨v, h1, h2, h3, h4, h5⟩ := hw
  obtain ⟨A, c, hv⟩ := h2.form
  refine ⟨v, by have := h1.cell 0; simpa using this, ⟨A, _, c, hv⟩, by have := h1.cell 2; simpa using this, by have := h1.cell 3; simpa using this, fun a b => ?_⟩
  obtain ⟨_, _, x1, x2⟩ := hk.out a b
  rw [List.nil_append] at x2
  exact ⟨x1, x2 ▸ h2, by rw [← x2]; simp at hn; omega⟩
set_option maxRecDepth 100000 in
set_option maxHeartbeats 2000000 in
theorem put_sts (L : List St) (hcs : ∀ s ∈ L, ∀ x ∈ s.mid, 0 ≤ x.c ∧ x.c < 256) (v : Value) (w : World) (hv : Ls w (fun b => b < w.heap.size) v L) (hl : uL uSt L ≤ limW) :
    Calls Tryz.prog 23 #[.slice none 0 0, v, .func (.func 24) #[] #[]] w (PutT w (okL okSt L) (eL eSt L)) := by
  obtain ⟨W0, hW0⟩ : ∃ x, Hid (x = w) := ⟨_, Lib.hid rfl⟩
  have HW0 : Hid (Below w.heap.size w W0) := by show Below _ _ _; rw [hW0.out]; exact Below.refl _ _
  obtain ⟨W1, hW1⟩ : ∃ x, Hid (x = W0.alloc (.cells #[.slice none 0 0, .int .i64 0, .bool false, .bool false] 105)) := ⟨_, Lib.hid rfl⟩
  obtain ⟨g, hg⟩ : ∃ g, Hid (g = W0.heap.size) := ⟨_, Lib.hid rfl⟩
  have h1 : Wr W1 w.heap.size (fun k => k = g) g [] 0 false false := by rw [hW1.out, hg.out]; exact Wr.new W0 w.heap.size HW0.out.size
  have HW1 : Hid (Below w.heap.size w W1) := by show Below _ _ _; rw [hW1.out]; exact HW0.out.alloc HW0.out.size _
  have HO : Hid (∀ k, k = g → w.heap.size ≤ k) := fun k e => by rw [e, hg.out]; exact HW0.out.size
  go_enter Tryz.func23, Tryz.ntmps23
  go_wp2_with fail

  refine (clone_nil w).mono ?_
  rintro e w' ⟨rfl, rfl⟩
  rw [← hW0.out]
  go_wp2_with fail
  rw [← hW1.out, ← hg.out]
  refine (wsteps_any L hcs v W1 w.heap.size (fun k => k = g) g [] 0 false false h1 (ls_below hv HW1.out) (by simpa using hl)).mono ?_
  intro e W2 hr
  obtain ⟨rfl, lo, br, hE⟩ := WrT.ends HW1.out HO.out hr hl
  obtain ⟨hb, v, c0, ⟨Av, kv, cv, rfl⟩, c2, c3, hk⟩ := hE
  have HB := Lib.hid hb
  have HK := Lib.hid hk
  clear hr hb hk
  cases lo
  · cases br
    · go_wp2
      go_ret2
      exact ⟨_, 0, rfl, HB.out, ⟨_, _, _, rfl⟩, fun _ => HK.out (by first | rfl | trivial) (by first | rfl | trivial)⟩
    · go_wp2
      go_ret2
      exact ⟨_, 2, rfl, HB.out, ⟨_, _, _, rfl⟩, fun e => by cases e⟩
  · go_wp2
    go_ret2
    exact ⟨_, 3, rfl, HB.out, ⟨_, _, _, rfl⟩, fun e => by cases e⟩
set_option maxRecDepth 100000 in
set_option maxHeartbeats 2000000 in
theorem packSteps_any (L : List St) (hcs : ∀ s ∈ L, ∀ x ∈ s.mid, 0 ≤ x.c ∧ x.c < 256) (v : Value) (w : World) (hv : Ls w (fun b => b < w.heap.size) v L) (hl : uL uSt L ≤ limW) :
    Calls Tryz.prog 8 #[.slice none 0 0, v] w (PutT w (okL okSt L) (eL eSt L)) := by
  go_enter Tryz.func8, Tryz.ntmps8
  go_wp2_with fail
  refine (put_sts L hcs v w hv hl).mono ?_
  rintro e W2 ⟨v, k, rfl, hb, ⟨Av, kv, cv, rfl⟩, hk⟩
  have HB := Lib.hid hb
  clear hb
  go_wp2
  go_ret2
  exact ⟨_, k, rfl, HB.out, ⟨_, _, _, rfl⟩, hk⟩
set_option maxRecDepth 100000 in
set_option maxHeartbeats 2000000 in
theorem put_nd (n : Nd) (va vm vk : Value) (w : World) (hva : Ls w (fun b => b < w.heap.size) va n.a) (hvm : Ls w (fun b => b < w.heap.size) vm n.m) (hvk : Ls w (fun b => b < w.heap.size) vk n.k) (hl : uNd n ≤ limW) :
    Calls Tryz.prog 28 #[.slice none 0 0, .agg #[.string n.t, va, vm, .string n.x, vk], .func (.func 29) #[] #[]] w (PutT w (okNd 16 n) (eNd n)) := by
  obtain ⟨Aa, ca, rfl⟩ := hva.form
  obtain ⟨Am, cm, rfl⟩ := hvm.form
  obtain ⟨Ak, ck, rfl⟩ := hvk.form
  obtain ⟨W0, hW0⟩ : ∃ x, Hid (x = (w.alloc (.cells #[.string n.t, .slice Aa n.a.length ca, .slice Am n.m.length cm, .string n.x, .slice Ak n.k.length ck] 26))) := ⟨_, Lib.hid rfl⟩
  have HW0 : Hid (Below w.heap.size w W0) := by show Below _ _ _; rw [hW0.out]; exact (Below.refl _ _).alloc (Nat.le_refl _) _
  obtain ⟨W1, hW1⟩ : ∃ x, Hid (x = W0.alloc (.cells #[.slice none 0 0, .int .i64 0, .bool false, .bool false] 105)) := ⟨_, Lib.hid rfl⟩
  obtain ⟨g, hg⟩ : ∃ g, Hid (g = W0.heap.size) := ⟨_, Lib.hid rfl⟩
  have h1 : Wr W1 w.heap.size (fun k => k = g) g [] 0 false false := by rw [hW1.out, hg.out]; exact Wr.new W0 w.heap.size HW0.out.size
  have HW1 : Hid (Below w.heap.size w W1) := by show Below _ _ _; rw [hW1.out]; exact HW0.out.alloc HW0.out.size _
  have HO : Hid (∀ k, k = g → w.heap.size ≤ k) := fun k e => by rw [e, hg.out]; exact HW0.out.size
  have C0 : Hid (Bk W1 w.heap.size 26 #[.string n.t, .slice Aa n.a.length ca, .slice Am n.m.length cm, .string n.x, .slice Ak n.k.length ck]) := by show Bk _ _ _ _; rw [hW1.out, hW0.out]; exact (Bk.new _ _ _).alloc _
  have q0 : (W0.alloc (.cells #[.slice none 0 0, .int .i64 0, .bool false, .bool false] 105)).cell? ⟨w.heap.size, 0, none⟩ = some (.string n.t) := by rw [← hW1.out]; have := C0.out.cell 0; simpa using this
  have q1 : (W0.alloc (.cells #[.slice none 0 0, .int .i64 0, .bool false, .bool false] 105)).cell? ⟨w.heap.size, 1, none⟩ = some (.slice Aa n.a.length ca) := by rw [← hW1.out]; have := C0.out.cell 1; simpa using this
  have q2 : (W0.alloc (.cells #[.slice none 0 0, .int .i64 0, .bool false, .bool false] 105)).cell? ⟨w.heap.size, 2, none⟩ = some (.slice Am n.m.length cm) := by rw [← hW1.out]; have := C0.out.cell 2; simpa using this
  have q3 : (W0.alloc (.cells #[.slice none 0 0, .int .i64 0, .bool false, .bool false] 105)).cell? ⟨w.heap.size, 3, none⟩ = some (.string n.x) := by rw [← hW1.out]; have := C0.out.cell 3; simpa using this
  have q4 : (W0.alloc (.cells #[.slice none 0 0, .int .i64 0, .bool false, .bool false] 105)).cell? ⟨w.heap.size, 4, none⟩ = some (.slice Ak n.k.length ck) := by rw [← hW1.out]; have := C0.out.cell 4; simpa using this
  go_enter Tryz.func28, Tryz.ntmps28
  go_wp2_with fail
  rw [← hW0.out]
  refine (clone_nil W0).mono ?_
  rintro e w' ⟨rfl, rfl⟩

  go_wp2_with fail
  rw [← hW1.out, ← hg.out]
  refine (wnode_any n 0 (Int.le_refl _) (by unfold limW at hl; omega) _ _ _ W1 w.heap.size (fun k => k = g) g [] false false h1 (ls_below hva HW1.out) (ls_below hvm HW1.out) (ls_below hvk HW1.out) (by simpa using hl)).mono ?_
  intro e W2 hr
  obtain ⟨rfl, lo, br, hE⟩ := WrT.ends HW1.out HO.out hr hl
  obtain ⟨hb, v, c0, ⟨Av, kv, cv, rfl⟩, c2, c3, hk⟩ := hE
  have HB := Lib.hid hb
  have HK := Lib.hid hk
  clear hr hb hk
  cases lo
  · cases br
    · go_wp2
      go_ret2
      exact ⟨_, 0, rfl, HB.out, ⟨_, _, _, rfl⟩, fun _ => HK.out (by first | rfl | trivial) (by first | rfl | trivial)⟩
    · go_wp2
      go_ret2
      exact ⟨_, 2, rfl, HB.out, ⟨_, _, _, rfl⟩, fun e => by cases e⟩
  · go_wp2
    go_ret2
    exact ⟨_, 3, rfl, HB.out, ⟨_, _, _, rfl⟩, fun e => by cases e⟩
set_option maxRecDepth 100000 in
set_option maxHeartbeats 2000000 in
theorem packNode_any (n : Nd) (va vm vk : Value) (w : World) (hva : Ls w (fun b => b < w.heap.size) va n.a) (hvm : Ls w (fun b => b < w.heap.size) vm n.m) (hvk : Ls w (fun b => b < w.heap.size) vk n.k) (hl : uNd n ≤ limW) :
    Calls Tryz.prog 13 #[.slice none 0 0, .agg #[.string n.t, va, vm, .string n.x, vk]] w (PutT w (okNd 16 n) (eNd n)) := by
  obtain ⟨Aa, ca, rfl⟩ := hva.form
  obtain ⟨Am, cm, rfl⟩ := hvm.form
  obtain ⟨Ak, ck, rfl⟩ := hvk.form
  obtain ⟨W0, hW0⟩ : ∃ x, Hid (x = (w.alloc (.cells #[.string n.t, .slice Aa n.a.length ca, .slice Am n.m.length cm, .string n.x, .slice Ak n.k.length ck] 26))) := ⟨_, Lib.hid rfl⟩
  have HW0 : Hid (Below w.heap.size w W0) := by show Below _ _ _; rw [hW0.out]; exact (Below.refl _ _).alloc (Nat.le_refl _) _
  go_enter Tryz.func13, Tryz.ntmps13
  go_wp2_with fail
  rw [← hW0.out]
  refine (put_nd n _ _ _ W0 ((hva.under HW0.out).mono fun b hb _ => Nat.lt_of_lt_of_le hb HW0.out.size) ((hvm.under HW0.out).mono fun b hb _ => Nat.lt_of_lt_of_le hb HW0.out.size) ((hvk.under HW0.out).mono fun b hb _ => Nat.lt_of_lt_of_le hb HW0.out.size) hl).mono ?_
  rintro e W2 ⟨v, k, rfl, hb, ⟨Av, kv, cv, rfl⟩, hk⟩
  have HB := Lib.hid (HW0.out.trans (hb.mono HW0.out.size))
  have HK : Hid (k = 0 → (okNd 16 n) ∧ Ow W2 5 w.heap.size (.slice Av kv cv) (eNd n) ∧ (eNd n).length ≤ limW) := fun e => ⟨(hk.out e).1, (hk.out e).2.1.mono HW0.out.size, (hk.out e).2.2⟩
  clear hb hk
  go_wp2
  go_ret2
  exact ⟨_, k, rfl, HB.out, ⟨_, _, _, rfl⟩, HK.out⟩
set_option maxRecDepth 100000 in
set_option maxHeartbeats 2000000 in
theorem put_sc (s : Sc) (vt vm : Value) (w : World) (hvt : Ls w (fun b => b < w.heap.size) vt s.t) (hvm : Ls w (fun b => b < w.heap.size) vm s.m) (hl : uSc s ≤ limW) :
    Calls Tryz.prog 35 #[.slice none 0 0, .agg #[vt, vm], .func (.func 36) #[] #[]] w (PutT w (okSc s) (eSc s)) := by
  obtain ⟨At, ct, rfl⟩ := hvt.form
  obtain ⟨Am, cm, rfl⟩ := hvm.form
  obtain ⟨W0, hW0⟩ : ∃ x, Hid (x = (w.alloc (.cells #[.slice At s.t.length ct, .slice Am s.m.length cm] 31))) := ⟨_, Lib.hid rfl⟩
  have HW0 : Hid (Below w.heap.size w W0) := by show Below _ _ _; rw [hW0.out]; exact (Below.refl _ _).alloc (Nat.le_refl _) _
  obtain ⟨W1, hW1⟩ : ∃ x, Hid (x = W0.alloc (.cells #[.slice none 0 0, .int .i64 0, .bool false, .bool false] 105)) := ⟨_, Lib.hid rfl⟩
  obtain ⟨g, hg⟩ : ∃ g, Hid (g = W0.heap.size) := ⟨_, Lib.hid rfl⟩
  have h1 : Wr W1 w.heap.size (fun k => k = g) g [] 0 false false := by rw [hW1.out, hg.out]; exact Wr.new W0 w.heap.size HW0.out.size
  have HW1 : Hid (Below w.heap.size w W1) := by show Below _ _ _; rw [hW1.out]; exact HW0.out.alloc HW0.out.size _
  have HO : Hid (∀ k, k = g → w.heap.size ≤ k) := fun k e => by rw [e, hg.out]; exact HW0.out.size
  have C0 : Hid (Bk W1 w.heap.size 31 #[.slice At s.t.length ct, .slice Am s.m.length cm]) := by show Bk _ _ _ _; rw [hW1.out, hW0.out]; exact (Bk.new _ _ _).alloc _
  have q0 : (W0.alloc (.cells #[.slice none 0 0, .int .i64 0, .bool false, .bool false] 105)).cell? ⟨w.heap.size, 0, none⟩ = some (.slice At s.t.length ct) := by rw [← hW1.out]; have := C0.out.cell 0; simpa using this
  have q1 : (W0.alloc (.cells #[.slice none 0 0, .int .i64 0, .bool false, .bool false] 105)).cell? ⟨w.heap.size, 1, none⟩ = some (.slice Am s.m.length cm) := by rw [← hW1.out]; have := C0.out.cell 1; simpa using this
  go_enter Tryz.func35, Tryz.ntmps35
  go_wp2_with fail
  rw [← hW0.out]
  refine (clone_nil W0).mono ?_
  rintro e w' ⟨rfl, rfl⟩

  go_wp2_with fail
  rw [← hW1.out, ← hg.out]
  refine (wschema_any s _ _ W1 w.heap.size (fun k => k = g) g [] 0 false false h1 (ls_below hvt HW1.out) (ls_below hvm HW1.out) (by simpa using hl)).mono ?_
  intro e W2 hr
  obtain ⟨rfl, lo, br, hE⟩ := WrT.ends HW1.out HO.out hr hl
  obtain ⟨hb, v, c0, ⟨Av, kv, cv, rfl⟩, c2, c3, hk⟩ := hE
  have HB := Lib.hid hb
  have HK := Lib.hid hk
  clear hr hb hk
  cases lo
  · cases br
    · go_wp2
      go_ret2
      exact ⟨_, 0, rfl, HB.out, ⟨_, _, _, rfl⟩, fun _ => HK.out (by first | rfl | trivial) (by first | rfl | trivial)⟩
    · go_wp2
      go_ret2
      exact ⟨_, 2, rfl, HB.out, ⟨_, _, _, rfl⟩, fun e => by cases e⟩
  · go_wp2
    go_ret2
    exact ⟨_, 3, rfl, HB.out, ⟨_, _, _, rfl⟩, fun e => by cases e⟩
set_option maxRecDepth 100000 in
set_option maxHeartbeats 2000000 in
theorem packSchema_any (s : Sc) (vt vm : Value) (w : World) (hvt : Ls w (fun b => b < w.heap.size) vt s.t) (hvm : Ls w (fun b => b < w.heap.size) vm s.m) (hl : uSc s ≤ limW) :
    Calls Tryz.prog 16 #[.slice none 0 0, .agg #[vt, vm]] w (PutT w (okSc s) (eSc s)) := by
  obtain ⟨At, ct, rfl⟩ := hvt.form
  obtain ⟨Am, cm, rfl⟩ := hvm.form
  obtain ⟨W0, hW0⟩ : ∃ x, Hid (x = (w.alloc (.cells #[.slice At s.t.length ct, .slice Am s.m.length cm] 31))) := ⟨_, Lib.hid rfl⟩
  have HW0 : Hid (Below w.heap.size w W0) := by show Below _ _ _; rw [hW0.out]; exact (Below.refl _ _).alloc (Nat.le_refl _) _
  go_enter Tryz.func16, Tryz.ntmps16
  go_wp2_with fail
  rw [← hW0.out]
  refine (put_sc s _ _ W0 ((hvt.under HW0.out).mono fun b hb _ => Nat.lt_of_lt_of_le hb HW0.out.size) ((hvm.under HW0.out).mono fun b hb _ => Nat.lt_of_lt_of_le hb HW0.out.size) hl).mono ?_
  rintro e W2 ⟨v, k, rfl, hb, ⟨Av, kv, cv, rfl⟩, hk⟩
  have HB := Lib.hid (HW0.out.trans (hb.mono HW0.out.size))
  have HK : Hid (k = 0 → (okSc s) ∧ Ow W2 5 w.heap.size (.slice Av kv cv) (eSc s) ∧ (eSc s).length ≤ limW) := fun e => ⟨(hk.out e).1, (hk.out e).2.1.mono HW0.out.size, (hk.out e).2.2⟩
  clear hb hk
  go_wp2
  go_ret2
  exact ⟨_, k, rfl, HB.out, ⟨_, _, _, rfl⟩, HK.out⟩
end Go.Proofs.YtjajcecenflejaaGreat
