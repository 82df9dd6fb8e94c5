/- expr: Parse. -/
import Derived.Test.YtfbcafapnagjfaaDoorExV
namespace Go.Proofs.YtfbcafapnagjfaaDoor
open Go.RowKit

def zeroEx : Ex := .mk 0 (baOf []) 0 0 []
/-- Parse: what it leaves -/
def ParseR (w : World) (r : Option Ex × Int × Int) (x : Ending) (w' : World) : Prop :=
  ∃ (e : Ex) (A : Option Addr) (c : Nat), x = .returned (.tuple #[.agg #[.int .i64 e.k, .string e.n, .int .i64 e.a, .int .i64 e.b, .slice A e.l.length c], .int .i64 r.2.1, .int .i64 r.2.2]) ∧ e = r.1.getD zeroEx ∧
    Below w.heap.size w w' ∧ Kd w' (fun b => w.heap.size ≤ b) (.slice A e.l.length c) e.l

theorem Bg.fresh {w w' : World} {g : Nat} (h : Bg w.heap.size g w w') (hg : w.heap.size ≤ g) : Below w.heap.size w w' := ⟨h.os, h.tape, h.output, h.size, fun k hk => h.block k hk (by omega)⟩

set_option maxRecDepth 100000 in
theorem parse_ret {w0 W : World} {r : Option Ex × Int × Int} {e : Ex} {A : Option Addr} {c : Nat} {fn : Func} {a : Act} (hf : fn.results = #[.cell 2 24, .tmp 3, .tmp 4])
    (h2 : a.tmps.getD 2 undef = .pointer (some ⟨w0.heap.size, 0, none⟩)) (h3 : a.tmps.getD 3 undef = .int .i64 r.2.1) (h4 : a.tmps.getD 4 undef = .int .i64 r.2.2) (hd : a.defers = [])
    (he : e = r.1.getD zeroEx) (hb : Below w0.heap.size w0 W) (hk : Bk W w0.heap.size 24 #[.int .i64 e.k, .string e.n, .int .i64 e.a, .int .i64 e.b, .slice A e.l.length c]) (hkd : Kd W (fun b => w0.heap.size ≤ b) (.slice A e.l.length c) e.l) :
    bodyPost Tryd.prog fn (ParseR w0 r) .ret a W := by
  obtain ⟨⟨x0, x1, x2, x3, x4⟩, -⟩ := Bk.five hk
  refine bodyPost_ret (v := .tuple #[.agg #[.int .i64 e.k, .string e.n, .int .i64 e.a, .int .i64 e.b, .slice A e.l.length c], .int .i64 r.2.1, .int .i64 r.2.2]) ?_ hd ⟨e, A, c, rfl, he, hb, hkd⟩
  obtain ⟨tmps, defers⟩ := a
  have e2 : tmps[2]?.getD undef = .pointer (some ⟨w0.heap.size, 0, none⟩) := by simpa using h2
  have e3 : tmps[3]?.getD undef = .int .i64 r.2.1 := by simpa using h3
  have e4 : tmps[4]?.getD undef = .int .i64 r.2.2 := by simpa using h4
  simp [results, hf, e2, e3, e4, go_sem, x0, x1, x2, x3, x4]

set_option maxRecDepth 100000 in
set_option maxHeartbeats 800000 in
theorem parseL_any (s : ByteArray) (w : World) (h : 1024 < s.size) : Calls Tryd.prog 4 #[.string s] w (ParseR w (none, -1, 3)) := by
  have h1 : (1024 : Int) < (s.size : Int) := by omega
  go_enter Tryd.func4, Tryd.ntmps4
  go_wp2_with fail
  refine parse_ret (e := zeroEx) (A := none) (c := 0) Tryd.results4 rfl rfl rfl rfl rfl (box_below _ _) (Bk.new _ _ _) (Kd.nil _ _)

set_option maxRecDepth 100000 in
set_option maxHeartbeats 1600000 in
theorem parseS_any (s : ByteArray) (w : World) (h : s.size ≤ 1024) (o : Option Ex) (k : Nat) (hw : wholeP s.data.toList = (o, k)) (R : Option Ex × Int × Int)
    (hR : R = match (o, k) with
      | (none, k) => (none, (k : Int), 4)
      | (some e, _) => if checkE e = 0 then (some e, 0, 0) else (none, -1, checkE e)) :
    Calls Tryd.prog 4 #[.string s] w (ParseR w R) := by
  have h1 : ¬ (1024 : Int) < (s.size : Int) := by omega
  obtain ⟨w0, rfl⟩ : ∃ w0 : World, w0 = w := ⟨_, rfl⟩
  have C0 := Lib.hid fun g w1 hr => whole_any g s w1 hr (by omega)
  rw [hw] at C0
  have HRR := Lib.hid hR
  have HR1 : Hid (Rp ((w0.alloc (.cells #[.int .i64 0, .string ⟨#[]⟩, .int .i64 0, .int .i64 0, .slice none 0 0] 24)).alloc (.cells #[.string s, .int .i64 0] 35)) (w0.heap.size + 1) s 0) := by
    have := Bk.new (w0.alloc (.cells #[.int .i64 0, .string ⟨#[]⟩, .int .i64 0, .int .i64 0, .slice none 0 0] 24)) 35 #[.string s, .int .i64 0]
    rw [World.size_alloc] at this; exact this
  have HB1 : Hid (Bk ((w0.alloc (.cells #[.int .i64 0, .string ⟨#[]⟩, .int .i64 0, .int .i64 0, .slice none 0 0] 24)).alloc (.cells #[.string s, .int .i64 0] 35)) w0.heap.size 24 #[.int .i64 0, .string ⟨#[]⟩, .int .i64 0, .int .i64 0, .slice none 0 0]) := (Bk.new _ _ _).alloc _
  clear hw hR
  go_enter Tryd.func4, Tryd.ntmps4
  go_wp2_with fail
  refine (C0.out _ _ HR1.out).mono ?_
  clear C0
  rintro x w1 ⟨e, A, c, rfl, hr1, hb1, hy⟩
  have hz := hb1.size
  simp only [World.size_alloc] at hz
  have HQ1 := Lib.hid (HB1.out.bg hb1 (by omega))
  have HG1 : Hid (Bg w0.heap.size (w0.heap.size + 1) w0 w1) := (((Bg.refl _ _ _).alloc (Nat.le_refl _) _).alloc (by simp) _).trans (hb1.mono (by simp; omega))
  have hlt1 : w0.heap.size < w1.heap.size := by omega
  have hlt2 : w0.heap.size + 1 < w1.heap.size := by omega
  have hy' : ∀ y, o = some y → e = y ∧ Kd w1 (fun b => w0.heap.size + 1 ≤ b) (.slice A e.l.length c) e.l := fun y h => by
    obtain ⟨q1, q2⟩ := hy y h
    exact ⟨q1, q2.later (by simp)⟩
  have HY := Lib.hid hy'
  obtain ⟨⟨x0, x1, x2, x3, x4⟩, y0, y1, y2, y3, y4⟩ := Bk.five HQ1.out
  have r1 := hr1.c1
  simp only at r1
  have HR2 := Lib.hid hr1
  clear hr1 hb1 hy hy' HR1 HB1
  obtain ⟨k0, n0, a0, b0, l0⟩ := e
  simp only [Ex.k, Ex.n, Ex.a, Ex.b, Ex.l] at *
  cases o with
  | none =>
    have HR3 : Hid (R = (none, (k : Int), 4)) := HRR.out
    clear HRR HY
    go_wp2_with fail
    go_region
    go_wp2_with fail
    refine parse_ret (e := zeroEx) (A := none) (c := 0) Tryd.results4 rfl (by rw [HR3.out]; rfl) (by rw [HR3.out]; rfl) rfl (by rw [HR3.out]; rfl) ?_ ?_ (Kd.nil _ _)
    · exact (((HG1.out.set5 (Nat.le_refl _) _ _ _ _ _).set5 (Nat.le_refl _) _ _ _ _ _).drew).fresh (by omega)
    · exact Bk.drew ((HQ1.out.set5 _ _ _ _ _).set5 _ _ _ _ _)
  | some y =>
    obtain ⟨rfl, hkd⟩ := HY.out y rfl
    have HKD := Lib.hid (hkd.far5 (b := w0.heap.size) (by omega) (.int .i64 k0) (.string n0) (.int .i64 a0) (.int .i64 b0) (.slice A l0.length c))
    clear HY hkd
    have HQ2 := Lib.hid (HQ1.out.set5 (.int .i64 k0) (.string n0) (.int .i64 a0) (.int .i64 b0) (.slice A l0.length c))
    have HG2 := Lib.hid (HG1.out.set5 (Nat.le_refl w0.heap.size) (.int .i64 k0) (.string n0) (.int .i64 a0) (.int .i64 b0) (.slice A l0.length c))
    have hC := Check_any (.mk k0 n0 a0 b0 l0) _ _ _ HKD.out.kb (Nat.le_refl _)
    have C1 := Lib.hid hC
    obtain ⟨q, HQQ⟩ : ∃ q, Hid (q = checkE (.mk k0 n0 a0 b0 l0)) := ⟨_, rfl⟩
    rw [← HQQ.out] at C1
    have HR3 : Hid (R = if q = 0 then (some (.mk k0 n0 a0 b0 l0), 0, 0) else (none, -1, q)) := by show _ = _; rw [HRR.out, HQQ.out]
    clear hC HRR HQQ HQ1 HG1
    go_wp2_with fail
    refine (C1.out).mono ?_
    clear C1
    rintro x w3 ⟨rfl, hb3⟩
    have HQ3 := Lib.hid (HQ2.out.all hb3)
    have HG3 : Hid (Bg w0.heap.size (w0.heap.size + 1) w0 w3) := HG2.out.below (hb3.mono (by simp; omega))
    have HKD3 : Hid (Kd w3 (fun b => w0.heap.size + 1 ≤ b) (.slice A l0.length c) l0) := (HKD.out.inb.keep fun b o hb => hb3.cell (p := ⟨b, o, none⟩) hb.2).mono fun b hb => hb.1
    have hlt3 : w0.heap.size < w3.heap.size := HQ3.out.lt
    obtain ⟨⟨z0, z1, z2, z3, z4⟩, u0, u1, u2, u3, u4⟩ := Bk.five HQ3.out
    clear hb3 HQ2 HG2 HKD
    by_cases h0 : q = 0
    · have HR4 : Hid (R = (some (.mk k0 n0 a0 b0 l0), 0, 0)) := by show _ = _; rw [HR3.out, if_pos h0]
      subst h0
      clear HR3
      go_wp2_with fail
      refine parse_ret (e := .mk k0 n0 a0 b0 l0) (A := A) (c := c) Tryd.results4 rfl (by rw [HR4.out]; rfl) (by rw [HR4.out]; rfl) rfl (by rw [HR4.out]; rfl) ?_ ?_ ?_
      · exact (HG3.out.set5 (Nat.le_refl _) _ _ _ _ _).fresh (by omega)
      · exact HQ3.out.set5 _ _ _ _ _
      · exact (HKD3.out.far5 (by omega) _ _ _ _ _).later (by omega)
    · have HR4 : Hid (R = (none, -1, q)) := by show _ = _; rw [HR3.out, if_neg h0]
      have hq : (q != 0) = true := by simpa using h0
      clear HR3 h0
      go_wp2_with fail
      refine parse_ret (e := zeroEx) (A := none) (c := 0) Tryd.results4 rfl (by rw [HR4.out]; rfl) (by rw [HR4.out]; rfl) rfl (by rw [HR4.out]; rfl) ?_ ?_ (Kd.nil _ _)
      · exact (HG3.out.set5 (Nat.le_refl _) _ _ _ _ _).fresh (by omega)
      · exact HQ3.out.set5 _ _ _ _ _

/-- Parse -/
theorem Parse_any (s : ByteArray) (w : World) : Calls Tryd.prog 4 #[.string s] w (ParseR w (parseP s.data.toList)) := by
  unfold parseP
  rw [ba_len]
  by_cases h : 1024 < s.size
  · rw [if_pos h]; exact parseL_any s w h
  · rw [if_neg h]
    rcases hw : wholeP s.data.toList with ⟨o, k⟩
    exact parseS_any s w (by omega) o k hw _ rfl
end Go.Proofs.YtfbcafapnagjfaaDoor
