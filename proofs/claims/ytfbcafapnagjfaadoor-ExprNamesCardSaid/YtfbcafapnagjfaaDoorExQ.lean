/- expr: one, many. -/
import Derived.Test.YtfbcafapnagjfaaDoorExP
namespace Go.Proofs.YtfbcafapnagjfaaDoor
open Go.RowKit

/-! ## how much is read -/
mutual
def Ex.wtE : Ex → Nat
  | .mk _ _ _ _ l => max 1 (Ex.wtL l)
def Ex.wtL : List Ex → Nat
  | [] => 0
  | e :: l => Ex.wtE e + Ex.wtL l
end
theorem wt_pos (e : Ex) : 1 ≤ e.wtE := by cases e; rw [Ex.wtE]; omega
theorem wtL_app (l m : List Ex) : Ex.wtL (l ++ m) = Ex.wtL l + Ex.wtL m := by
  induction l with
  | nil => rw [List.nil_append, Ex.wtL]; omega
  | cons e l ih => rw [List.cons_append, Ex.wtL, Ex.wtL, ih]; omega
theorem wtL_len (l : List Ex) : l.length ≤ Ex.wtL l := by
  induction l with
  | nil => exact Nat.zero_le _
  | cons e l ih => rw [Ex.wtL, List.length_cons]; have := wt_pos e; omega
theorem wt_kids : ∀ e : Ex, Ex.wtL e.l ≤ e.wtE
  | .mk _ _ _ _ l => by rw [Ex.wtE]; show Ex.wtL l ≤ _; omega
theorem wt_len (e : Ex) : e.l.length ≤ e.wtE := Nat.le_trans (wtL_len _) (wt_kids e)
theorem wt_with (kind : Int) (ks : List Ex) (e : Ex) : Ex.wtL (withE kind ks e) ≤ Ex.wtL ks + e.wtE := by
  unfold withE
  split
  · rw [wtL_app]; have := wt_kids e; omega
  · rw [wtL_app, Ex.wtL, Ex.wtL]; omega
theorem wt_list (kind : Int) (ks : List Ex) (h : 1 ≤ Ex.wtL ks) : (listE kind ks).wtE ≤ Ex.wtL ks := by
  match ks, h with
  | [], h => simp [Ex.wtL] at h
  | [e], h => simp only [listE, Ex.wtL]; omega
  | x :: y :: r, h => simp only [listE]; rw [Ex.wtE]; omega
theorem wt_with_pos (kind : Int) (ks : List Ex) (e : Ex) (h : 1 ≤ Ex.wtL ks ∨ e.k ≠ kind ∨ e.l ≠ []) : 1 ≤ Ex.wtL (withE kind ks e) := by
  unfold withE
  split
  · rename_i hk
    rw [wtL_app]
    rcases h with h | h | h
    · omega
    · exact absurd hk h
    · have := wtL_len e.l
      have : 0 < e.l.length := List.length_pos_iff.2 h
      omega
  · rw [wtL_app, Ex.wtL, Ex.wtL]; have := wt_pos e; omega

/-- what is read is no more than what was gone over; it is no list of nothing -/
def Fine (n : Nat) (it : Nat → Option Ex × Nat) : Prop := ∀ i e k, i ≤ n → it i = (some e, k) → e.wtE + i ≤ k ∧ k ≤ n ∧ (e.k = 2 ∨ e.k = 3 → 2 ≤ e.l.length)

/-- what a method that reads an expression leaves -/
def Pt (w : World) (g : Nat) (s : ByteArray) (r : Option Ex × Nat) (x : Ending) (w' : World) : Prop :=
  ∃ (e : Ex) (A : Option Addr) (c : Nat), x = .returned (.tuple #[.agg #[.int .i64 e.k, .string e.n, .int .i64 e.a, .int .i64 e.b, .slice A e.l.length c], .bool r.1.isSome]) ∧ Rp w' g s r.2 ∧ Bg w.heap.size g w w' ∧
    ∀ e', r.1 = some e' → e = e' ∧ Kd w' (fun b => w.heap.size ≤ b) (.slice A e.l.length c) e.l
theorem pt_none {w : World} {g : Nat} {s : ByteArray} {k : Nat} {w' : World} {o : Nat} (hr : Rp w' g s k) (hb : Bg w.heap.size g w w') (h : o = k) :
    Pt w g s (none, o) (.returned (.tuple #[.agg #[.int .i64 0, .string ⟨#[]⟩, .int .i64 0, .int .i64 0, .slice none 0 0], .bool false])) w' :=
  ⟨.mk 0 ⟨#[]⟩ 0 0 [], none, 0, rfl, by subst h; exact hr, hb, fun _ h => by cases h⟩
/-- the calls of choice that may be met, from place j0 on -/
def ChOK (g : Nat) (s : ByteArray) (j0 : Nat) (ch : Nat → Option Ex × Nat) : Prop :=
  ∀ (i : Nat) (w : World), Rp w g s i → j0 ≤ i → i ≤ s.size → Calls Tryd.prog 20 #[.pointer (some ⟨g, 0, none⟩)] w (Pt w g s (ch i))

theorem Kd.bg {w w' : World} {g B : Nat} {s : Value} {l : List Ex} (h : Kd w (fun b => B ≤ b) s l) (hb : Bg w.heap.size g w w') (hg : g < B) : Kd w' (fun b => B ≤ b) s l :=
  (h.inb.keep fun b o hb2 => hb.cell (p := ⟨b, o, none⟩) hb2.2 (by show b ≠ g; omega)).mono fun _ hb => hb.1
/-- a block below is written: nothing of it turns -/
theorem Kd.far {w : World} {B : Nat} {s : Value} {l : List Ex} (h : Kd w (fun b => B ≤ b) s l) {p : Addr} (hp : p.block < B) (u : Value) : Kd (w.setCell p u) (fun b => B ≤ b) s l :=
  h.keep fun b o hb => World.cell?_of_block (w := w) (Below.heap_setCell w p u b (by omega))
theorem Kd.new {w : World} {B : Nat} {s : Value} {l : List Ex} (h : Kd w (fun b => B ≤ b) s l) (o : Obj) : Kd (w.alloc o) (fun b => B ≤ b) s l :=
  (h.inb.keep fun b _ hb => (box_below w o).cell (p := ⟨b, _, none⟩) hb.2).mono fun _ hb => hb.1
theorem Kd.later {w : World} {B B' : Nat} {s : Value} {l : List Ex} (h : Kd w (fun b => B ≤ b) s l) (hB : B' ≤ B) : Kd w (fun b => B' ≤ b) s l := h.mono fun b hb => by omega

theorem Bk.five {w : World} {b : Nat} {t : TypeId} {c0 c1 c2 c3 c4 : Value} (h : Bk w b t #[c0, c1, c2, c3, c4]) :
    (w.cell? ⟨b, 0, none⟩ = some c0 ∧ w.cell? ⟨b, 1, none⟩ = some c1 ∧ w.cell? ⟨b, 2, none⟩ = some c2 ∧ w.cell? ⟨b, 3, none⟩ = some c3 ∧ w.cell? ⟨b, 4, none⟩ = some c4) ∧
    (w.frozen? ⟨b, 0, none⟩ = false ∧ w.frozen? ⟨b, 1, none⟩ = false ∧ w.frozen? ⟨b, 2, none⟩ = false ∧ w.frozen? ⟨b, 3, none⟩ = false ∧ w.frozen? ⟨b, 4, none⟩ = false) :=
  ⟨⟨h.cell 0, h.cell 1, h.cell 2, h.cell 3, h.cell 4⟩, h.frozen 0, h.frozen 1, h.frozen 2, h.frozen 3, h.frozen 4⟩
/-! five cells of block b are written -/
section
variable {w w' : World} {g b B : Nat} {s : ByteArray} {i : Nat}
theorem Rp.far5 (h : Rp w g s i) (hb : g ≠ b) (v0 v1 v2 v3 v4 : Value) : Rp (((((w.setCell ⟨b, 0, none⟩ v0).setCell ⟨b, 1, none⟩ v1).setCell ⟨b, 2, none⟩ v2).setCell ⟨b, 3, none⟩ v3).setCell ⟨b, 4, none⟩ v4) g s i :=
  ((((h.far (p := ⟨b, 0, none⟩) hb _).far (p := ⟨b, 1, none⟩) hb _).far (p := ⟨b, 2, none⟩) hb _).far (p := ⟨b, 3, none⟩) hb _).far (p := ⟨b, 4, none⟩) hb _
theorem Bg.set5 {a : World} (h : Bg B g a w) (hb : B ≤ b) (v0 v1 v2 v3 v4 : Value) : Bg B g a (((((w.setCell ⟨b, 0, none⟩ v0).setCell ⟨b, 1, none⟩ v1).setCell ⟨b, 2, none⟩ v2).setCell ⟨b, 3, none⟩ v3).setCell ⟨b, 4, none⟩ v4) :=
  ((((h.setNew (p := ⟨b, 0, none⟩) hb _).setNew (p := ⟨b, 1, none⟩) hb _).setNew (p := ⟨b, 2, none⟩) hb _).setNew (p := ⟨b, 3, none⟩) hb _).setNew (p := ⟨b, 4, none⟩) hb _
theorem Kd.far5 {v : Value} {l : List Ex} (h : Kd w (fun b => B ≤ b) v l) (hb : b < B) (v0 v1 v2 v3 v4 : Value) : Kd (((((w.setCell ⟨b, 0, none⟩ v0).setCell ⟨b, 1, none⟩ v1).setCell ⟨b, 2, none⟩ v2).setCell ⟨b, 3, none⟩ v3).setCell ⟨b, 4, none⟩ v4) (fun b => B ≤ b) v l :=
  ((((h.far (p := ⟨b, 0, none⟩) hb _).far (p := ⟨b, 1, none⟩) hb _).far (p := ⟨b, 2, none⟩) hb _).far (p := ⟨b, 3, none⟩) hb _).far (p := ⟨b, 4, none⟩) hb _
end

theorem Bk.bgd {w w' : World} {g b : Nat} {t : TypeId} {cs : Array Value} (h : Bk w b t cs) (hb : Bg w.drew.heap.size g w.drew w') (hne : b ≠ g) : Bk w' b t cs := (hb.block b (Bk.lt h) hne).trans h
theorem Bk.set5 {w : World} {b : Nat} {t : TypeId} {c0 c1 c2 c3 c4 : Value} (h : Bk w b t #[c0, c1, c2, c3, c4]) (v0 v1 v2 v3 v4 : Value) :
    Bk (((((w.setCell ⟨b, 0, none⟩ v0).setCell ⟨b, 1, none⟩ v1).setCell ⟨b, 2, none⟩ v2).setCell ⟨b, 3, none⟩ v3).setCell ⟨b, 4, none⟩ v4) b t #[v0, v1, v2, v3, v4] := by
  have h5 := ((((h.set 0 v0).set 1 v1).set 2 v2).set 3 v3).set 4 v4
  simpa using h5
/-- the world at the end of a method that reads an expression: its result lies in block b -/
def PtW (w0 : World) (g : Nat) (s : ByteArray) (r : Option Ex × Nat) (e : Ex) (A : Option Addr) (c : Nat) (W : World) : Prop :=
  Rp W g s r.2 ∧ Bg w0.heap.size g w0 W ∧ Bk W w0.heap.size 24 #[.int .i64 e.k, .string e.n, .int .i64 e.a, .int .i64 e.b, .slice A e.l.length c] ∧
    ∀ e', r.1 = some e' → e = e' ∧ Kd W (fun b => w0.heap.size ≤ b) (.slice A e.l.length c) e.l
set_option maxRecDepth 100000 in
theorem pt_ret {w0 W : World} {g : Nat} {s : ByteArray} {r : Option Ex × Nat} {e : Ex} {A : Option Addr} {c : Nat} {fn : Func} {a : Act} (hf : fn.results = #[.cell 2 24, .tmp 3])
    (h2 : a.tmps.getD 2 undef = .pointer (some ⟨w0.heap.size, 0, none⟩)) (h3 : a.tmps.getD 3 undef = .bool r.1.isSome) (hd : a.defers = []) (hp : PtW w0 g s r e A c W) :
    bodyPost Tryd.prog fn (Pt w0 g s r) .ret a W := by
  obtain ⟨hr, hb, hk, hy⟩ := hp
  obtain ⟨⟨x0, x1, x2, x3, x4⟩, -⟩ := Bk.five hk
  refine bodyPost_ret (v := .tuple #[.agg #[.int .i64 e.k, .string e.n, .int .i64 e.a, .int .i64 e.b, .slice A e.l.length c], .bool r.1.isSome]) ?_ hd ⟨e, A, c, rfl, hr, hb, hy⟩
  obtain ⟨tmps, defers⟩ := a
  have e2 : tmps[2]?.getD undef = .pointer (some ⟨w0.heap.size, 0, none⟩) := by simpa using h2
  have e3 : tmps[3]?.getD undef = .bool r.1.isSome := by simpa using h3
  simp [results, hf, e2, e3, go_sem, x0, x1, x2, x3, x4]

set_option maxRecDepth 100000 in
set_option maxHeartbeats 1600000 in
/-- one: a bracket, what is in it is missing -/
theorem oneA_any (g : Nat) (s : ByteArray) (i j0 : Nat) (w : World) (h : Rp w g s i) (hi : i ≤ s.size) (hs : s.size ≤ 1000000000000) (ch : Nat → Option Ex × Nat) (hch : ChOK g s j0 ch) (hj : j0 ≤ i + 1) (j k : Nat) (h1 : takeP 40 s.data.toList i = (true, j)) (h2 : ch j = (none, k)) :
    Calls Tryd.prog 49 #[.pointer (some ⟨g, 0, none⟩)] w (Pt w g s (none, k)) := by
  have hg := h.lt
  have hjs : i + 1 ≤ j ∧ j ≤ s.size := by
    have := take_le (c := 40) (by decide) (t := s.data.toList) (i := i) (by rw [ba_len]; exact hi)
    rw [h1, ba_len] at this
    refine ⟨?_, this⟩
    unfold takeP at h1; simp only at h1
    split at h1
    · cases h1; have := skip_ge s.data.toList i; omega
    · cases h1
  obtain ⟨w0, rfl⟩ : ∃ w0 : World, w0 = w := ⟨_, rfl⟩
  have C0 := Lib.hid fun w1 hr => take_any g s i 40 w1 hr hi hs
  rw [h1] at C0
  have C1 := Lib.hid fun w1 hr => hch j w1 hr (by omega) hjs.2
  rw [h2] at C1
  have Hh := Lib.hid h
  clear h1 h2 h hch
  go_enter Tryd.func49, Tryd.ntmps49
  go_wp2_with fail
  refine (C0.out _ (by exact Hh.out.alloc _)).mono ?_
  clear C0
  rintro e w1 ⟨rfl, hr1, hb1⟩
  have HR1 := Lib.hid hr1
  have HB1 : Hid (Bk w1 w0.heap.size 24 #[.int .i64 0, .string ⟨#[]⟩, .int .i64 0, .int .i64 0, .slice none 0 0]) := Bk.bg (Bk.new _ _ _) hb1 (by omega)
  have HG1 : Hid (Bg w0.heap.size g w0 w1) := ((Bg.refl _ _ _).alloc (Nat.le_refl _) _).trans (hb1.mono (by simp))
  have hz1 : w0.heap.size + 1 ≤ w1.heap.size := by have := hb1.size; simpa using this
  have HZ1 := Lib.hid hz1
  clear hr1 hb1 hz1
  go_wp2_with fail
  refine (C1.out _ HR1.out).mono ?_
  clear C1
  rintro x w2 ⟨e, A, c, rfl, hr2, hb2, -⟩
  have HR2 := Lib.hid hr2
  have HB2 : Hid (Bk w2 w0.heap.size 24 #[.int .i64 0, .string ⟨#[]⟩, .int .i64 0, .int .i64 0, .slice none 0 0]) := Bk.bg HB1.out hb2 (by omega)
  have HG2 : Hid (Bg w0.heap.size g w0 w2) := HG1.out.trans (hb2.mono (by have := HZ1.out; omega))
  have hz2 : w0.heap.size + 1 ≤ w2.heap.size := by have := hb2.size; have := HZ1.out; omega
  clear hr2 hb2 HB1 HG1 HR1
  have hx0 := HB2.out.cell 0
  have hx1 := HB2.out.cell 1
  have hx2 := HB2.out.cell 2
  have hx3 := HB2.out.cell 3
  have hx4 := HB2.out.cell 4
  simp at hx0 hx1 hx2 hx3 hx4
  have hf0 := HB2.out.frozen 0
  have hf1 := HB2.out.frozen 1
  have hf2 := HB2.out.frozen 2
  have hf3 := HB2.out.frozen 3
  have hf4 := HB2.out.frozen 4
  have hlt2 : w0.heap.size < w2.heap.size := by omega
  clear hz2
  obtain ⟨k0, n0, a0, b0, l0⟩ := e
  simp only [Ex.k, Ex.n, Ex.a, Ex.b, Ex.l]
  go_wp2_with fail
  go_region
  go_wp2_with fail
  refine pt_ret (e := .mk k0 n0 a0 b0 l0) (A := A) (c := c) Tryd.results49 rfl rfl rfl ⟨?_, ?_, ?_, fun _ h => by cases h⟩
  · exact ((HR2.out.far5 (by omega) _ _ _ _ _).alloc _).drew
  · exact ((HG2.out.set5 (Nat.le_refl _) _ _ _ _ _).alloc (by simp; omega) _).drew
  · exact ((HB2.out.set5 _ _ _ _ _).alloc _).drew

set_option maxRecDepth 100000 in
set_option maxHeartbeats 1600000 in
/-- one: a bracket, what is in it, perhaps the closing one -/
theorem oneB_any (g : Nat) (s : ByteArray) (i j0 : Nat) (w : World) (h : Rp w g s i) (hi : i ≤ s.size) (hs : s.size ≤ 1000000000000) (ch : Nat → Option Ex × Nat) (hch : ChOK g s j0 ch) (hj : j0 ≤ i + 1) (j k : Nat) (y : Ex) (hk : k ≤ s.size) (h1 : takeP 40 s.data.toList i = (true, j)) (h2 : ch j = (some y, k)) (ok : Bool) (k2 : Nat) (h3 : takeP 41 s.data.toList k = (ok, k2)) :
    Calls Tryd.prog 49 #[.pointer (some ⟨g, 0, none⟩)] w (Pt w g s (if ok then some y else none, k2)) := by
  obtain ⟨R, HRR⟩ : ∃ R, Hid (R = if ok then some y else none) := ⟨_, rfl⟩
  rw [← HRR.out]
  have hg := h.lt
  have hjs : i + 1 ≤ j ∧ j ≤ s.size := by
    have := take_le (c := 40) (by decide) (t := s.data.toList) (i := i) (by rw [ba_len]; exact hi)
    rw [h1, ba_len] at this
    refine ⟨?_, this⟩
    unfold takeP at h1; simp only at h1
    split at h1
    · cases h1; have := skip_ge s.data.toList i; omega
    · cases h1
  obtain ⟨w0, rfl⟩ : ∃ w0 : World, w0 = w := ⟨_, rfl⟩
  have C0 := Lib.hid fun w1 hr => take_any g s i 40 w1 hr hi hs
  rw [h1] at C0
  have C1 := Lib.hid fun w1 hr => hch j w1 hr (by omega) hjs.2
  rw [h2] at C1
  have C2 := Lib.hid fun w1 hr => take_any g s k 41 w1 hr hk hs
  rw [h3] at C2
  have Hh := Lib.hid h
  clear h1 h2 h3 h hch
  go_enter Tryd.func49, Tryd.ntmps49
  go_wp2_with fail
  refine (C0.out _ (by exact Hh.out.alloc _)).mono ?_
  clear C0
  rintro e w1 ⟨rfl, hr1, hb1⟩
  have HR1 := Lib.hid hr1
  have HB1 : Hid (Bk w1 w0.heap.size 24 #[.int .i64 0, .string ⟨#[]⟩, .int .i64 0, .int .i64 0, .slice none 0 0]) := Bk.bg (Bk.new _ _ _) hb1 (by omega)
  have HG1 : Hid (Bg w0.heap.size g w0 w1) := ((Bg.refl _ _ _).alloc (Nat.le_refl _) _).trans (hb1.mono (by simp))
  have hz1 : w0.heap.size + 1 ≤ w1.heap.size := by have := hb1.size; simpa using this
  have HZ1 := Lib.hid hz1
  clear hr1 hb1 hz1
  go_wp2_with fail
  refine (C1.out _ HR1.out).mono ?_
  clear C1
  rintro x w2 ⟨e, A, c, rfl, hr2, hb2, hy⟩
  obtain ⟨rfl, hkd⟩ := hy y rfl
  clear hy
  have HR2 := Lib.hid hr2
  have HB2 : Hid (Bk w2 w0.heap.size 24 #[.int .i64 0, .string ⟨#[]⟩, .int .i64 0, .int .i64 0, .slice none 0 0]) := Bk.bg HB1.out hb2 (by omega)
  have HG2 : Hid (Bg w0.heap.size g w0 w2) := HG1.out.trans (hb2.mono (by have := HZ1.out; omega))
  have hz2 : w0.heap.size + 1 ≤ w2.heap.size := by have := hb2.size; have := HZ1.out; omega
  have HKD : Hid (Kd w2 (fun b => w0.heap.size + 1 ≤ b) (.slice A e.l.length c) e.l) := hkd.later (by have := HZ1.out; omega)
  clear hr2 hb2 HB1 HG1 HR1 hkd HZ1
  have hlt2 : w0.heap.size < w2.heap.size := by omega
  clear hz2
  go_wp2_with fail
  -- the region: the load, the call, the store
  have HB3 : Hid (Bk (w2.alloc (.cells #[.int .i64 e.k, .string e.n, .int .i64 e.a, .int .i64 e.b, .slice A e.l.length c] 24)) w0.heap.size 24 #[.int .i64 0, .string ⟨#[]⟩, .int .i64 0, .int .i64 0, .slice none 0 0]) := HB2.out.alloc _
  have HR3 : Hid (Rp (w2.alloc (.cells #[.int .i64 e.k, .string e.n, .int .i64 e.a, .int .i64 e.b, .slice A e.l.length c] 24)) g s k) := HR2.out.alloc _
  have HG3 : Hid (Bg w0.heap.size g w0 (w2.alloc (.cells #[.int .i64 e.k, .string e.n, .int .i64 e.a, .int .i64 e.b, .slice A e.l.length c] 24))) := HG2.out.alloc (by omega) _
  have HKD3 : Hid (Kd (w2.alloc (.cells #[.int .i64 e.k, .string e.n, .int .i64 e.a, .int .i64 e.b, .slice A e.l.length c] 24)) (fun b => w0.heap.size + 1 ≤ b) (.slice A e.l.length c) e.l) := HKD.out.new _
  have HB4 : Hid (Bk (w2.alloc (.cells #[.int .i64 e.k, .string e.n, .int .i64 e.a, .int .i64 e.b, .slice A e.l.length c] 24)) w2.heap.size 24 #[.int .i64 e.k, .string e.n, .int .i64 e.a, .int .i64 e.b, .slice A e.l.length c]) := Bk.new _ _ _
  have hlt3 : w2.heap.size < (w2.alloc (.cells #[.int .i64 e.k, .string e.n, .int .i64 e.a, .int .i64 e.b, .slice A e.l.length c] 24)).heap.size := by simp
  clear HB2 HR2 HG2 HKD
  obtain ⟨k0, n0, a0, b0, l0⟩ := e
  simp only [Ex.k, Ex.n, Ex.a, Ex.b, Ex.l] at *
  go_region_with ((go_at_call 37; refine (C2.out _ HR3.out.drew).mono ?_; rintro e3 w3 ⟨rfl, hr3, hb3⟩; obtain ⟨⟨x0, x1, x2, x3, x4⟩, y0, y1, y2, y3, y4⟩ := Bk.five (HB3.out.bgd hb3 (by omega)); obtain ⟨⟨z0, z1, z2, z3, z4⟩, -⟩ := Bk.five (HB4.out.bgd hb3 (by omega)); have Hr3 := Lib.hid hr3; have Q3 := Lib.hid (HB3.out.bgd hb3 (by omega)); have G3 := Lib.hid (HG3.out.drew.trans (hb3.mono (by show _ ≤ (w2.alloc _).heap.size; omega))); have K3 := Lib.hid (HKD3.out.drew.bg hb3 (by omega)); clear hr3 hb3))
  all_goals
    go_wp2_with fail
    refine pt_ret (e := .mk k0 n0 a0 b0 l0) (A := A) (c := c) Tryd.results49 rfl (by rw [HRR.out]; cases ok <;> rfl) rfl ⟨?_, ?_, ?_, fun y hy => ?_⟩
    · exact Hr3.out.far5 (by omega) _ _ _ _ _
    · exact G3.out.set5 (Nat.le_refl _) _ _ _ _ _
    · exact Q3.out.set5 _ _ _ _ _
    · refine ⟨?_, (K3.out.far5 (by omega) _ _ _ _ _).later (by omega)⟩
      rw [HRR.out] at hy
      cases ok
      · cases hy
      · simpa using hy

theorem take_no {c : UInt8} {t : List UInt8} {i j : Nat} (h : takeP c t i = (false, j)) : j = skipN t i := by
  unfold takeP at h; simp only at h
  split at h
  · cases h
  · cases h; rfl
theorem take_yes {c : UInt8} {t : List UInt8} {i j : Nat} (h : takeP c t i = (true, j)) : j = skipN t i + 1 ∧ peek t (skipN t i) = c := by
  unfold takeP at h; simp only at h
  split at h
  · cases h; exact ⟨rfl, by assumption⟩
  · cases h

set_option maxRecDepth 100000 in
set_option maxHeartbeats 1600000 in
/-- one: a name, which may be or not -/
theorem oneC_any (g : Nat) (s : ByteArray) (i : Nat) (w : World) (h : Rp w g s i) (hi : i ≤ s.size) (hs : s.size ≤ 1000000000000) (j : Nat) (h1 : takeP 40 s.data.toList i = (false, j)) (m : List UInt8) (hm : m = runL 97 122 s.data.toList j) (d : Bool) (hd : nameB (baOf m) = d) :
    Calls Tryd.prog 49 #[.pointer (some ⟨g, 0, none⟩)] w (Pt w g s (if d then (some (.mk 1 (baOf m) 0 0 []), j + m.length) else (none, j))) := by
  obtain ⟨R, HRR⟩ : ∃ R, Hid (R = if d then (some (Ex.mk 1 (baOf m) 0 0 []), j + m.length) else (none, j)) := ⟨_, rfl⟩
  rw [← HRR.out]
  have hg := h.lt
  have hj := take_no h1
  have hjs : j ≤ s.size := by have := skip_le (t := s.data.toList) (k := i) (by rw [ba_len]; exact hi); rw [ba_len] at this; omega
  have hjj : skipN s.data.toList j = j := by rw [hj]; exact skip_skip _ _
  have hlen : j + m.length ≤ s.size := by have := run_len 97 122 (t := s.data.toList) (k := j) (by rw [ba_len]; exact hjs); rw [← hm, ba_len] at this; exact this
  obtain ⟨w0, rfl⟩ : ∃ w0 : World, w0 = w := ⟨_, rfl⟩
  have C0 := Lib.hid fun w1 hr => take_any g s i 40 w1 hr hi hs
  rw [h1] at C0
  have C1 := Lib.hid fun w1 hr => run_any g s j 97 122 w1 hr hjs hs
  rw [hjj, ← hm] at C1
  have C2 := Lib.hid fun w1 => name_any (baOf m) w1
  rw [hd] at C2
  have hsub : j + m.length - (baOf m).size = j := by rw [baOf_len]; omega
  have C3 := Lib.hid fun w1 hr => back_any g s (j + m.length) (baOf m) w1 hr (by omega) (by rw [baOf_len]; omega)
  rw [hsub] at C3
  have Hh := Lib.hid h
  clear h1 hj hjj hm hd hsub h
  generalize baOf m = M at *
  generalize m.length = ml at *
  go_enter Tryd.func49, Tryd.ntmps49
  go_wp2_with fail
  refine (C0.out _ (by exact Hh.out.alloc _)).mono ?_
  clear C0
  rintro e w1 ⟨rfl, hr1, hb1⟩
  have HR1 := Lib.hid hr1
  have HB1 : Hid (Bk w1 w0.heap.size 24 #[.int .i64 0, .string ⟨#[]⟩, .int .i64 0, .int .i64 0, .slice none 0 0]) := Bk.bg (Bk.new _ _ _) hb1 (by omega)
  have HG1 : Hid (Bg w0.heap.size g w0 w1) := ((Bg.refl _ _ _).alloc (Nat.le_refl _) _).trans (hb1.mono (by simp))
  have HZ1 : Hid (w0.heap.size + 1 ≤ w1.heap.size) := by have := hb1.size; show _ ≤ _; simpa using this
  clear hr1 hb1
  go_wp2_with fail
  refine (C1.out _ HR1.out).mono ?_
  clear C1
  rintro x w2 ⟨rfl, hr2, hb2⟩
  have HR2 := Lib.hid hr2
  have HB2 := Lib.hid (HB1.out.bg hb2 (by omega))
  have HG2 : Hid (Bg w0.heap.size g w0 w2) := HG1.out.trans (hb2.mono (by have := HZ1.out; omega))
  have HZ2 : Hid (w0.heap.size + 1 ≤ w2.heap.size) := by have := hb2.size; have := HZ1.out; show _ ≤ _; omega
  clear hr2 hb2 HR1 HB1 HG1 HZ1
  go_wp2_with fail
  refine (C2.out _).mono ?_
  clear C2
  rintro x w3 ⟨rfl, hb3⟩
  have HR3 := Lib.hid (HR2.out.all hb3)
  have HB3 := Lib.hid (HB2.out.all hb3)
  have HG3 : Hid (Bg w0.heap.size g w0 w3) := HG2.out.below (hb3.mono (by have := HZ2.out; omega))
  have HZ3 : Hid (w0.heap.size + 1 ≤ w3.heap.size) := by have := hb3.size; have := HZ2.out; show _ ≤ _; omega
  clear hb3 HR2 HB2 HG2 HZ2
  cases d
  · go_wp2_with fail
    refine (C3.out _ HR3.out).mono ?_
    clear C3
    rintro x w4 ⟨rfl, hr4, hb4⟩
    have HR4 := Lib.hid hr4
    have HB4 := Lib.hid (HB3.out.bg hb4 (by omega))
    have HG4 : Hid (Bg w0.heap.size g w0 w4) := HG3.out.trans (hb4.mono (by have := HZ3.out; omega))
    have hlt : w0.heap.size < w4.heap.size := by have := hb4.size; have := HZ3.out; omega
    obtain ⟨⟨x0, x1, x2, x3, x4⟩, y0, y1, y2, y3, y4⟩ := Bk.five HB4.out
    clear hr4 hb4
    go_wp2_with fail
    refine pt_ret (e := .mk 0 ⟨#[]⟩ 0 0 []) (A := none) (c := 0) Tryd.results49 rfl (by rw [HRR.out]; rfl) rfl ⟨?_, ?_, ?_, fun y hy => ?_⟩
    · rw [HRR.out]; exact HR4.out.far5 (by omega) _ _ _ _ _
    · exact HG4.out.set5 (Nat.le_refl _) _ _ _ _ _
    · exact HB4.out.set5 _ _ _ _ _
    · rw [HRR.out] at hy; cases hy
  · have hlt : w0.heap.size < w3.heap.size := by have := HZ3.out; omega
    obtain ⟨⟨x0, x1, x2, x3, x4⟩, y0, y1, y2, y3, y4⟩ := Bk.five HB3.out
    clear C3
    go_wp2_with fail
    refine pt_ret (e := .mk 1 M 0 0 []) (A := none) (c := 0) Tryd.results49 rfl (by rw [HRR.out]; rfl) rfl ⟨?_, ?_, ?_, fun y hy => ?_⟩
    · rw [HRR.out]; exact HR3.out.far5 (by omega) _ _ _ _ _
    · exact HG3.out.set5 (Nat.le_refl _) _ _ _ _ _
    · exact HB3.out.set5 _ _ _ _ _
    · rw [HRR.out] at hy
      refine ⟨by simpa using hy, Kd.nil _ _⟩

/-- one -/
theorem one_any (g : Nat) (s : ByteArray) (i j0 : Nat) (w : World) (h : Rp w g s i) (hi : i ≤ s.size) (hs : s.size ≤ 1000000000000) (ch : Nat → Option Ex × Nat) (hch : ChOK g s j0 ch) (hfn : Fine s.size ch) (hj : j0 ≤ i + 1) :
    Calls Tryd.prog 49 #[.pointer (some ⟨g, 0, none⟩)] w (Pt w g s (oneP s.data.toList ch i)) := by
  rcases h1 : takeP 40 s.data.toList i with ⟨b, j⟩
  cases b
  · have hj := take_no h1
    have e1 : oneP s.data.toList ch i = if nameB (baOf (runL 97 122 s.data.toList j)) then (some (.mk 1 (baOf (runL 97 122 s.data.toList j)) 0 0 []), j + (runL 97 122 s.data.toList j).length) else (none, j) := by
      unfold oneP; rw [h1]; simp only [Bool.false_eq_true, if_false]; rw [← hj]
    rw [e1]
    exact oneC_any g s i w h hi hs j h1 _ rfl _ rfl
  · rcases h2 : ch j with ⟨o, k⟩
    have hjs := take_le (c := 40) (by decide) (t := s.data.toList) (i := i) (by rw [ba_len]; exact hi)
    rw [h1, ba_len] at hjs
    cases o with
    | none =>
      have e1 : oneP s.data.toList ch i = (none, k) := by unfold oneP; rw [h1]; simp only [if_true]; rw [h2]
      rw [e1]
      exact oneA_any g s i j0 w h hi hs ch hch hj j k h1 h2
    | some y =>
      rcases h3 : takeP 41 s.data.toList k with ⟨ok, k2⟩
      have e1 : oneP s.data.toList ch i = (if ok then some y else none, k2) := by
        unfold oneP; rw [h1]; simp only [if_true]; rw [h2]; simp only; rw [h3]; cases ok <;> rfl
      rw [e1]
      exact oneB_any g s i j0 w h hi hs ch hch hj j k y (hfn j y k hjs h2).2.1 h1 h2 ok k2 h3

theorem one_fine {s : ByteArray} {ch : Nat → Option Ex × Nat} (hfn : Fine s.size ch) : Fine s.size (oneP s.data.toList ch) := by
  intro i e k hi he
  rcases h1 : takeP 40 s.data.toList i with ⟨b, j⟩
  have hsk := skip_ge s.data.toList i
  cases b
  · have hj := take_no h1
    unfold oneP at he; rw [h1] at he; simp only [Bool.false_eq_true, if_false] at he
    split at he
    · rename_i hn
      cases he
      have hl := run_len 97 122 (t := s.data.toList) (k := skipN s.data.toList i) (skip_le (by rw [ba_len]; exact hi))
      rw [ba_len] at hl
      have h1 : 1 ≤ (runL 97 122 s.data.toList (skipN s.data.toList i)).length := by
        simp only [nameB, Bool.and_eq_true, decide_eq_true_eq, baOf_len] at hn; exact hn.1.1
      refine ⟨?_, hl, fun h => ?_⟩
      · rw [Ex.wtE, Ex.wtL]; omega
      · rcases h with h | h <;> exact absurd h (by simp [Ex.k])
    · cases he
  · obtain ⟨hj, -⟩ := take_yes h1
    have hjs := take_le (c := 40) (by decide) (t := s.data.toList) (i := i) (by rw [ba_len]; exact hi)
    rw [h1, ba_len] at hjs
    unfold oneP at he; rw [h1] at he; simp only [if_true] at he
    rcases h2 : ch j with ⟨o, k1⟩
    rw [h2] at he
    cases o with
    | none => cases he
    | some y =>
      have hy := hfn j y k1 hjs h2
      rcases h3 : takeP 41 s.data.toList k1 with ⟨ok, k2⟩
      simp only [h3] at he
      cases ok
      · cases he
      · cases he
        obtain ⟨hk2, -⟩ := take_yes h3
        have hs1 := skip_ge s.data.toList k1
        have hk3 := take_le (c := 41) (by decide) (t := s.data.toList) (i := k1) (by rw [ba_len]; exact hy.2.1)
        rw [h3, ba_len] at hk3
        refine ⟨by omega, hk3, hy.2.2⟩
end Go.Proofs.YtfbcafapnagjfaaDoor
