/- expr: the law's own helpers: name, example, bad. -/
import Derived.Test.YtfbcafapnagjfaaDoorExY
namespace Go.Proofs.YtfbcafapnagjfaaDoor
open Go.RowKit

def nmE (l : List UInt8) : Ex := .mk 1 (baOf l) 0 0 []
def liE : Ex := .mk 4 (baOf []) 2 3 [nmE [108, 105]]
def altE : Ex := .mk 3 (baOf []) 0 0 [nmE [104], liE]
def pE : Ex := .mk 4 (baOf []) 1 (-1) [nmE [112]]
def staE : Ex := .mk 4 (baOf []) 0 (-1) [altE]
def exE : Ex := .mk 2 (baOf []) 0 0 [pE, staE]
def exT : List UInt8 := [112, 43, 32, 40, 104, 32, 124, 32, 108, 105, 123, 50, 44, 51, 125, 41, 42]
theorem exE_check : checkE exE = 0 := by kernel_rfl
theorem exE_ok : okT exE := (by kernel_rfl : exE.anyE illB = false)
theorem exE_text : exE.textE = exT := by kernel_rfl
theorem exE_parse : parseP exT = (some exE, 0, 0) := by kernel_rfl
theorem exE_same : sameM 64 exE exE = true := by decide +kernel
theorem p1 : parseP [112, 32, 124] = (none, 3, 4) := by kernel_rfl
theorem p2 : parseP [] = (some (.mk 2 (baOf []) 0 0 []), 0, 0) := by kernel_rfl
theorem p3 : parseP [40, 40, 112, 41, 41] = (some (nmE [112]), 0, 0) := by kernel_rfl
theorem p4 : parseP [112, 41] = (none, 1, 4) := by kernel_rfl
theorem p5 : parseP [80] = (none, 0, 4) := by kernel_rfl
theorem p6 : parseP [112, 123, 51, 44, 50, 125] = (none, 1, 4) := by kernel_rfl
theorem p7 : parseP [112, 123, 48, 125] = (none, 1, 4) := by kernel_rfl
theorem c0 : checkE (.mk 0 (baOf []) 0 0 []) = 2 := by kernel_rfl
theorem s1 : sameM 64 (.mk 2 (baOf []) 0 0 []) (.mk 2 (baOf []) 0 0 []) = true := by decide +kernel
theorem s2 : sameM 64 (nmE [112]) (nmE [112]) = true := by decide +kernel

set_option maxRecDepth 100000 in
theorem nm_any (s : ByteArray) (w : World) : Calls Tryd.prog 7 #[.string s] w fun e w' => e = .returned (.agg #[.int .i64 1, .string s, .int .i64 0, .int .i64 0, .slice none 0 0]) ∧ Below w.heap.size w w' := by
  go_enter Tryd.func7, Tryd.ntmps7
  go_wp2_with fail
  exact bodyPost_ret (v := .agg #[.int .i64 1, .string s, .int .i64 0, .int .i64 0, .slice none 0 0]) (by simp [results, Tryd.results7, go_sem]) rfl ⟨rfl, box_below _ _⟩

def BadR (c : Bool) (w : World) (e : Ending) (w' : World) : Prop := e = .returned (.bool c) ∧ Below w.heap.size w w'
set_option maxRecDepth 100000 in
theorem bad_any (t : List UInt8) (n : Int) (hp : parseP t = (none, n, 4)) (w : World) : Calls Tryd.prog 8 #[.string (baOf t), .int .i64 n] w (BadR true w) := by
  have C := Parse_any (baOf t) w
  rw [baOf_list, hp] at C
  have HC := Lib.hid C
  clear C hp
  go_enter Tryd.func8, Tryd.ntmps8
  go_wp2_with fail
  refine (HC.out).mono ?_
  clear HC
  rintro x w1 ⟨e, A, c, rfl, -, hb, -⟩
  have HB := Lib.hid (hb.alloc hb.size (.cells #[.int .i64 e.k, .string e.n, .int .i64 e.a, .int .i64 e.b, .slice A e.l.length c] 24))
  clear hb
  go_wp2_with fail
  go_ret
  exact ⟨rfl, HB.out⟩

/-- a literal of expressions -/
theorem Kd.lit {w : World} {S : Nat → Prop} {b n : Nat} {l : List Ex} (ss : List Value) (hl : ss.length = l.length) (hn : l.length = n) (hm : n ≤ 1000) (hb : S b) (cs : Array Value) (hcs : cs.toList = exCs l ss) (hc : Bk w b 24 cs)
    (hk : ∀ i (hi : i < l.length), Kd w S (ss[i]'(by omega)) l[i].l) : Kd w S (.slice (some ⟨b, 0, none⟩) n n) l := by
  subst hn
  refine .mk _ _ ss hl ⟨_, _, rfl, exCs_len l ss hl, Nat.le_refl _, by unfold maxLen; omega, .inr ⟨b, 0, rfl, hb, fun j u hu => ?_⟩⟩ hk
  rw [Nat.zero_add, Bk.cell hc j, ← Array.getElem?_toList, hcs]; exact hu

theorem Bk.new1 (w : World) (o : Obj) (t : TypeId) (cs : Array Value) : Bk ((w.alloc o).alloc (.cells cs t)) (w.heap.size + 1) t cs := by
  have := Bk.new (w.alloc o) t cs; rw [World.size_alloc] at this; exact this
theorem Bk.new5 (w : World) (b : Nat) (v0 v1 v2 v3 v4 : Value) (t : TypeId) (cs : Array Value) : Bk ((((((w.setCell ⟨b, 0, none⟩ v0).setCell ⟨b, 1, none⟩ v1).setCell ⟨b, 2, none⟩ v2).setCell ⟨b, 3, none⟩ v3).setCell ⟨b, 4, none⟩ v4).alloc (.cells cs t)) w.heap.size t cs := by
  have := Bk.new (((((w.setCell ⟨b, 0, none⟩ v0).setCell ⟨b, 1, none⟩ v1).setCell ⟨b, 2, none⟩ v2).setCell ⟨b, 3, none⟩ v3).setCell ⟨b, 4, none⟩ v4) t cs
  simpa [World.size_setCell] using this
theorem Bk.far5b {w : World} {g b : Nat} {t : TypeId} {cs : Array Value} (h : Bk w g t cs) (hb : g ≠ b) (v0 v1 v2 v3 v4 : Value) : Bk (((((w.setCell ⟨b, 0, none⟩ v0).setCell ⟨b, 1, none⟩ v1).setCell ⟨b, 2, none⟩ v2).setCell ⟨b, 3, none⟩ v3).setCell ⟨b, 4, none⟩ v4) g t cs :=
  ((((h.far (p := ⟨b, 0, none⟩) hb _).far (p := ⟨b, 1, none⟩) hb _).far (p := ⟨b, 2, none⟩) hb _).far (p := ⟨b, 3, none⟩) hb _).far (p := ⟨b, 4, none⟩) hb _
theorem Below.set5 {a w : World} {B b : Nat} (h : Below B a w) (hb : B ≤ b) (v0 v1 v2 v3 v4 : Value) : Below B a (((((w.setCell ⟨b, 0, none⟩ v0).setCell ⟨b, 1, none⟩ v1).setCell ⟨b, 2, none⟩ v2).setCell ⟨b, 3, none⟩ v3).setCell ⟨b, 4, none⟩ v4) :=
  ((((h.setCell (p := ⟨b, 0, none⟩) hb _).setCell (p := ⟨b, 1, none⟩) hb _).setCell (p := ⟨b, 2, none⟩) hb _).setCell (p := ⟨b, 3, none⟩) hb _).setCell (p := ⟨b, 4, none⟩) hb _

theorem Bk.at0 (w : World) {n : Nat} (h : w.heap.size = n) (t : TypeId) (cs : Array Value) : Bk (w.alloc (.cells cs t)) n t cs := by subst h; exact Bk.new _ _ _
theorem Bk.at2 (w : World) (o o2 : Obj) {n : Nat} (h : w.heap.size = n) (t : TypeId) (cs : Array Value) : Bk (((w.alloc o).alloc o2).alloc (.cells cs t)) (n + 1 + 1) t cs := by
  subst h
  have := Bk.new ((w.alloc o).alloc o2) t cs; simpa [World.size_alloc] using this
theorem Bk.at3 (w : World) (o o2 o3 : Obj) {n : Nat} (h : w.heap.size = n) (t : TypeId) (cs : Array Value) : Bk ((((w.alloc o).alloc o2).alloc o3).alloc (.cells cs t)) (n + 1 + 1 + 1) t cs := by
  subst h
  have := Bk.new (((w.alloc o).alloc o2).alloc o3) t cs; simpa [World.size_alloc] using this
theorem kd_name {w : World} {B : Nat} (l : List UInt8) : Kd w (fun b => B ≤ b) (.slice none 0 0) (nmE l).l := Kd.nil _ _
set_option maxRecDepth 100000 in
theorem example_end {w0 W : World} {bt ba bp bs bl : Nat} {fn : Func} {a : Act} (hf : fn.results = #[.cell 0 24]) (h0 : a.tmps.getD 0 undef = .pointer (some ⟨w0.heap.size, 0, none⟩)) (hd : a.defers = []) (hb : Below w0.heap.size w0 W)
    (hr : Bk W w0.heap.size 24 #[.int .i64 2, .string ⟨#[]⟩, .int .i64 0, .int .i64 0, .slice (some ⟨bt, 0, none⟩) 2 2])
    (ht : Bk W bt 24 #[.int .i64 4, .string ⟨#[]⟩, .int .i64 1, .int .i64 (-1), .slice (some ⟨bp, 0, none⟩) 1 1, .int .i64 4, .string ⟨#[]⟩, .int .i64 0, .int .i64 (-1), .slice (some ⟨ba, 0, none⟩) 1 1])
    (ha : Bk W ba 24 #[.int .i64 3, .string ⟨#[]⟩, .int .i64 0, .int .i64 0, .slice (some ⟨bs, 0, none⟩) 2 2])
    (hp : Bk W bp 24 #[.int .i64 1, .string ⟨#[112]⟩, .int .i64 0, .int .i64 0, .slice none 0 0])
    (hs : Bk W bs 24 #[.int .i64 1, .string ⟨#[104]⟩, .int .i64 0, .int .i64 0, .slice none 0 0, .int .i64 4, .string ⟨#[]⟩, .int .i64 2, .int .i64 3, .slice (some ⟨bl, 0, none⟩) 1 1])
    (hl : Bk W bl 24 #[.int .i64 1, .string ⟨#[108, 105]⟩, .int .i64 0, .int .i64 0, .slice none 0 0])
    (g1 : w0.heap.size ≤ bt) (g2 : w0.heap.size ≤ ba) (g3 : w0.heap.size ≤ bp) (g4 : w0.heap.size ≤ bs) (g5 : w0.heap.size ≤ bl) :
    bodyPost Tryd.prog fn (ListR w0 w0.heap.size exE) .ret a W := by
  have kl : Kd W (fun b => w0.heap.size ≤ b) (.slice (some ⟨bl, 0, none⟩) 1 1) liE.l := Kd.lit [.slice none 0 0] rfl rfl (by omega) g5 _ rfl hl fun i hi => by
    obtain rfl : i = 0 := by simpa [liE, Ex.l] using hi
    exact Kd.nil _ _
  have ks : Kd W (fun b => w0.heap.size ≤ b) (.slice (some ⟨bs, 0, none⟩) 2 2) altE.l := Kd.lit [.slice none 0 0, .slice (some ⟨bl, 0, none⟩) 1 1] rfl rfl (by omega) g4 _ rfl hs fun i hi => by
    match i, hi with
    | 0, _ => exact Kd.nil _ _
    | 1, _ => exact kl
  have ka : Kd W (fun b => w0.heap.size ≤ b) (.slice (some ⟨ba, 0, none⟩) 1 1) staE.l := Kd.lit [.slice (some ⟨bs, 0, none⟩) 2 2] rfl rfl (by omega) g2 _ rfl ha fun i hi => by
    match i, hi with
    | 0, _ => exact ks
  have kp : Kd W (fun b => w0.heap.size ≤ b) (.slice (some ⟨bp, 0, none⟩) 1 1) pE.l := Kd.lit [.slice none 0 0] rfl rfl (by omega) g3 _ rfl hp fun i hi => by
    match i, hi with
    | 0, _ => exact Kd.nil _ _
  have kt : Kd W (fun b => w0.heap.size ≤ b) (.slice (some ⟨bt, 0, none⟩) 2 2) exE.l := Kd.lit [.slice (some ⟨bp, 0, none⟩) 1 1, .slice (some ⟨ba, 0, none⟩) 1 1] rfl rfl (by omega) g1 _ rfl ht fun i hi => by
    match i, hi with
    | 0, _ => exact kp
    | 1, _ => exact ka
  obtain ⟨⟨x0, x1, x2, x3, x4⟩, -⟩ := Bk.five hr
  refine bodyPost_ret (v := .agg #[.int .i64 2, .string ⟨#[]⟩, .int .i64 0, .int .i64 0, .slice (some ⟨bt, 0, none⟩) 2 2]) ?_ hd ⟨some ⟨bt, 0, none⟩, 2, rfl, kt, hb⟩
  obtain ⟨tmps, defers⟩ := a
  have e0 : tmps[0]?.getD undef = .pointer (some ⟨w0.heap.size, 0, none⟩) := by simpa using h0
  simp [results, hf, e0, go_sem, x0, x1, x2, x3, x4]

set_option maxRecDepth 100000 in
set_option maxHeartbeats 1600000 in
theorem example_any (w : World) : Calls Tryd.prog 12 #[] w (ListR w w.heap.size exE) := by
  obtain ⟨w0, rfl⟩ : ∃ w0 : World, w0 = w := ⟨_, rfl⟩
  go_enter Tryd.func12, Tryd.ntmps12
  go_wp2_with fail
  refine (nm_any _ _).mono ?_
  rintro x w1 ⟨rfl, hb1⟩
  have HR1 : Hid (Bk w1 w0.heap.size 24 #[.int .i64 0, .string ⟨#[]⟩, .int .i64 0, .int .i64 0, .slice none 0 0]) := Bk.all (Bk.new _ _ _) hb1
  have HB1 : Hid (Below w0.heap.size w0 w1) := (box_below _ _).trans (hb1.mono (by simp))
  have hz1 : w0.heap.size < w1.heap.size := HR1.out.lt
  clear hb1
  go_upto_region 2 with (fail)
  have hL1 := Bk.new (w1.alloc (.cells #[.int .i64 1, .string ⟨#[108, 105]⟩, .int .i64 0, .int .i64 0, .slice none 0 0] 24)) 24 #[.int .i64 4, .string ⟨#[]⟩, .int .i64 2, .int .i64 3, .slice (some ⟨w1.heap.size, 0, none⟩) 1 1]
  rw [World.size_alloc] at hL1
  have HL1 := Lib.hid hL1.drew
  have HN1 : Hid (Bk ((w1.alloc (.cells #[.int .i64 1, .string ⟨#[108, 105]⟩, .int .i64 0, .int .i64 0, .slice none 0 0] 24)).alloc (.cells #[.int .i64 4, .string ⟨#[]⟩, .int .i64 2, .int .i64 3, .slice (some ⟨w1.heap.size, 0, none⟩) 1 1] 24)).drew w1.heap.size 24 #[.int .i64 1, .string ⟨#[108, 105]⟩, .int .i64 0, .int .i64 0, .slice none 0 0]) := Bk.drew ((Bk.new _ _ _).alloc _)
  have HR1' := Lib.hid (Bk.drew ((HR1.out.alloc (.cells #[.int .i64 1, .string ⟨#[108, 105]⟩, .int .i64 0, .int .i64 0, .slice none 0 0] 24)).alloc (.cells #[.int .i64 4, .string ⟨#[]⟩, .int .i64 2, .int .i64 3, .slice (some ⟨w1.heap.size, 0, none⟩) 1 1] 24)))
  have HB1' := Lib.hid (((HB1.out.alloc (by omega) (.cells #[.int .i64 1, .string ⟨#[108, 105]⟩, .int .i64 0, .int .i64 0, .slice none 0 0] 24)).alloc (by simp; omega) (.cells #[.int .i64 4, .string ⟨#[]⟩, .int .i64 2, .int .i64 3, .slice (some ⟨w1.heap.size, 0, none⟩) 1 1] 24)).drew)
  clear hL1 HR1 HB1
  go_cut [2] (fun s2 wx => ∃ b2 bs : Nat, s2 = .pointer (some ⟨b2, 0, none⟩) ∧ w0.heap.size < b2 ∧ w0.heap.size < bs ∧ Hid (Bk wx b2 24 #[.int .i64 3, .string ⟨#[]⟩, .int .i64 0, .int .i64 0, .slice (some ⟨bs, 0, none⟩) 2 2]) ∧
    Hid (Bk wx bs 24 #[.int .i64 1, .string ⟨#[104]⟩, .int .i64 0, .int .i64 0, .slice none 0 0, .int .i64 4, .string ⟨#[]⟩, .int .i64 2, .int .i64 3, .slice (some ⟨w1.heap.size, 0, none⟩) 1 1]) ∧
    Hid (Bk wx w1.heap.size 24 #[.int .i64 1, .string ⟨#[108, 105]⟩, .int .i64 0, .int .i64 0, .slice none 0 0]) ∧ Hid (Bk wx w0.heap.size 24 #[.int .i64 0, .string ⟨#[]⟩, .int .i64 0, .int .i64 0, .slice none 0 0]) ∧ Hid (Below w0.heap.size w0 wx))
  case first =>
    have HT2 : Hid (Bk ((((w1.alloc (.cells #[.int .i64 1, .string ⟨#[108, 105]⟩, .int .i64 0, .int .i64 0, .slice none 0 0] 24)).alloc (.cells #[.int .i64 4, .string ⟨#[]⟩, .int .i64 2, .int .i64 3, .slice (some ⟨w1.heap.size, 0, none⟩) 1 1] 24)).drew).alloc (.cells #[.int .i64 0, .string ⟨#[]⟩, .int .i64 0, .int .i64 0, .slice none 0 0] 24)) (w1.heap.size + 1 + 1) 24 #[.int .i64 0, .string ⟨#[]⟩, .int .i64 0, .int .i64 0, .slice none 0 0]) := by
      have := Bk.new (((w1.alloc (.cells #[.int .i64 1, .string ⟨#[108, 105]⟩, .int .i64 0, .int .i64 0, .slice none 0 0] 24)).alloc (.cells #[.int .i64 4, .string ⟨#[]⟩, .int .i64 2, .int .i64 3, .slice (some ⟨w1.heap.size, 0, none⟩) 1 1] 24)).drew) 24 #[.int .i64 0, .string ⟨#[]⟩, .int .i64 0, .int .i64 0, .slice none 0 0]
      have e : (((w1.alloc (.cells #[.int .i64 1, .string ⟨#[108, 105]⟩, .int .i64 0, .int .i64 0, .slice none 0 0] 24)).alloc (.cells #[.int .i64 4, .string ⟨#[]⟩, .int .i64 2, .int .i64 3, .slice (some ⟨w1.heap.size, 0, none⟩) 1 1] 24)).drew).heap.size = w1.heap.size + 1 + 1 := by show ((w1.alloc _).alloc _).heap.size = _; simp
      rw [e] at this; exact this
    have HLb := Lib.hid (HL1.out.alloc (.cells #[.int .i64 0, .string ⟨#[]⟩, .int .i64 0, .int .i64 0, .slice none 0 0] 24))
    have HNb := Lib.hid (HN1.out.alloc (.cells #[.int .i64 0, .string ⟨#[]⟩, .int .i64 0, .int .i64 0, .slice none 0 0] 24))
    have HRb := Lib.hid (HR1'.out.alloc (.cells #[.int .i64 0, .string ⟨#[]⟩, .int .i64 0, .int .i64 0, .slice none 0 0] 24))
    have HBb := Lib.hid (HB1'.out.alloc (by show _ ≤ ((w1.alloc _).alloc _).heap.size; simp; omega) (.cells #[.int .i64 0, .string ⟨#[]⟩, .int .i64 0, .int .i64 0, .slice none 0 0] 24))
    have hl0 : w1.heap.size + 1 < w1.heap.size + 1 + 1 := by omega
    have hl1 : w1.heap.size < w1.heap.size + 1 + 1 := by omega
    go_region_with (first
      | (go_at_call 7; refine (nm_any _ _).mono ?_; rintro x w2 ⟨rfl, hb2⟩; have HL2 := Lib.hid (HL1.out.all hb2); have HN2 := Lib.hid (HN1.out.all hb2); have HR2 := Lib.hid (HR1'.out.all hb2); have HB2 := Lib.hid (HB1'.out.trans (hb2.mono HB1'.out.size)); have hz2 : w0.heap.size < w2.heap.size := HR2.out.lt; have hz4 : w1.heap.size + 1 < w2.heap.size := HL2.out.lt; clear hb2; obtain ⟨⟨z0, z1, z2, z3, z4⟩, -⟩ := Bk.five HL2.out)
      | (go_at_call 7; refine (nm_any _ _).mono ?_; rintro x w2 ⟨rfl, hb2⟩; have HL2 := Lib.hid (HLb.out.all hb2); have HN2 := Lib.hid (HNb.out.all hb2); have HR2 := Lib.hid (HRb.out.all hb2); have HB2 := Lib.hid (HBb.out.trans (hb2.mono HBb.out.size)); have HT3 := Lib.hid (HT2.out.all hb2); have hz2 : w0.heap.size < w2.heap.size := HR2.out.lt; have hz4 : w1.heap.size + 1 < w2.heap.size := HL2.out.lt; have hz3 : w1.heap.size + 1 + 1 < w2.heap.size := HT3.out.lt; clear hb2; obtain ⟨⟨z0, z1, z2, z3, z4⟩, -⟩ := Bk.five HL2.out; obtain ⟨⟨q0, q1, q2, q3, q4⟩, r0, r1, r2, r3, r4⟩ := Bk.five HT3.out))
    all_goals go_wp2_with fail
    all_goals go_meet
    · exact ⟨w2.heap.size + 1, w2.heap.size, rfl, by omega, by omega, Bk.new1 _ _ _ _, (Bk.new _ _ _).alloc _, (HN2.out.alloc _).alloc _, (HR2.out.alloc _).alloc _, (HB2.out.alloc (by omega) _).alloc (by simp; omega) _⟩
    · exact ⟨w2.heap.size, w2.heap.size + 1, rfl, by omega, by omega, (Bk.new _ _ _).alloc _, Bk.new1 _ _ _ _, (HN2.out.alloc _).alloc _, (HR2.out.alloc _).alloc _, (HB2.out.alloc (by omega) _).alloc (by simp; omega) _⟩
    · exact ⟨w2.heap.size, w2.heap.size + 1, rfl, by omega, by omega, (Bk.new _ _ _).alloc _, Bk.new1 _ _ _ _, (HN2.out.alloc _).alloc _, (HR2.out.alloc _).alloc _, (HB2.out.alloc (by omega) _).alloc (by simp; omega) _⟩
    · exact ⟨w2.heap.size + 1, w2.heap.size, rfl, by omega, by omega, Bk.new1 _ _ _ _, (Bk.new _ _ _).alloc _, (HN2.out.alloc _).alloc _, (HR2.out.alloc _).alloc _, (HB2.out.alloc (by omega) _).alloc (by simp; omega) _⟩
    · exact ⟨w2.heap.size, w2.heap.size + 1, rfl, by omega, by omega, (Bk.new _ _ _).alloc _, Bk.new1 _ _ _ _, (HN2.out.alloc _).alloc _, (HR2.out.alloc _).alloc _, (HB2.out.alloc (by omega) _).alloc (by simp; omega) _⟩
    all_goals exact ⟨w1.heap.size + 1 + 1, w2.heap.size, rfl, by omega, by omega, (HT3.out.set5 _ _ _ _ _).alloc _, Bk.new5 _ _ _ _ _ _ _ _ _, (HN2.out.far5b (by omega) _ _ _ _ _).alloc _, (HR2.out.far5b (by omega) _ _ _ _ _).alloc _, (Below.set5 HB2.out (by omega) _ _ _ _ _).alloc (by simp; omega) _⟩
  case rest =>
    obtain ⟨b2, bs, rfl, hb2, hbs, HA, HH, HL, HR, HB⟩ := hcut
    have hz : w0.heap.size < wc.heap.size := HR.out.lt
    have hb2l : b2 < wc.heap.size := HA.out.lt
    have HNM := Lib.hid fun w => nm_any ⟨#[112]⟩ w
    have hl1 : w0.heap.size < w1.heap.size := hz1
    go_wp2_with fail
    refine (HNM.out _).mono ?_
    rintro x w3 ⟨rfl, hb3⟩
    have HA3 := Lib.hid (HA.out.all hb3)
    have HH3 := Lib.hid (HH.out.all hb3)
    have HL3 := Lib.hid (HL.out.all hb3)
    have HR3 := Lib.hid (HR.out.all hb3)
    have HB3 := Lib.hid (HB.out.trans (hb3.mono HB.out.size))
    have hz3 : w0.heap.size < w3.heap.size := HR3.out.lt
    have hb23 : b2 < w3.heap.size := HA3.out.lt
    have hz4 : w0.heap.size < w3.heap.size + 1 := by omega
    have hz5 : w0.heap.size < w3.heap.size + 1 + 1 := by omega
    have hz6 : w0.heap.size < w3.heap.size + 1 + 1 + 1 := by omega
    have hb24 : b2 < w3.heap.size + 1 := by omega
    have hb25 : b2 < w3.heap.size + 1 + 1 := by omega
    clear hb3 HA HH HL HR HB
    obtain ⟨⟨x0, x1, x2, x3, x4⟩, y0, y1, y2, y3, y4⟩ := Bk.five HR3.out
    obtain ⟨⟨z0, z1, z2, z3, z4⟩, -⟩ := Bk.five HA3.out
    go_wp2_with fail
    have hsz : (((((w3.setCell ⟨w0.heap.size, 0, none⟩ (.int .i64 2)).setCell ⟨w0.heap.size, 1, none⟩ (.string ⟨#[]⟩)).setCell ⟨w0.heap.size, 2, none⟩ (.int .i64 0)).setCell ⟨w0.heap.size, 3, none⟩ (.int .i64 0)).setCell ⟨w0.heap.size, 4, none⟩ (.slice (some ⟨w3.heap.size + 1 + 1 + 1, 0, none⟩) 2 2)).heap.size = w3.heap.size := by simp [World.size_setCell]
    refine example_end (bt := w3.heap.size + 1 + 1 + 1) (ba := w3.heap.size + 1 + 1) (bp := w3.heap.size) (bs := bs) (bl := w1.heap.size) Tryd.results12 rfl rfl ?_ ?_ ?_ ?_ ?_ ?_ ?_ (by omega) (by omega) (by omega) (by omega) (by omega)
    · exact ((((Below.set5 HB3.out (Nat.le_refl _) _ _ _ _ _).alloc (by simp; omega) _).alloc (by simp; omega) _).alloc (by simp; omega) _).alloc (by simp; omega) _
    · exact ((((HR3.out.set5 _ _ _ _ _).alloc _).alloc _).alloc _).alloc _
    · exact Bk.at3 _ _ _ _ hsz _ _
    · exact (Bk.at2 _ _ _ hsz _ _).alloc _
    · exact (((Bk.at0 _ hsz _ _).alloc _).alloc _).alloc _
    · exact ((((HH3.out.far5b (by omega) _ _ _ _ _).alloc _).alloc _).alloc _).alloc _
    · exact ((((HL3.out.far5b (by omega) _ _ _ _ _).alloc _).alloc _).alloc _).alloc _
end Go.Proofs.YtfbcafapnagjfaaDoor
