/- expr: signs, a map from a byte to two numbers; many. -/
import Derived.Test.YtfbcafapnagjfaaDoorExQ
import Derived.MapKept
import Derived.Maps.OwnOps
namespace Go.Proofs.YtfbcafapnagjfaaDoor
open Go.RowKit

def pairV (a b : Int) : Value := .agg #[.int .i64 a, .int .i64 b]
def signEs : Array MapEntry := #[{ key := .int .u8 42, val := pairV 0 (-1), born := 0 }, { key := .int .u8 43, val := pairV 1 (-1), born := 1 }, { key := .int .u8 63, val := pairV 0 1, born := 2 }]

theorem alloc_set (w : World) (o o' : Obj) : ({ w.alloc o with heap := (w.alloc o).heap.setIfInBounds w.heap.size o' } : World) = w.alloc o' := by
  have e1 : (w.alloc o).heap = w.heap.push o := rfl
  have e2 : (w.alloc o').heap = w.heap.push o' := rfl
  have e3 : (w.heap.push o).setIfInBounds w.heap.size o' = w.heap.push o' := by
    apply Array.ext_getElem?
    intro i
    rw [Array.getElem?_setIfInBounds, Array.getElem?_push, Array.getElem?_push]
    by_cases h : w.heap.size = i
    · subst h; simp
    · rw [if_neg h, if_neg (by omega), if_neg (by omega)]
  rw [e1, e3]
  rfl
theorem run_insert {P : Program} (w : World) (mty kt et : TypeId) (c : Int) (es : Array MapEntry) (clock : Nat) (val : Value) (hm : P.underlying mty = some (.map kt et)) (hk : P.underlying kt = some (.int .u8))
    (hno : Instr.findNow (.int .u8) (.int .u8 c) es.toList 0 = some none) :
    (Instr.mapUpdate mty (.map (some w.heap.size)) (.int .u8 c) val).run P (w.alloc (.map es clock)) = .ok () (w.alloc (.map (es.push { key := .int .u8 c, val := val, born := clock }) (clock + 1))) := by
  have hb : (w.alloc (.map es clock)).heap[w.heap.size]? = some (.map es clock) := heap_alloc_new w _
  have hc : (Instr.checkKey false 10000 kt (.int .u8 c)).run P (w.alloc (.map es clock)) = .ok () (w.alloc (.map es clock)) := MapKept.run_checkKey (k := .int .u8 c) hk (by simp [MapKept.IsKey]) false 9999
  simp [Instr.mapUpdate, run_underlying hm, MapKept.run_getObj_map hb, hc, MapKept.run_findKey hk hno, MapKept.run_setObj_map _ hb, Result.andThen]
  exact alloc_set w _ _

set_option maxRecDepth 100000 in
theorem signs_any (w : World) : Calls Tryd.prog 47 #[] w fun e w' => e = .returned (.map (some w.heap.size)) ∧ w.alloc (.map signEs 3) = w' := by
  have hmm := @run_makeMap Tryd.prog
  have i1 := run_insert (P := Tryd.prog) w 61 5 63 42 #[] 0 (.agg #[.int .i64 0, .int .i64 (-1)]) Tryd.underlying61 Tryd.underlying5 rfl
  have i2 := run_insert (P := Tryd.prog) w 61 5 63 43 #[{ key := .int .u8 42, val := (.agg #[.int .i64 0, .int .i64 (-1)]), born := 0 }] 1 (.agg #[.int .i64 1, .int .i64 (-1)]) Tryd.underlying61 Tryd.underlying5 rfl
  have i3 := run_insert (P := Tryd.prog) w 61 5 63 63 #[{ key := .int .u8 42, val := (.agg #[.int .i64 0, .int .i64 (-1)]), born := 0 }, { key := .int .u8 43, val := (.agg #[.int .i64 1, .int .i64 (-1)]), born := 1 }] 2 (.agg #[.int .i64 0, .int .i64 1]) Tryd.underlying61 Tryd.underlying5 rfl
  simp only [List.push_toArray, List.cons_append, List.nil_append, Nat.zero_add, Nat.reduceAdd] at i1 i2 i3
  go_enter Tryd.func47, Tryd.ntmps47
  go_wp2_with fail
  go_ret
  exact ⟨rfl, rfl⟩

theorem run_findS {P : Program} (w : World) (mty kt et : TypeId) (c : Int) (r : Nat) (k : Nat) (v : Value) (hm : P.underlying mty = some (.map kt et)) (hk : P.underlying kt = some (.int .u8)) (hb : w.heap[r]? = some (.map signEs 3))
    (hno : Instr.findNow (.int .u8) (.int .u8 c) signEs.toList 0 = some (some (k, v))) :
    (Instr.lookup mty (.map (some r)) (.int .u8 c) true).run P w = .ok (.tuple #[v, .bool true]) w := by
  have hc : (Instr.checkKey signEs.isEmpty 10000 kt (.int .u8 c)).run P w = .ok () w := MapKept.run_checkKey (k := .int .u8 c) hk (by simp [MapKept.IsKey]) _ 9999
  simp [Instr.lookup, run_underlying hm, MapKept.run_getObj_map hb, hc, MapKept.run_findKey hk hno, Result.andThen]
theorem run_findN {P : Program} (w : World) (mty kt et : TypeId) (c : Int) (r : Nat) (z : Value) (hm : P.underlying mty = some (.map kt et)) (hk : P.underlying kt = some (.int .u8)) (hb : w.heap[r]? = some (.map signEs 3))
    (hz : (zeroValue et).run P w = .ok z w) (hno : Instr.findNow (.int .u8) (.int .u8 c) signEs.toList 0 = some none) :
    (Instr.lookup mty (.map (some r)) (.int .u8 c) true).run P w = .ok (.tuple #[z, .bool false]) w := by
  have hc : (Instr.checkKey signEs.isEmpty 10000 kt (.int .u8 c)).run P w = .ok () w := MapKept.run_checkKey (k := .int .u8 c) hk (by simp [MapKept.IsKey]) _ 9999
  simp [Instr.lookup, run_underlying hm, MapKept.run_getObj_map hb, hc, MapKept.run_findKey hk hno, Result.andThen, hz]
theorem run_find {P : Program} (w : World) (mty kt et : TypeId) (c : UInt8) (r : Nat) (hm : P.underlying mty = some (.map kt et)) (hk : P.underlying kt = some (.int .u8)) (hb : w.heap[r]? = some (.map signEs 3))
    (hz : (zeroValue et).run P w = .ok (pairV 0 0) w) :
    (Instr.lookup mty (.map (some r)) (.int .u8 (c.toNat : Int)) true).run P w = .ok (.tuple #[pairV ((signP c).getD (0, 0)).1 ((signP c).getD (0, 0)).2, .bool (signP c).isSome]) w := by
  by_cases h1 : c = 42
  · subst h1; exact run_findS w mty kt et _ r 0 _ hm hk hb rfl
  by_cases h2 : c = 43
  · subst h2; exact run_findS w mty kt et _ r 1 _ hm hk hb rfl
  by_cases h3 : c = 63
  · subst h3; exact run_findS w mty kt et _ r 2 _ hm hk hb rfl
  · have e1 : ((c.toNat : Int) == 42) = false := by rw [show (42 : Int) = ((42 : UInt8).toNat : Int) from rfl, beq_u8]; simp [h1]
    have e2 : ((c.toNat : Int) == 43) = false := by rw [show (43 : Int) = ((43 : UInt8).toNat : Int) from rfl, beq_u8]; simp [h2]
    have e3 : ((c.toNat : Int) == 63) = false := by rw [show (63 : Int) = ((63 : UInt8).toNat : Int) from rfl, beq_u8]; simp [h3]
    have hno : Instr.findNow (.int .u8) (.int .u8 (c.toNat : Int)) signEs.toList 0 = some none := by
      simp [Instr.findNow, Instr.sameNow, signEs, e1, e2, e3]
    have hs : signP c = none := by unfold signP; rw [if_neg h1, if_neg h2, if_neg h3]
    rw [hs]
    exact run_findN w mty kt et _ r _ hm hk hb hz hno
theorem zero2 (w : World) : (zeroValue 63).run Tryd.prog w = .ok (pairV 0 0) w := by kernel_rfl

/-- a world in which a method that reads an expression stands: its result lies in block b, a kid in block b2 -/
def Two (w : World) (g : Nat) (s : ByteArray) (k : Nat) (w0 : World) (b2 : Nat) (e : Ex) (A : Option Addr) (c : Nat) : Prop :=
  Rp w g s k ∧ Bg w0.heap.size g w0 w ∧ Bk w w0.heap.size 24 #[.int .i64 0, .string ⟨#[]⟩, .int .i64 0, .int .i64 0, .slice none 0 0] ∧
    Bk w b2 24 #[.int .i64 e.k, .string e.n, .int .i64 e.a, .int .i64 e.b, .slice A e.l.length c] ∧ Kd w (fun b => w0.heap.size + 1 ≤ b) (.slice A e.l.length c) e.l ∧ w0.heap.size < b2 ∧ w0.heap.size + 1 < w.heap.size ∧ b2 < w.heap.size

set_option maxRecDepth 100000 in
set_option maxHeartbeats 1600000 in
/-- many: what is read is missing -/
theorem manyA_any (g : Nat) (s : ByteArray) (i j0 : Nat) (w : World) (h : Rp w g s i) (hi : i ≤ s.size) (hs : s.size ≤ 1000000000000) (ch : Nat → Option Ex × Nat) (hch : ChOK g s j0 ch) (hfn : Fine s.size ch) (hj : j0 ≤ i + 1) (k : Nat) (h1 : oneP s.data.toList ch i = (none, k)) :
    Calls Tryd.prog 43 #[.pointer (some ⟨g, 0, none⟩)] w (Pt w g s (none, k)) := by
  have hg := h.lt
  obtain ⟨w0, rfl⟩ : ∃ w0 : World, w0 = w := ⟨_, rfl⟩
  have C0 := Lib.hid fun w1 hr => one_any g s i j0 w1 hr hi hs ch hch hfn hj
  rw [h1] at C0
  have Hh := Lib.hid h
  clear h1 h hch hfn
  go_enter Tryd.func43, Tryd.ntmps43
  go_wp2_with fail
  refine (C0.out _ (by exact Hh.out.alloc _)).mono ?_
  clear C0
  rintro x w1 ⟨e, A, c, rfl, hr1, hb1, -⟩
  have HR1 := Lib.hid hr1
  have HB1 : Hid (Bk w1 w0.heap.size 24 #[.int .i64 0, .string ⟨#[]⟩, .int .i64 0, .int .i64 0, .slice none 0 0]) := Bk.bg (Bk.new _ _ _) hb1 (by omega)
  have HG1 : Hid (Bg w0.heap.size g w0 w1) := ((Bg.refl _ _ _).alloc (Nat.le_refl _) _).trans (hb1.mono (by simp))
  have hlt : w0.heap.size < w1.heap.size := by have := hb1.size; simp at this; omega
  obtain ⟨⟨x0, x1, x2, x3, x4⟩, y0, y1, y2, y3, y4⟩ := Bk.five HB1.out
  clear hr1 hb1
  go_wp2_with fail
  refine pt_ret (e := .mk 0 ⟨#[]⟩ 0 0 []) (A := none) (c := 0) Tryd.results43 rfl rfl rfl ⟨?_, ?_, ?_, fun y hy => by cases hy⟩
  · exact (HR1.out.far5 (by omega) _ _ _ _ _).alloc _
  · exact (HG1.out.set5 (Nat.le_refl _) _ _ _ _ _).alloc (by simp; omega) _
  · exact (HB1.out.set5 _ _ _ _ _).alloc _

/-- a literal of one kid -/
theorem Kd.single {w : World} {B b : Nat} {k : Int} {n : ByteArray} {a b' : Int} {l : List Ex} {A : Option Addr} {c : Nat} (hb : B ≤ b) (hc : Bk w b 24 #[.int .i64 k, .string n, .int .i64 a, .int .i64 b', .slice A l.length c]) (hk : Kd w (fun x => B ≤ x) (.slice A l.length c) l) :
    Kd w (fun x => B ≤ x) (.slice (some ⟨b, 0, none⟩) 1 1) [.mk k n a b' l] := by
  refine .mk _ _ [.slice A l.length c] rfl ⟨_, 1, rfl, rfl, Nat.le_refl _, by unfold maxLen; omega, .inr ⟨b, 0, rfl, hb, fun j u hu => ?_⟩⟩ fun i hi => ?_
  · rw [Nat.zero_add, Bk.cell hc j, ← Array.getElem?_toList]; exact hu
  · obtain rfl : i = 0 := by simpa using hi
    exact hk

set_option maxRecDepth 100000 in
set_option maxHeartbeats 3200000 in
/-- many: a kid, and a sign behind it -/
theorem manyB_any (g : Nat) (s : ByteArray) (i j0 : Nat) (w : World) (h : Rp w g s i) (hi : i ≤ s.size) (hs : s.size ≤ 1000000000000) (ch : Nat → Option Ex × Nat) (hch : ChOK g s j0 ch) (hfn : Fine s.size ch) (hj : j0 ≤ i + 1) (y : Ex) (k : Nat) (h1 : oneP s.data.toList ch i = (some y, k))
    (j : Nat) (h2 : skipN s.data.toList k = j) (d : UInt8) (h3 : peek s.data.toList j = d) (pa pb : Int) (h4 : signP d = some (pa, pb)) :
    Calls Tryd.prog 43 #[.pointer (some ⟨g, 0, none⟩)] w (Pt w g s (some (manyE pa pb y), j + 1)) := by
  have hg := h.lt
  obtain ⟨w0, rfl⟩ : ∃ w0 : World, w0 = w := ⟨_, rfl⟩
  have hk := (one_fine hfn i y k hi h1).2.1
  have hjs : j ≤ s.size := by have := skip_le (t := s.data.toList) (k := k) (by rw [ba_len]; exact hk); rw [h2, ba_len] at this; exact this
  have C0 := Lib.hid fun w1 hr => one_any g s i j0 w1 hr hi hs ch hch hfn hj
  rw [h1] at C0
  have C1 := Lib.hid fun w1 hr => next_any g s k w1 hr hk hs
  rw [h2, h3] at C1
  have C2 := Lib.hid fun (w : World) (r : Nat) (hb : w.heap[r]? = some (.map signEs 3)) => run_find (P := Tryd.prog) w 61 5 63 d r Tryd.underlying61 Tryd.underlying5 hb (zero2 w)
  rw [h4] at C2
  have Hh := Lib.hid h
  clear h1 h2 h3 h4 h hch hfn
  go_enter Tryd.func43, Tryd.ntmps43
  go_wp2_with fail
  refine (C0.out _ (by exact Hh.out.alloc _)).mono ?_
  clear C0
  rintro x w1 ⟨e, A, c, rfl, hr1, hb1, hy⟩
  obtain ⟨rfl, hkd⟩ := hy y rfl
  clear hy
  obtain ⟨k0, n0, a0, b0, l0⟩ := e
  simp only [Ex.k, Ex.n, Ex.a, Ex.b, Ex.l] at *
  have HB1 : Hid (Bk w1 w0.heap.size 24 #[.int .i64 0, .string ⟨#[]⟩, .int .i64 0, .int .i64 0, .slice none 0 0]) := Bk.bg (Bk.new _ _ _) hb1 (by omega)
  have HG1 : Hid (Bg w0.heap.size g w0 w1) := ((Bg.refl _ _ _).alloc (Nat.le_refl _) _).trans (hb1.mono (by simp))
  have hlt : w0.heap.size < w1.heap.size := by have := hb1.size; simp at this; omega
  have HT1 : Hid (Two (w1.alloc (.cells #[.int .i64 k0, .string n0, .int .i64 a0, .int .i64 b0, .slice A l0.length c] 24)) g s k w0 w1.heap.size (.mk k0 n0 a0 b0 l0) A c) :=
    ⟨hr1.alloc _, HG1.out.alloc (by omega) _, HB1.out.alloc _, Bk.new _ _ _, (hkd.later (by simp)).new _, hlt, by simp; omega, by simp⟩
  clear hr1 hb1 hkd HB1 HG1
  go_wp2_with fail
  refine (C1.out _ HT1.out.1).mono ?_
  clear C1
  rintro x w2 ⟨rfl, hr2, hb2⟩
  have hz2 := hb2.size
  rw [World.size_alloc] at hz2
  have HT2 : Hid (Two w2 g s j w0 w1.heap.size (.mk k0 n0 a0 b0 l0) A c) := by
    obtain ⟨q1, q2, q3, q4, q5, q6, q7, q8⟩ := HT1.out
    exact ⟨hr2, q2.trans (hb2.mono (by simp; omega)), q3.bg hb2 (by omega), q4.bg hb2 (by omega), q5.bg hb2 (by omega), q6, by omega, by omega⟩
  clear hr2 hb2 HT1
  go_wp2_with fail
  refine (signs_any w2).mono ?_
  rintro x w3 ⟨rfl, rfl⟩
  have hf := C2.out (w2.alloc (.map signEs 3)) w2.heap.size (heap_alloc_new w2 _)
  have HF := Lib.hid hf
  clear C2
  simp only [pairV, Option.getD_some, Option.isSome_some] at hf
  obtain ⟨⟨x0, x1, x2, x3, x4⟩, y0, y1, y2, y3, y4⟩ := Bk.five HT2.out.2.2.1
  obtain ⟨⟨z0, z1, z2, z3, z4⟩, -⟩ := Bk.five HT2.out.2.2.2.1
  have hc1 := HT2.out.1.c1
  have hz1 := HT2.out.1.f1
  have hgl := HT2.out.1.lt
  have hl1 : w0.heap.size < w2.heap.size := by omega
  have hl2 : w1.heap.size < w2.heap.size := by omega
  have hl3 : w0.heap.size < w2.heap.size + 1 := by omega
  have hl4 : w0.heap.size < w2.heap.size + 1 + 1 := by omega
  have hl5 : w1.heap.size < w2.heap.size + 1 := by omega
  have hl6 : w1.heap.size < w2.heap.size + 1 + 1 := by omega
  have hn1 : ¬ w0.heap.size = g := by omega
  have hn2 : ¬ w1.heap.size = g := by omega
  simp only [Ex.k, Ex.n, Ex.a, Ex.b, Ex.l] at z0 z1 z2 z3 z4
  go_wp2_with fail
  obtain ⟨q1, q2, q3, q4, q5, q6, q7, q8⟩ := HT2.out
  refine pt_ret (e := manyE pa pb (.mk k0 n0 a0 b0 l0)) (A := some ⟨w2.heap.size + 1 + 1, 0, none⟩) (c := 1) Tryd.results43 rfl rfl rfl ⟨?_, ?_, ?_, fun y hy => ⟨by simpa using hy, ?_⟩⟩
  · exact ((((q1.to (j + 1)).far5 (by omega) _ _ _ _ _).alloc _).alloc _).alloc _
  · exact ((((q2.set _ _).set5 (Nat.le_refl _) _ _ _ _ _).alloc (by simp; omega) _).alloc (by simp; omega) _).alloc (by simp; omega) _
  · exact ((((q3.far (by exact hn1) _).set5 _ _ _ _ _).alloc _).alloc _).alloc _
  · refine Kd.single (by omega) ?_ (((((q5.far (by show g < _; omega) _).far5 (by omega) _ _ _ _ _).new _).new _).new _ |>.later (by omega))
    have := Bk.new ((((((((w2.setCell ⟨g, 1, none⟩ (.int .i64 ((j : Int) + 1))).setCell ⟨w0.heap.size, 0, none⟩ (.int .i64 4)).setCell ⟨w0.heap.size, 1, none⟩ (.string ⟨#[]⟩)).setCell ⟨w0.heap.size, 2, none⟩ (.int .i64 pa)).setCell ⟨w0.heap.size, 3, none⟩ (.int .i64 pb)).setCell ⟨w0.heap.size, 4, none⟩ (.slice (some ⟨w2.heap.size + 1 + 1, 0, none⟩) 1 1)).alloc (.map signEs 3)).alloc (.cells #[.int .i64 pa, .int .i64 pb] 63)) 24 #[.int .i64 k0, .string n0, .int .i64 a0, .int .i64 b0, .slice A l0.length c]
    simpa [World.size_setCell, World.size_alloc] using this
/-! many, the other ways -/
theorem Kd.off {w : World} {S : Nat → Prop} {s : Value} {l : List Ex} (h : Kd w S s l) {p : Addr} (hp : ∀ b, S b → b ≠ p.block) (u : Value) : Kd (w.setCell p u) S s l :=
  h.keep fun b _ hb => World.cell?_of_block (w := w) (Below.heap_setCell w p u b (hp b hb))
theorem Kd.newS {w : World} {S : Nat → Prop} {s : Value} {l : List Ex} (h : Kd w S s l) (o : Obj) : Kd (w.alloc o) S s l :=
  (h.inb.keep fun b _ hb => (box_below w o).cell (p := ⟨b, _, none⟩) hb.2).mono fun _ hb => hb.1
theorem Kd.bgS {w w' : World} {g : Nat} {S : Nat → Prop} {s : Value} {l : List Ex} (h : Kd w S s l) (hb : Bg w.heap.size g w w') (hg : ∀ b, S b → b ≠ g) : Kd w' S s l :=
  (h.inb.keep fun b o hb2 => hb.cell (p := ⟨b, o, none⟩) hb2.2 (hg b hb2.1)).mono fun _ hb => hb.1

set_option maxRecDepth 100000 in
set_option maxHeartbeats 3200000 in
/-- many: a kid, and nothing behind it -/
theorem manyE_any (g : Nat) (s : ByteArray) (i j0 : Nat) (w : World) (h : Rp w g s i) (hi : i ≤ s.size) (hs : s.size ≤ 1000000000000) (ch : Nat → Option Ex × Nat) (hch : ChOK g s j0 ch) (hfn : Fine s.size ch) (hj : j0 ≤ i + 1) (y : Ex) (k : Nat) (h1 : oneP s.data.toList ch i = (some y, k))
    (j : Nat) (h2 : skipN s.data.toList k = j) (d : UInt8) (h3 : peek s.data.toList j = d) (h4 : signP d = none) (h5 : ¬ d = 123) :
    Calls Tryd.prog 43 #[.pointer (some ⟨g, 0, none⟩)] w (Pt w g s (some y, j)) := by
  have hg := h.lt
  obtain ⟨w0, rfl⟩ : ∃ w0 : World, w0 = w := ⟨_, rfl⟩
  have hk := (one_fine hfn i y k hi h1).2.1
  have hjs : j ≤ s.size := by have := skip_le (t := s.data.toList) (k := k) (by rw [ba_len]; exact hk); rw [h2, ba_len] at this; exact this
  have C0 := Lib.hid fun w1 hr => one_any g s i j0 w1 hr hi hs ch hch hfn hj
  rw [h1] at C0
  have C1 := Lib.hid fun w1 hr => next_any g s k w1 hr hk hs
  rw [h2, h3] at C1
  have C2 := Lib.hid fun (w : World) (r : Nat) (hb : w.heap[r]? = some (.map signEs 3)) => run_find (P := Tryd.prog) w 61 5 63 d r Tryd.underlying61 Tryd.underlying5 hb (zero2 w)
  rw [h4] at C2
  have hne : ((d.toNat : Int) == 123) = false := by rw [show (123 : Int) = ((123 : UInt8).toNat : Int) from rfl, beq_u8]; simp [h5]
  clear h5
  have Hh := Lib.hid h
  clear h1 h2 h3 h4 h hch hfn
  go_enter Tryd.func43, Tryd.ntmps43
  go_wp2_with fail
  refine (C0.out _ (by exact Hh.out.alloc _)).mono ?_
  clear C0
  rintro x w1 ⟨e, A, c, rfl, hr1, hb1, hy⟩
  obtain ⟨rfl, hkd⟩ := hy y rfl
  clear hy
  obtain ⟨k0, n0, a0, b0, l0⟩ := e
  simp only [Ex.k, Ex.n, Ex.a, Ex.b, Ex.l] at *
  have HB1 : Hid (Bk w1 w0.heap.size 24 #[.int .i64 0, .string ⟨#[]⟩, .int .i64 0, .int .i64 0, .slice none 0 0]) := Bk.bg (Bk.new _ _ _) hb1 (by omega)
  have HG1 : Hid (Bg w0.heap.size g w0 w1) := ((Bg.refl _ _ _).alloc (Nat.le_refl _) _).trans (hb1.mono (by simp))
  have hlt : w0.heap.size < w1.heap.size := by have := hb1.size; simp at this; omega
  have HT1 : Hid (Two (w1.alloc (.cells #[.int .i64 k0, .string n0, .int .i64 a0, .int .i64 b0, .slice A l0.length c] 24)) g s k w0 w1.heap.size (.mk k0 n0 a0 b0 l0) A c) :=
    ⟨hr1.alloc _, HG1.out.alloc (by omega) _, HB1.out.alloc _, Bk.new _ _ _, (hkd.later (by simp)).new _, hlt, by simp; omega, by simp⟩
  clear hr1 hb1 hkd HB1 HG1
  go_wp2_with fail
  refine (C1.out _ HT1.out.1).mono ?_
  clear C1
  rintro x w2 ⟨rfl, hr2, hb2⟩
  have hz2 := hb2.size
  rw [World.size_alloc] at hz2
  have HT2 : Hid (Two w2 g s j w0 w1.heap.size (.mk k0 n0 a0 b0 l0) A c) := by
    obtain ⟨q1, q2, q3, q4, q5, q6, q7, q8⟩ := HT1.out
    exact ⟨hr2, q2.trans (hb2.mono (by simp; omega)), q3.bg hb2 (by omega), q4.bg hb2 (by omega), q5.bg hb2 (by omega), q6, by omega, by omega⟩
  clear hr2 hb2 HT1
  go_wp2_with fail
  refine (signs_any w2).mono ?_
  rintro x w3 ⟨rfl, rfl⟩
  have hf := C2.out (w2.alloc (.map signEs 3)) w2.heap.size (heap_alloc_new w2 _)
  have HF := Lib.hid hf
  clear C2
  simp only [pairV, Option.getD_none, Option.isSome_none] at hf
  obtain ⟨⟨x0, x1, x2, x3, x4⟩, y0, y1, y2, y3, y4⟩ := Bk.five HT2.out.2.2.1
  obtain ⟨⟨z0, z1, z2, z3, z4⟩, -⟩ := Bk.five HT2.out.2.2.2.1
  have hc1 := HT2.out.1.c1
  have hz1 := HT2.out.1.f1
  have hgl := HT2.out.1.lt
  have hl1 : w0.heap.size < w2.heap.size := by omega
  have hl2 : w1.heap.size < w2.heap.size := by omega
  have hl3 : w0.heap.size < w2.heap.size + 1 := by omega
  have hl4 : w0.heap.size < w2.heap.size + 1 + 1 := by omega
  have hl5 : w1.heap.size < w2.heap.size + 1 := by omega
  have hl6 : w1.heap.size < w2.heap.size + 1 + 1 := by omega
  have hn1 : ¬ w0.heap.size = g := by omega
  have hn2 : ¬ w1.heap.size = g := by omega
  simp only [Ex.k, Ex.n, Ex.a, Ex.b, Ex.l] at z0 z1 z2 z3 z4
  go_wp2_with fail
  obtain ⟨q1, q2, q3, q4, q5, q6, q7, q8⟩ := HT2.out
  refine pt_ret (e := .mk k0 n0 a0 b0 l0) (A := A) (c := c) Tryd.results43 rfl rfl rfl ⟨?_, ?_, ?_, fun y hy => ⟨by simpa using hy, ?_⟩⟩
  · exact ((q1.far5 (by omega) _ _ _ _ _).alloc _).alloc _
  · exact ((q2.set5 (Nat.le_refl _) _ _ _ _ _).alloc (by simp; omega) _).alloc (by simp; omega) _
  · exact ((q3.set5 _ _ _ _ _).alloc _).alloc _
  · exact ((q5.far5 (by omega) _ _ _ _ _).new _).new _ |>.later (by omega)

set_option maxRecDepth 100000 in
set_option maxHeartbeats 3200000 in
/-- many: a kid, and braces that may not be -/
theorem manyC_any (g : Nat) (s : ByteArray) (i j0 : Nat) (w : World) (h : Rp w g s i) (hi : i ≤ s.size) (hs : s.size ≤ 1000000000000) (ch : Nat → Option Ex × Nat) (hch : ChOK g s j0 ch) (hfn : Fine s.size ch) (hj : j0 ≤ i + 1) (y : Ex) (k : Nat) (h1 : oneP s.data.toList ch i = (some y, k))
    (j : Nat) (h2 : skipN s.data.toList k = j) (d : UInt8) (h3 : peek s.data.toList j = d) (h4 : signP d = none) (h5 : d = 123) (k2 : Nat) (h6 : brcP s.data.toList j = (none, k2)) :
    Calls Tryd.prog 43 #[.pointer (some ⟨g, 0, none⟩)] w (Pt w g s (none, k2)) := by
  have hg := h.lt
  obtain ⟨w0, rfl⟩ : ∃ w0 : World, w0 = w := ⟨_, rfl⟩
  have hk := (one_fine hfn i y k hi h1).2.1
  have hjs : j ≤ s.size := by have := skip_le (t := s.data.toList) (k := k) (by rw [ba_len]; exact hk); rw [h2, ba_len] at this; exact this
  have C0 := Lib.hid fun w1 hr => one_any g s i j0 w1 hr hi hs ch hch hfn hj
  rw [h1] at C0
  have C1 := Lib.hid fun w1 hr => next_any g s k w1 hr hk hs
  rw [h2, h3] at C1
  have C2 := Lib.hid fun (w : World) (r : Nat) (hb : w.heap[r]? = some (.map signEs 3)) => run_find (P := Tryd.prog) w 61 5 63 d r Tryd.underlying61 Tryd.underlying5 hb (zero2 w)
  rw [h4] at C2
  have hy1 : ((d.toNat : Int) == 123) = true := by rw [h5]; rfl
  have hjl : j < s.size := by have := peek_lt (t := s.data.toList) (k := j) (by rw [h3, h5]; decide); rw [ba_len] at this; exact this
  have C3 := Lib.hid fun w1 hr => braces_any g s j w1 hr hjl hs
  rw [h6] at C3
  clear h5 h6
  have Hh := Lib.hid h
  clear h1 h2 h3 h4 h hch hfn
  go_enter Tryd.func43, Tryd.ntmps43
  go_wp2_with fail
  refine (C0.out _ (by exact Hh.out.alloc _)).mono ?_
  clear C0
  rintro x w1 ⟨e, A, c, rfl, hr1, hb1, hy⟩
  obtain ⟨rfl, hkd⟩ := hy y rfl
  clear hy
  obtain ⟨k0, n0, a0, b0, l0⟩ := e
  simp only [Ex.k, Ex.n, Ex.a, Ex.b, Ex.l] at *
  have HB1 : Hid (Bk w1 w0.heap.size 24 #[.int .i64 0, .string ⟨#[]⟩, .int .i64 0, .int .i64 0, .slice none 0 0]) := Bk.bg (Bk.new _ _ _) hb1 (by omega)
  have HG1 : Hid (Bg w0.heap.size g w0 w1) := ((Bg.refl _ _ _).alloc (Nat.le_refl _) _).trans (hb1.mono (by simp))
  have hlt : w0.heap.size < w1.heap.size := by have := hb1.size; simp at this; omega
  have HT1 : Hid (Two (w1.alloc (.cells #[.int .i64 k0, .string n0, .int .i64 a0, .int .i64 b0, .slice A l0.length c] 24)) g s k w0 w1.heap.size (.mk k0 n0 a0 b0 l0) A c) :=
    ⟨hr1.alloc _, HG1.out.alloc (by omega) _, HB1.out.alloc _, Bk.new _ _ _, (hkd.later (by simp)).new _, hlt, by simp; omega, by simp⟩
  clear hr1 hb1 hkd HB1 HG1
  go_wp2_with fail
  refine (C1.out _ HT1.out.1).mono ?_
  clear C1
  rintro x w2 ⟨rfl, hr2, hb2⟩
  have hz2 := hb2.size
  rw [World.size_alloc] at hz2
  have HT2 : Hid (Two w2 g s j w0 w1.heap.size (.mk k0 n0 a0 b0 l0) A c) := by
    obtain ⟨q1, q2, q3, q4, q5, q6, q7, q8⟩ := HT1.out
    exact ⟨hr2, q2.trans (hb2.mono (by simp; omega)), q3.bg hb2 (by omega), q4.bg hb2 (by omega), q5.bg hb2 (by omega), q6, by omega, by omega⟩
  clear hr2 hb2 HT1
  go_wp2_with fail
  refine (signs_any w2).mono ?_
  rintro x w3 ⟨rfl, rfl⟩
  have hf := C2.out (w2.alloc (.map signEs 3)) w2.heap.size (heap_alloc_new w2 _)
  have HF := Lib.hid hf
  clear C2
  simp only [pairV, Option.getD_none, Option.isSome_none] at hf
  obtain ⟨⟨x0, x1, x2, x3, x4⟩, y0, y1, y2, y3, y4⟩ := Bk.five HT2.out.2.2.1
  obtain ⟨⟨z0, z1, z2, z3, z4⟩, -⟩ := Bk.five HT2.out.2.2.2.1
  have hc1 := HT2.out.1.c1
  have hz1 := HT2.out.1.f1
  have hgl := HT2.out.1.lt
  have hl1 : w0.heap.size < w2.heap.size := by omega
  have hl2 : w1.heap.size < w2.heap.size := by omega
  have hl3 : w0.heap.size < w2.heap.size + 1 := by omega
  have hl4 : w0.heap.size < w2.heap.size + 1 + 1 := by omega
  have hl5 : w1.heap.size < w2.heap.size + 1 := by omega
  have hl6 : w1.heap.size < w2.heap.size + 1 + 1 := by omega
  have hn1 : ¬ w0.heap.size = g := by omega
  have hn2 : ¬ w1.heap.size = g := by omega
  simp only [Ex.k, Ex.n, Ex.a, Ex.b, Ex.l] at z0 z1 z2 z3 z4
  go_wp2_with fail
  have q3' := (HT2.out.2.2.1.alloc (.map signEs 3)).alloc (.cells #[.int .i64 0, .int .i64 0] 63)
  have q4' := (HT2.out.2.2.2.1.alloc (.map signEs 3)).alloc (.cells #[.int .i64 0, .int .i64 0] 63)
  have q6' := Bk.new (w2.alloc (.map signEs 3)) 63 #[.int .i64 0, .int .i64 0]
  rw [World.size_alloc] at q6'
  refine (C3.out _ ((HT2.out.1.alloc _).alloc _)).mono ?_
  clear C3 x0 x1 x2 x3 x4 y0 y1 y2 y3 y4 z0 z1 z2 z3 z4 hc1 hz1 hf HF
  rintro x w4 ⟨rfl, hr4, hb4⟩
  have hz4 := hb4.size
  simp only [World.size_alloc] at hz4
  have Q3 := Lib.hid (q3'.bg hb4 (by omega))
  have Q4 := Lib.hid (q4'.bg hb4 (by omega))
  have Q6 := Lib.hid (q6'.bg hb4 (by omega))
  have Q5 := Lib.hid (((HT2.out.2.2.2.2.1.inb.newS (.map signEs 3)).newS (.cells #[.int .i64 0, .int .i64 0] 63)).bgS hb4 (fun b hb => by have := hb.1; omega))
  have Q2 : Hid (Bg w0.heap.size g w0 w4) := ((HT2.out.2.1.alloc (by omega) _).alloc (by simp; omega) _).trans (hb4.mono (by simp; omega))
  have Q1 := Lib.hid hr4
  clear hr4 hb4 HT2 q3' q4' q6' hl1 hl2 hl3 hl4 hl5 hl6
  obtain ⟨⟨x0, x1, x2, x3, x4⟩, y0, y1, y2, y3, y4⟩ := Bk.five Q3.out
  obtain ⟨⟨z0, z1, z2, z3, z4⟩, -⟩ := Bk.five Q4.out
  simp only [Ex.k, Ex.n, Ex.a, Ex.b, Ex.l] at z0 z1 z2 z3 z4
  have v0 := Q6.out.cell 0
  have v1 := Q6.out.cell 1
  simp at v0 v1
  have u0 := Q6.out.frozen 0
  have u1 := Q6.out.frozen 1
  have hl1 : w0.heap.size < w4.heap.size := by omega
  have hl2 : w1.heap.size < w4.heap.size := by omega
  have hl3 : w2.heap.size + 1 < w4.heap.size := by omega
  have hn3 : ¬ w0.heap.size = w2.heap.size + 1 := by omega
  have hn4 : ¬ w1.heap.size = w2.heap.size + 1 := by omega
  have hn5 : ¬ w1.heap.size = w0.heap.size := by omega
  go_wp2_with fail
  refine pt_ret (e := .mk 0 ⟨#[]⟩ 0 0 []) (A := none) (c := 0) Tryd.results43 rfl rfl rfl ⟨?_, ?_, ?_, fun y hy => by cases hy⟩
  · exact ((Q1.out.far (by show g ≠ w2.heap.size + 1; omega) _).far (by show g ≠ w2.heap.size + 1; omega) _).far5 (by omega) _ _ _ _ _
  · exact ((Q2.out.setNew (by show _ ≤ w2.heap.size + 1; omega) _).setNew (by show _ ≤ w2.heap.size + 1; omega) _).set5 (Nat.le_refl _) _ _ _ _ _
  · exact ((Q3.out.far (by exact hn3) _).far (by exact hn3) _).set5 _ _ _ _ _

set_option maxRecDepth 100000 in
set_option maxHeartbeats 3200000 in
/-- many: a kid, and numbers in braces -/
theorem manyD_any (g : Nat) (s : ByteArray) (i j0 : Nat) (w : World) (h : Rp w g s i) (hi : i ≤ s.size) (hs : s.size ≤ 1000000000000) (ch : Nat → Option Ex × Nat) (hch : ChOK g s j0 ch) (hfn : Fine s.size ch) (hj : j0 ≤ i + 1) (y : Ex) (k : Nat) (h1 : oneP s.data.toList ch i = (some y, k))
    (j : Nat) (h2 : skipN s.data.toList k = j) (d : UInt8) (h3 : peek s.data.toList j = d) (h4 : signP d = none) (h5 : d = 123) (pa pb : Int) (k2 : Nat) (h6 : brcP s.data.toList j = (some (pa, pb), k2)) :
    Calls Tryd.prog 43 #[.pointer (some ⟨g, 0, none⟩)] w (Pt w g s (some (manyE pa pb y), k2)) := by
  have hg := h.lt
  obtain ⟨w0, rfl⟩ : ∃ w0 : World, w0 = w := ⟨_, rfl⟩
  have hk := (one_fine hfn i y k hi h1).2.1
  have hjs : j ≤ s.size := by have := skip_le (t := s.data.toList) (k := k) (by rw [ba_len]; exact hk); rw [h2, ba_len] at this; exact this
  have C0 := Lib.hid fun w1 hr => one_any g s i j0 w1 hr hi hs ch hch hfn hj
  rw [h1] at C0
  have C1 := Lib.hid fun w1 hr => next_any g s k w1 hr hk hs
  rw [h2, h3] at C1
  have C2 := Lib.hid fun (w : World) (r : Nat) (hb : w.heap[r]? = some (.map signEs 3)) => run_find (P := Tryd.prog) w 61 5 63 d r Tryd.underlying61 Tryd.underlying5 hb (zero2 w)
  rw [h4] at C2
  have hy1 : ((d.toNat : Int) == 123) = true := by rw [h5]; rfl
  have hjl : j < s.size := by have := peek_lt (t := s.data.toList) (k := j) (by rw [h3, h5]; decide); rw [ba_len] at this; exact this
  have C3 := Lib.hid fun w1 hr => braces_any g s j w1 hr hjl hs
  rw [h6] at C3
  clear h5 h6
  have Hh := Lib.hid h
  clear h1 h2 h3 h4 h hch hfn
  go_enter Tryd.func43, Tryd.ntmps43
  go_wp2_with fail
  refine (C0.out _ (by exact Hh.out.alloc _)).mono ?_
  clear C0
  rintro x w1 ⟨e, A, c, rfl, hr1, hb1, hy⟩
  obtain ⟨rfl, hkd⟩ := hy y rfl
  clear hy
  obtain ⟨k0, n0, a0, b0, l0⟩ := e
  simp only [Ex.k, Ex.n, Ex.a, Ex.b, Ex.l] at *
  have HB1 : Hid (Bk w1 w0.heap.size 24 #[.int .i64 0, .string ⟨#[]⟩, .int .i64 0, .int .i64 0, .slice none 0 0]) := Bk.bg (Bk.new _ _ _) hb1 (by omega)
  have HG1 : Hid (Bg w0.heap.size g w0 w1) := ((Bg.refl _ _ _).alloc (Nat.le_refl _) _).trans (hb1.mono (by simp))
  have hlt : w0.heap.size < w1.heap.size := by have := hb1.size; simp at this; omega
  have HT1 : Hid (Two (w1.alloc (.cells #[.int .i64 k0, .string n0, .int .i64 a0, .int .i64 b0, .slice A l0.length c] 24)) g s k w0 w1.heap.size (.mk k0 n0 a0 b0 l0) A c) :=
    ⟨hr1.alloc _, HG1.out.alloc (by omega) _, HB1.out.alloc _, Bk.new _ _ _, (hkd.later (by simp)).new _, hlt, by simp; omega, by simp⟩
  clear hr1 hb1 hkd HB1 HG1
  go_wp2_with fail
  refine (C1.out _ HT1.out.1).mono ?_
  clear C1
  rintro x w2 ⟨rfl, hr2, hb2⟩
  have hz2 := hb2.size
  rw [World.size_alloc] at hz2
  have HT2 : Hid (Two w2 g s j w0 w1.heap.size (.mk k0 n0 a0 b0 l0) A c) := by
    obtain ⟨q1, q2, q3, q4, q5, q6, q7, q8⟩ := HT1.out
    exact ⟨hr2, q2.trans (hb2.mono (by simp; omega)), q3.bg hb2 (by omega), q4.bg hb2 (by omega), q5.bg hb2 (by omega), q6, by omega, by omega⟩
  clear hr2 hb2 HT1
  go_wp2_with fail
  refine (signs_any w2).mono ?_
  rintro x w3 ⟨rfl, rfl⟩
  have hf := C2.out (w2.alloc (.map signEs 3)) w2.heap.size (heap_alloc_new w2 _)
  have HF := Lib.hid hf
  clear C2
  simp only [pairV, Option.getD_none, Option.isSome_none] at hf
  obtain ⟨⟨x0, x1, x2, x3, x4⟩, y0, y1, y2, y3, y4⟩ := Bk.five HT2.out.2.2.1
  obtain ⟨⟨z0, z1, z2, z3, z4⟩, -⟩ := Bk.five HT2.out.2.2.2.1
  have hc1 := HT2.out.1.c1
  have hz1 := HT2.out.1.f1
  have hgl := HT2.out.1.lt
  have hl1 : w0.heap.size < w2.heap.size := by omega
  have hl2 : w1.heap.size < w2.heap.size := by omega
  have hl3 : w0.heap.size < w2.heap.size + 1 := by omega
  have hl4 : w0.heap.size < w2.heap.size + 1 + 1 := by omega
  have hl5 : w1.heap.size < w2.heap.size + 1 := by omega
  have hl6 : w1.heap.size < w2.heap.size + 1 + 1 := by omega
  have hn1 : ¬ w0.heap.size = g := by omega
  have hn2 : ¬ w1.heap.size = g := by omega
  simp only [Ex.k, Ex.n, Ex.a, Ex.b, Ex.l] at z0 z1 z2 z3 z4
  go_wp2_with fail
  have q3' := (HT2.out.2.2.1.alloc (.map signEs 3)).alloc (.cells #[.int .i64 0, .int .i64 0] 63)
  have q4' := (HT2.out.2.2.2.1.alloc (.map signEs 3)).alloc (.cells #[.int .i64 0, .int .i64 0] 63)
  have q6' := Bk.new (w2.alloc (.map signEs 3)) 63 #[.int .i64 0, .int .i64 0]
  rw [World.size_alloc] at q6'
  refine (C3.out _ ((HT2.out.1.alloc _).alloc _)).mono ?_
  clear C3 x0 x1 x2 x3 x4 y0 y1 y2 y3 y4 z0 z1 z2 z3 z4 hc1 hz1 hf HF
  rintro x w4 ⟨rfl, hr4, hb4⟩
  have hz4 := hb4.size
  simp only [World.size_alloc] at hz4
  have Q3 := Lib.hid (q3'.bg hb4 (by omega))
  have Q4 := Lib.hid (q4'.bg hb4 (by omega))
  have Q6 := Lib.hid (q6'.bg hb4 (by omega))
  have Q5 := Lib.hid (((HT2.out.2.2.2.2.1.inb.newS (.map signEs 3)).newS (.cells #[.int .i64 0, .int .i64 0] 63)).bgS hb4 (fun b hb => by have := hb.1; omega))
  have Q2 : Hid (Bg w0.heap.size g w0 w4) := ((HT2.out.2.1.alloc (by omega) _).alloc (by simp; omega) _).trans (hb4.mono (by simp; omega))
  have Q1 := Lib.hid hr4
  clear hr4 hb4 HT2 q3' q4' q6' hl1 hl2 hl3 hl4 hl5 hl6
  obtain ⟨⟨x0, x1, x2, x3, x4⟩, y0, y1, y2, y3, y4⟩ := Bk.five Q3.out
  obtain ⟨⟨z0, z1, z2, z3, z4⟩, -⟩ := Bk.five Q4.out
  simp only [Ex.k, Ex.n, Ex.a, Ex.b, Ex.l] at z0 z1 z2 z3 z4
  have v0 := Q6.out.cell 0
  have v1 := Q6.out.cell 1
  simp at v0 v1
  have u0 := Q6.out.frozen 0
  have u1 := Q6.out.frozen 1
  have hl1 : w0.heap.size < w4.heap.size := by omega
  have hl2 : w1.heap.size < w4.heap.size := by omega
  have hl3 : w2.heap.size + 1 < w4.heap.size := by omega
  have hn3 : ¬ w0.heap.size = w2.heap.size + 1 := by omega
  have hn4 : ¬ w1.heap.size = w2.heap.size + 1 := by omega
  have hn5 : ¬ w1.heap.size = w0.heap.size := by omega
  go_wp2_with fail
  refine pt_ret (e := manyE pa pb (.mk k0 n0 a0 b0 l0)) (A := some ⟨w4.heap.size, 0, none⟩) (c := 1) Tryd.results43 rfl rfl rfl ⟨?_, ?_, ?_, fun y hy => ⟨by simpa using hy, ?_⟩⟩
  · exact (((Q1.out.far (by show g ≠ w2.heap.size + 1; omega) _).far (by show g ≠ w2.heap.size + 1; omega) _).far5 (by omega) _ _ _ _ _).alloc _
  · exact (((Q2.out.setNew (by show _ ≤ w2.heap.size + 1; omega) _).setNew (by show _ ≤ w2.heap.size + 1; omega) _).set5 (Nat.le_refl _) _ _ _ _ _).alloc (by simp; omega) _
  · exact (((Q3.out.far (by exact hn3) _).far (by exact hn3) _).set5 _ _ _ _ _).alloc _
  · refine Kd.single (A := A) (c := c) (by omega) ?_ ?_
    · have := Bk.new (((((((w4.setCell ⟨w2.heap.size + 1, 0, none⟩ (.int .i64 pa)).setCell ⟨w2.heap.size + 1, 1, none⟩ (.int .i64 pb)).setCell ⟨w0.heap.size, 0, none⟩ (.int .i64 4)).setCell ⟨w0.heap.size, 1, none⟩ (.string ⟨#[]⟩)).setCell ⟨w0.heap.size, 2, none⟩ (.int .i64 pa)).setCell ⟨w0.heap.size, 3, none⟩ (.int .i64 pb)).setCell ⟨w0.heap.size, 4, none⟩ (.slice (some ⟨w4.heap.size, 0, none⟩) 1 1)) 24 #[.int .i64 k0, .string n0, .int .i64 a0, .int .i64 b0, .slice A l0.length c]
      simpa [World.size_setCell] using this
    · have K1 := (Q5.out.off (p := ⟨w2.heap.size + 1, 0, none⟩) (fun b hb => by show b ≠ w2.heap.size + 1; have := hb.2; omega) (.int .i64 pa)).off (p := ⟨w2.heap.size + 1, 1, none⟩) (fun b hb => by show b ≠ w2.heap.size + 1; have := hb.2; omega) (.int .i64 pb)
      exact (((K1.mono fun b hb => hb.1).far5 (b := w0.heap.size) (by omega) _ _ _ _ _).new _).later (by omega)

theorem peek_sign {d : UInt8} (h : signP d ≠ none) : d ≠ 0 := by rintro rfl; exact h rfl

/-- many -/
theorem many_any (g : Nat) (s : ByteArray) (i j0 : Nat) (w : World) (h : Rp w g s i) (hi : i ≤ s.size) (hs : s.size ≤ 1000000000000) (ch : Nat → Option Ex × Nat) (hch : ChOK g s j0 ch) (hfn : Fine s.size ch) (hj : j0 ≤ i + 1) :
    Calls Tryd.prog 43 #[.pointer (some ⟨g, 0, none⟩)] w (Pt w g s (manyP s.data.toList ch i)) := by
  rcases h1 : oneP s.data.toList ch i with ⟨o, k⟩
  unfold manyP
  rw [h1]
  cases o with
  | none => exact manyA_any g s i j0 w h hi hs ch hch hfn hj k h1
  | some y =>
    simp only
    rcases h4 : signP (peek s.data.toList (skipN s.data.toList k)) with _ | ⟨pa, pb⟩
    · simp only
      by_cases h5 : peek s.data.toList (skipN s.data.toList k) = 123
      · rw [if_pos h5]
        rcases h6 : brcP s.data.toList (skipN s.data.toList k) with ⟨o2, k2⟩
        cases o2 with
        | none => exact manyC_any g s i j0 w h hi hs ch hch hfn hj y k h1 _ rfl _ rfl h4 h5 k2 h6
        | some q => exact manyD_any g s i j0 w h hi hs ch hch hfn hj y k h1 _ rfl _ rfl h4 h5 q.1 q.2 k2 h6
      · rw [if_neg h5]
        exact manyE_any g s i j0 w h hi hs ch hch hfn hj y k h1 _ rfl _ rfl h4 h5
    · exact manyB_any g s i j0 w h hi hs ch hch hfn hj y k h1 _ rfl _ rfl pa pb h4

theorem brc_fine {t : List UInt8} {i : Nat} {q : Int × Int} {k : Nat} (hi : i < t.length) (h : brcP t i = (some q, k)) : i < k ∧ k ≤ t.length := by
  have hend : ∀ (a b : Int) (j : Nat), i + 1 ≤ j → j ≤ t.length → brcEnd t i a b j = (some q, k) → i < k ∧ k ≤ t.length := by
    intro a b j hj hjl he
    unfold brcEnd at he
    rcases h1 : takeP 125 t j with ⟨ok, k1⟩
    rw [h1] at he
    cases ok
    · cases he
    · simp only [if_true] at he
      have hk := take_le (c := 125) (by decide) hjl
      rw [h1] at hk
      obtain ⟨e1, -⟩ := take_yes h1
      have := skip_ge t j
      split at he
      · cases he; exact ⟨by omega, hk⟩
      · cases he
  have hnum : ∀ j, j ≤ t.length → j ≤ (numP t j).2 ∧ (numP t j).2 ≤ t.length := by
    intro j hj
    refine ⟨?_, numP_le hj⟩
    unfold numP
    simp only
    have := skip_ge t j
    split
    · exact this
    · simp only; omega
  unfold brcP at h
  have hn := hnum (i + 1) (by omega)
  rcases h1 : numP t (i + 1) with ⟨o, k1⟩
  rw [h1] at h hn
  cases o with
  | none => cases h
  | some a =>
    simp only at h hn
    rcases h2 : takeP 44 t k1 with ⟨b1, k2⟩
    rw [h2] at h
    have hk2 := take_le (c := 44) (by decide) hn.2
    rw [h2] at hk2
    simp only at hk2
    have hs := skip_ge t k1
    cases b1
    · have e1 := take_no h2
      exact hend a a k2 (by omega) hk2 h
    · obtain ⟨e1, -⟩ := take_yes h2
      simp only [if_true] at h
      have hup : k2 ≤ (upP t k2).2 ∧ (upP t k2).2 ≤ t.length := by
        refine ⟨?_, upP_le hk2⟩
        unfold upP
        simp only
        have := skip_ge t k2
        split
        · exact this
        · have := (hnum _ (skip_le hk2)).1; omega
      rcases h3 : upP t k2 with ⟨o2, k3⟩
      rw [h3] at h hup
      cases o2 with
      | none => cases h
      | some b => exact hend a b k3 (by simp only at hup; omega) hup.2 h

theorem many_fine {s : ByteArray} {ch : Nat → Option Ex × Nat} (hfn : Fine s.size ch) : Fine s.size (manyP s.data.toList ch) := by
  intro i e k hi he
  have h1f := one_fine hfn
  rcases h1 : oneP s.data.toList ch i with ⟨o, k1⟩
  unfold manyP at he
  rw [h1] at he
  cases o with
  | none => cases he
  | some y =>
    obtain ⟨f1, f2, f3⟩ := h1f i y k1 hi h1
    simp only at he
    have hj : skipN s.data.toList k1 ≤ s.size := by have := skip_le (t := s.data.toList) (k := k1) (by rw [ba_len]; exact f2); rw [ba_len] at this; exact this
    have hjg := skip_ge s.data.toList k1
    have hwt : ∀ a b : Int, (manyE a b y).wtE ≤ y.wtE := by
      intro a b; unfold manyE; rw [Ex.wtE, Ex.wtL, Ex.wtL]; have := wt_pos y; omega
    have hk4 : ∀ a b : Int, (manyE a b y).k = 2 ∨ (manyE a b y).k = 3 → 2 ≤ (manyE a b y).l.length := by
      intro a b h; rcases h with h | h <;> exact absurd h (by simp [manyE, Ex.k])
    rcases h4 : signP (peek s.data.toList (skipN s.data.toList k1)) with _ | ⟨pa, pb⟩
    · rw [h4] at he
      simp only at he
      by_cases h5 : peek s.data.toList (skipN s.data.toList k1) = 123
      · rw [if_pos h5] at he
        rcases h6 : brcP s.data.toList (skipN s.data.toList k1) with ⟨o2, k2⟩
        rw [h6] at he
        cases o2 with
        | none => cases he
        | some q =>
          cases he
          have hlt := peek_lt (t := s.data.toList) (k := skipN s.data.toList k1) (by rw [h5]; decide)
          have hb := brc_fine hlt h6
          rw [ba_len] at hb
          exact ⟨by have := hwt q.1 q.2; omega, hb.2, hk4 _ _⟩
      · rw [if_neg h5] at he
        cases he
        exact ⟨by omega, hj, f3⟩
    · rw [h4] at he
      cases he
      have hlt := peek_lt (t := s.data.toList) (k := skipN s.data.toList k1) (peek_sign (by rw [h4]; simp))
      rw [ba_len] at hlt
      exact ⟨by have := hwt pa pb; omega, by omega, hk4 _ _⟩
end Go.Proofs.YtfbcafapnagjfaaDoor
