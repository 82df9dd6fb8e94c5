/- ExprNames: the walk. -/
import Derived.Test.YtfbcafapnagjfaaDoorExZ
namespace Go.Proofs.YtfbcafapnagjfaaDoor
open Go.RowKit

def zeroV : Value := .agg #[.int .i64 0, .string ⟨#[]⟩, .int .i64 0, .int .i64 0, .slice none 0 0]
theorem pp1 (w : World) : Calls Tryd.prog 4 #[.string ⟨#[112, 43, 32, 40, 104, 32, 124, 32, 108, 105, 123, 50, 44, 51, 125, 41, 42]⟩] w (ParseR w (some exE, 0, 0)) := by
  have h := Parse_any (baOf exT) w
  rw [baOf_list, exE_parse] at h
  exact h
theorem pp2 (w : World) : Calls Tryd.prog 4 #[.string ⟨#[112, 32, 124]⟩] w (ParseR w (none, 3, 4)) := by
  have h := Parse_any (baOf [112, 32, 124]) w
  rw [baOf_list, p1] at h
  exact h
theorem pp3 (w : World) : Calls Tryd.prog 4 #[.string ⟨#[]⟩] w (ParseR w (some (.mk 2 (baOf []) 0 0 []), 0, 0)) := by
  have h := Parse_any (baOf []) w
  rw [baOf_list, p2] at h
  exact h
theorem pp4 (w : World) : Calls Tryd.prog 4 #[.string ⟨#[40, 40, 112, 41, 41]⟩] w (ParseR w (some (nmE [112]), 0, 0)) := by
  have h := Parse_any (baOf [40, 40, 112, 41, 41]) w
  rw [baOf_list, p3] at h
  exact h

set_option maxRecDepth 100000 in
set_option maxHeartbeats 1600000 in
theorem lives_any (w : World) : Calls Tryd.prog 5 #[] w (BadR true w) := by
  obtain ⟨w0, rfl⟩ : ∃ w0 : World, w0 = w := ⟨_, rfl⟩
  go_enter Tryd.func5, Tryd.ntmps5
  go_wp2_with fail
  refine (pp1 _).mono ?_
  rintro x w1 ⟨e, A, c, rfl, he, hb1, hk1⟩
  have he' : e = exE := he
  subst he'
  clear he
  have HQ1 := Lib.hid (Bk.new w1 24 #[.int .i64 exE.k, .string exE.n, .int .i64 exE.a, .int .i64 exE.b, .slice A exE.l.length c])
  have HB1 := Lib.hid (hb1.alloc hb1.size (.cells #[.int .i64 exE.k, .string exE.n, .int .i64 exE.a, .int .i64 exE.b, .slice A exE.l.length c] 24))
  have HK1 := Lib.hid (hk1.kb.alloc (Nat.le_refl _) (.cells #[.int .i64 exE.k, .string exE.n, .int .i64 exE.a, .int .i64 exE.b, .slice A exE.l.length c] 24))
  have hz1 := hb1.size
  have HZ1 := Lib.hid hz1
  clear hb1 hk1 hz1
  go_wp2_with fail
  refine (example_any _).mono ?_
  rintro x w2 ⟨A2, c2, rfl, hk2, hb2⟩
  have HQ2 := Lib.hid (HQ1.out.all hb2)
  have HB2 := Lib.hid (HB1.out.trans (hb2.mono HB1.out.size))
  have HK2 := Lib.hid (HK1.out.below (hb2.mono (by simp)))
  have HT := Lib.hid (Text_any exE exE_ok exE_check (.slice A2 exE.l.length c2) w2.heap.size w2 hk2.kb (Nat.le_refl _))
  rw [exE_text] at HT
  clear hb2 hk2 HQ1 HB1 HK1
  go_wp2_with fail
  refine (HT.out).mono ?_
  clear HT
  rintro x w3 ⟨rfl, hb3⟩
  have HQ3 := Lib.hid (HQ2.out.all hb3)
  have HB3 := Lib.hid (HB2.out.trans (hb3.mono HB2.out.size))
  have hz12 : w1.heap.size < w2.heap.size := HQ2.out.lt
  have HK3 := Lib.hid (HK2.out.below (hb3.mono (by omega)))
  clear hb3 HQ2 HB2 HK2
  go_wp2_with fail
  refine (pp2 _).mono ?_
  rintro x w4 ⟨e4, A4, c4, rfl, -, hb4, -⟩
  have HQ4 := Lib.hid ((HQ3.out.all hb4).alloc (.cells #[.int .i64 e4.k, .string e4.n, .int .i64 e4.a, .int .i64 e4.b, .slice A4 e4.l.length c4] 24))
  have HB4 := Lib.hid ((HB3.out.trans (hb4.mono HB3.out.size)).alloc (by have := HB3.out.size; have := hb4.size; omega) (.cells #[.int .i64 e4.k, .string e4.n, .int .i64 e4.a, .int .i64 e4.b, .slice A4 e4.l.length c4] 24))
  have hz13 : w1.heap.size < w3.heap.size := HQ3.out.lt
  have hz14 : w1.heap.size < w4.heap.size := by have := hb4.size; omega
  have HK4 := Lib.hid ((HK3.out.below (hb4.mono (by omega))).alloc (by omega) (.cells #[.int .i64 e4.k, .string e4.n, .int .i64 e4.a, .int .i64 e4.b, .slice A4 e4.l.length c4] 24))
  clear hb4 HQ3 HB3 HK3
  go_wp2_with fail
  have hq : ((baOf exT).toList == [112, 43, 32, 40, 104, 32, 124, 32, 108, 105, 123, 50, 44, 51, 125, 41, 42]) = true := by rw [baOf_toList]; decide
  have QD := Lib.hid (Bk.drew HQ4.out)
  have BD := Lib.hid (Below.drew HB4.out)
  have KD := Lib.hid (Kd.drew HK4.out)
  have hzD : w1.heap.size < (w4.alloc (.cells #[.int .i64 e4.k, .string e4.n, .int .i64 e4.a, .int .i64 e4.b, .slice A4 e4.l.length c4] 24)).drew.heap.size := QD.out.lt
  have HZD := Lib.hid hzD
  clear hzD
  go_region_held3 (fun w' => w'.cell? ⟨w1.heap.size, 0, none⟩ = some (.int .i64 exE.k) ∧ w'.cell? ⟨w1.heap.size, 1, none⟩ = some (.string exE.n) ∧ w'.cell? ⟨w1.heap.size, 2, none⟩ = some (.int .i64 exE.a) ∧ w'.cell? ⟨w1.heap.size, 3, none⟩ = some (.int .i64 exE.b) ∧ w'.cell? ⟨w1.heap.size, 4, none⟩ = some (.slice A exE.l.length c))
    (first
      | exact (Bk.five HQ4.out).1
      | exact (Bk.five QD.out).1
      | exact (Bk.five (QD.out.all hb5)).1
      | exact (Bk.five ((QD.out.all hb5).all hb6)).1)
    (first
      | (go_at_call 12; refine (example_any _).mono ?_; rintro x w5 ⟨A5, c5, rfl, hk5, hb5⟩; have hc5 := Lib.hid (Same_any exE exE (.slice A exE.l.length c) (.slice A5 exE.l.length c5) w5.heap.size w5 (Kb.bmono (Kb.below KD.out (hb5.mono (Nat.le_of_lt HZD.out))) (by have := hb5.size; have := HZD.out; omega)) hk5.kb (Nat.le_refl _)); rw [exE_same] at hc5; clear hk5)
      | (go_at_call 6; refine (hc5.out).mono ?_; rintro x w6 ⟨rfl, hb6⟩))
  have HB6 := Lib.hid ((BD.out.trans (hb5.mono BD.out.size)).trans (hb6.mono (by have := hb5.size; have := BD.out.size; omega)))
  clear hb5 hb6
  go_wp2_with fail
  go_ret
  exact ⟨rfl, HB6.out⟩
/-! ## ExprNames -/
theorem bad1 (w : World) : Calls Tryd.prog 8 #[.string ⟨#[112, 41]⟩, .int .i64 1] w (BadR true w) := bad_any [112, 41] 1 p4 w
theorem bad2 (w : World) : Calls Tryd.prog 8 #[.string ⟨#[80]⟩, .int .i64 0] w (BadR true w) := bad_any [80] 0 p5 w
theorem bad3 (w : World) : Calls Tryd.prog 8 #[.string ⟨#[112, 123, 51, 44, 50, 125]⟩, .int .i64 1] w (BadR true w) := bad_any [112, 123, 51, 44, 50, 125] 1 p6 w
theorem bad4 (w : World) : Calls Tryd.prog 8 #[.string ⟨#[112, 123, 48, 125]⟩, .int .i64 1] w (BadR true w) := bad_any [112, 123, 48, 125] 1 p7 w
theorem chk (w : World) : Calls Tryd.prog 9 #[.agg #[.int .i64 0, .string ⟨#[]⟩, .int .i64 0, .int .i64 0, .slice none 0 0]] w fun x w' => x = .returned (.int .i64 2) ∧ Below w.heap.size w w' := by
  have h := Check_any (.mk 0 (baOf []) 0 0 []) (.slice none 0 0) w.heap.size w (Kd.nil _ _) (Nat.le_refl _)
  rw [c0] at h
  exact h
theorem sm1 (e : Ex) (he : e = .mk 2 (baOf []) 0 0 []) (A : Option Addr) (c B : Nat) (w : World) (hk : Kb w B (.slice A e.l.length c) e.l) (hB : B ≤ w.heap.size) :
    Calls Tryd.prog 6 #[.agg #[.int .i64 e.k, .string e.n, .int .i64 e.a, .int .i64 e.b, .slice A e.l.length c], .agg #[.int .i64 2, .string ⟨#[]⟩, .int .i64 0, .int .i64 0, .slice none 0 0]] w (RetB true w) := by
  have h := Same_any e (.mk 2 (baOf []) 0 0 []) _ (.slice none 0 0) B w hk (Kd.nil _ _) hB
  rw [show sameM 64 e (.mk 2 (baOf []) 0 0 []) = true by rw [he]; exact s1] at h
  exact h
theorem sm2 (e : Ex) (he : e = nmE [112]) (A : Option Addr) (c B : Nat) (w : World) (hk : Kb w B (.slice A e.l.length c) e.l) (hB : B ≤ w.heap.size) :
    Calls Tryd.prog 6 #[.agg #[.int .i64 e.k, .string e.n, .int .i64 e.a, .int .i64 e.b, .slice A e.l.length c], .agg #[.int .i64 1, .string ⟨#[112]⟩, .int .i64 0, .int .i64 0, .slice none 0 0]] w (RetB true w) := by
  have h := Same_any e (nmE [112]) _ (.slice none 0 0) B w hk (Kd.nil _ _) hB
  rw [show sameM 64 e (nmE [112]) = true by rw [he]; exact s2] at h
  exact h

set_option maxRecDepth 100000 in
set_option maxHeartbeats 6400000 in
theorem exprNames_walk (w : World) : Calls Tryd.prog 3 #[] w (BadR true w) := by
  obtain ⟨w0, rfl⟩ : ∃ w0 : World, w0 = w := ⟨_, rfl⟩
  go_enter Tryd.func3, Tryd.ntmps3
  go_wp2_with fail
  refine (pp3 _).mono ?_
  rintro x w1 ⟨e1, A1, c1, rfl, he1, hb1, hk1⟩
  have HE1 : Hid (e1 = .mk 2 (baOf []) 0 0 []) := he1
  have HP1 := Lib.hid (Bk.new w1 24 #[.int .i64 e1.k, .string e1.n, .int .i64 e1.a, .int .i64 e1.b, .slice A1 e1.l.length c1])
  have HB1 := Lib.hid (hb1.alloc hb1.size (.cells #[.int .i64 e1.k, .string e1.n, .int .i64 e1.a, .int .i64 e1.b, .slice A1 e1.l.length c1] 24))
  have HK1 := Lib.hid (hk1.kb.alloc (Nat.le_refl _) (.cells #[.int .i64 e1.k, .string e1.n, .int .i64 e1.a, .int .i64 e1.b, .slice A1 e1.l.length c1] 24))
  clear hb1 hk1 he1
  go_wp2_with fail
  refine (pp4 _).mono ?_
  rintro x w2 ⟨e2, A2, c2, rfl, he2, hb2, hk2⟩
  have HE2 : Hid (e2 = nmE [112]) := he2
  have hz12 : w1.heap.size < w2.heap.size := by have := hb2.size; simp at this; omega
  have HZ12 := Lib.hid hz12
  have HP := Lib.hid ((HP1.out.all hb2).alloc (.cells #[.int .i64 e2.k, .string e2.n, .int .i64 e2.a, .int .i64 e2.b, .slice A2 e2.l.length c2] 24))
  have HQ := Lib.hid (Bk.new w2 24 #[.int .i64 e2.k, .string e2.n, .int .i64 e2.a, .int .i64 e2.b, .slice A2 e2.l.length c2])
  have HB2 := Lib.hid ((HB1.out.trans (hb2.mono HB1.out.size)).alloc (by have := HB1.out.size; have := hb2.size; omega) (.cells #[.int .i64 e2.k, .string e2.n, .int .i64 e2.a, .int .i64 e2.b, .slice A2 e2.l.length c2] 24))
  have HK2 := Lib.hid (Kb.alloc (Kb.below HK1.out (hb2.mono (by simp))) (Nat.le_of_lt hz12) (.cells #[.int .i64 e2.k, .string e2.n, .int .i64 e2.a, .int .i64 e2.b, .slice A2 e2.l.length c2] 24))
  have HL2 := Lib.hid (hk2.kb.alloc (Nat.le_refl _) (.cells #[.int .i64 e2.k, .string e2.n, .int .i64 e2.a, .int .i64 e2.b, .slice A2 e2.l.length c2] 24))
  clear hb2 hk2 he2 HP1 HB1 HK1
  go_wp2_with fail
  have PD := Lib.hid (Bk.drew HP.out)
  have QD := Lib.hid (Bk.drew HQ.out)
  have BD := Lib.hid (Below.drew HB2.out)
  have KD := Lib.hid (Kd.drew HK2.out)
  have LD := Lib.hid (Kd.drew HL2.out)
  have ZD : Hid (w2.heap.size < (w2.alloc (.cells #[.int .i64 e2.k, .string e2.n, .int .i64 e2.a, .int .i64 e2.b, .slice A2 e2.l.length c2] 24)).drew.heap.size) := QD.out.lt
  go_region_held3 (fun w' => (w'.cell? ⟨w1.heap.size, 0, none⟩ = some (.int .i64 e1.k) ∧ w'.cell? ⟨w1.heap.size, 1, none⟩ = some (.string e1.n) ∧ w'.cell? ⟨w1.heap.size, 2, none⟩ = some (.int .i64 e1.a) ∧ w'.cell? ⟨w1.heap.size, 3, none⟩ = some (.int .i64 e1.b) ∧ w'.cell? ⟨w1.heap.size, 4, none⟩ = some (.slice A1 e1.l.length c1)) ∧ (w'.cell? ⟨w2.heap.size, 0, none⟩ = some (.int .i64 e2.k) ∧ w'.cell? ⟨w2.heap.size, 1, none⟩ = some (.string e2.n) ∧ w'.cell? ⟨w2.heap.size, 2, none⟩ = some (.int .i64 e2.a) ∧ w'.cell? ⟨w2.heap.size, 3, none⟩ = some (.int .i64 e2.b) ∧ w'.cell? ⟨w2.heap.size, 4, none⟩ = some (.slice A2 e2.l.length c2)))
    (first
      | exact ⟨(Bk.five HP.out).1, (Bk.five HQ.out).1⟩
      | exact ⟨(Bk.five PD.out).1, (Bk.five QD.out).1⟩
      | exact ⟨(Bk.five (PD.out.all hb5)).1, (Bk.five (QD.out.all hb5)).1⟩
      | exact ⟨(Bk.five ((PD.out.all hb5).all hb6)).1, (Bk.five ((QD.out.all hb5).all hb6)).1⟩
      | exact ⟨(Bk.five (((PD.out.all hb5).all hb6).all hb7)).1, (Bk.five (((QD.out.all hb5).all hb6).all hb7)).1⟩
      | exact ⟨(Bk.five ((((PD.out.all hb5).all hb6).all hb7).all hb8)).1, (Bk.five ((((QD.out.all hb5).all hb6).all hb7).all hb8)).1⟩
      | exact ⟨(Bk.five (((((PD.out.all hb5).all hb6).all hb7).all hb8).all hb9)).1, (Bk.five (((((QD.out.all hb5).all hb6).all hb7).all hb8).all hb9)).1⟩
      | exact ⟨(Bk.five ((((((PD.out.all hb5).all hb6).all hb7).all hb8).all hb9).all hb10)).1, (Bk.five ((((((QD.out.all hb5).all hb6).all hb7).all hb8).all hb9).all hb10)).1⟩
      | exact ⟨(Bk.five (((((((PD.out.all hb5).all hb6).all hb7).all hb8).all hb9).all hb10).all hb11)).1, (Bk.five (((((((QD.out.all hb5).all hb6).all hb7).all hb8).all hb9).all hb10).all hb11)).1⟩
      | exact ⟨(Bk.five ((((((((PD.out.all hb5).all hb6).all hb7).all hb8).all hb9).all hb10).all hb11).all hb12)).1, (Bk.five ((((((((QD.out.all hb5).all hb6).all hb7).all hb8).all hb9).all hb10).all hb11).all hb12)).1⟩
      | exact ⟨(Bk.five (((((((((PD.out.all hb5).all hb6).all hb7).all hb8).all hb9).all hb10).all hb11).all hb12).all hb13)).1, (Bk.five (((((((((QD.out.all hb5).all hb6).all hb7).all hb8).all hb9).all hb10).all hb11).all hb12).all hb13)).1⟩)
    (first
      | (go_at_call 5; refine (lives_any _).mono ?_; rintro x w5 ⟨rfl, hb5⟩; have hc5 := Lib.hid (sm1 e1 HE1.out A1 c1 w1.heap.size w5 (Kb.below KD.out (hb5.mono (by have := ZD.out; have := HZ12.out; omega))) (by have := hb5.size; have := ZD.out; have := HZ12.out; omega)))
      | (go_at_call_of 6 (Value.int IntKind.i64 2); refine (hc5.out).mono ?_; rintro x w6 ⟨rfl, hb6⟩)
      | (go_at_call 7; refine (nm_any _ _).mono ?_; rintro x w7 ⟨rfl, hb7⟩; have hc7 := Lib.hid (sm2 e2 HE2.out A2 c2 w2.heap.size w7 (Kb.below (Kb.below (Kb.below LD.out (hb5.mono (by have := ZD.out; omega))) (hb6.mono (by have := ZD.out; have := hb5.size; omega))) (hb7.mono (by have := ZD.out; have := hb5.size; have := hb6.size; omega))) (by have := ZD.out; have := hb5.size; have := hb6.size; have := hb7.size; omega)))
      | (go_at_call_of 6 (Value.int IntKind.i64 1); refine (hc7.out).mono ?_; rintro x w8 ⟨rfl, hb8⟩)
      | (go_at_call_of 8 (Value.string ⟨#[112, 41]⟩); refine (bad1 _).mono ?_; rintro x w9 ⟨rfl, hb9⟩)
      | (go_at_call_of 8 (Value.string ⟨#[80]⟩); refine (bad2 _).mono ?_; rintro x w10 ⟨rfl, hb10⟩)
      | (go_at_call_of 8 (Value.string ⟨#[112, 123, 51, 44, 50, 125]⟩); refine (bad3 _).mono ?_; rintro x w11 ⟨rfl, hb11⟩)
      | (go_at_call_of 8 (Value.string ⟨#[112, 123, 48, 125]⟩); refine (bad4 _).mono ?_; rintro x w12 ⟨rfl, hb12⟩)
      | (go_at_call 9; refine (chk _).mono ?_; rintro x w13 ⟨rfl, hb13⟩))
  have hB5 := BD.out.trans (hb5.mono BD.out.size)
  have hB6 := hB5.trans (hb6.mono hB5.size)
  have hB7 := hB6.trans (hb7.mono hB6.size)
  have hB8 := hB7.trans (hb8.mono hB7.size)
  have hB9 := hB8.trans (hb9.mono hB8.size)
  have hB10 := hB9.trans (hb10.mono hB9.size)
  have hB11 := hB10.trans (hb11.mono hB10.size)
  have hB12 := hB11.trans (hb12.mono hB11.size)
  have hB13 := hB12.trans (hb13.mono hB12.size)
  have HF := Lib.hid hB13
  clear hB5 hB6 hB7 hB8 hB9 hB10 hB11 hB12 hB13 hb5 hb6 hb7 hb8 hb9 hb10 hb11 hb12 hb13
  go_wp2_with fail
  go_ret
  exact ⟨rfl, HF.out⟩
end Go.Proofs.YtfbcafapnagjfaaDoor
