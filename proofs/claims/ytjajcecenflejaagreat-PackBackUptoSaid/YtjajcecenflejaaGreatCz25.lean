/- YtjajcecenflejaaGreatCz25 -/
import Derived.Test.YtjajcecenflejaaGreatCz24
import Derived.Test.YtjajcecenflejaaGreatCz21
namespace Go.Proofs.YtjajcecenflejaaGreat
open Go.ChangeShapes Go.WideShapes Go.ChangeAt Go.RowKit Go.Deep
section
variable {H : Type} {enc : TypeId × Value → H} {W : World} {base : Nat} {sp : Nat → Bool} {hd : Bool}
theorem rdu_str (n : Nat) : Rdu enc Tryz.prog W base sp hd n 9 fun cs b => ∃ y : ByteArray, Tls W cs (Cl.c y) ∧ dbkL (Cl.c y) ≤ b := rdu_s (by kernel_rfl)
theorem rdu_strs (n : Nat) : Rdu enc Tryz.prog W base sp hd n 66 fun cs b => ∃ l : List ByteArray, Tls W cs [lD l] ∧ dbkL [lD l] ≤ b :=
  (rdu_l (P := Tryz.prog) (T := ByteArray) (e := 9) (by kernel_rfl) (by kernel_rfl) (by decide) (rdu_str n)).le (Nat.le_succ n)
theorem rdu_at_f : (Tryz.prog.fieldsOf 118).toList.map (fun f => (f.type, f.offset)) = [(9, 0), (9, 1)] := by kernel_rfl
set_option maxRecDepth 100000 in
theorem rdu_at (n : Nat) : Rdu enc Tryz.prog W base sp hd n 118 fun cs b => ∃ y : At, Tls W cs (Cl.c y) ∧ dbkL (Cl.c y) ≤ b := fun fuel hf cs x h hw => by
  obtain ⟨hl, bs, hbs, hfs⟩ := rdu_f (n := n) (show Tryz.prog.underlying 118 = some (.struct (Tryz.prog.fieldsOf 118)) by kernel_rfl) (by omega) h hw
  rw [show Tryz.prog.cellsOf 118 = 2 by kernel_rfl] at hl
  obtain ⟨f0, h0, t0, o0⟩ := field2_at rdu_at_f (j := 0) rfl
  obtain ⟨b0, q0, y0, r0, u0⟩ := hfs 0 f0 h0 _ (by rw [t0]; exact rdu_s (by kernel_rfl))
  rw [t0, o0, show Tryz.prog.cellsOf 9 = 1 by kernel_rfl] at r0
  obtain ⟨f1, h1, t1, o1⟩ := field2_at rdu_at_f (j := 1) rfl
  obtain ⟨b1, q1, y1, r1, u1⟩ := hfs 1 f1 h1 _ (by rw [t1]; exact rdu_s (by kernel_rfl))
  rw [t1, o1, show Tryz.prog.cellsOf 9 = 1 by kernel_rfl] at r1
  match cs, hl with
  | [c0, c1], _ =>
    simp only [List.drop_succ_cons, List.drop_zero, List.take_succ_cons, List.take_zero] at r0 r1
    have hs := sum_ge bs [b0, b1] fun j c hc => by
      match j, hc with
      | 0, hc => simp at hc; subst hc; exact q0
      | 1, hc => simp at hc; subst hc; exact q1
      | j + 2, hc => simp at hc
    simp only [List.sum_cons, List.sum_nil] at hs
    refine ⟨⟨y0, y1⟩, ⟨r0.1, r1.1, trivial⟩, ?_⟩
    simp only [Cl.c, dbkL, dS] at u0 u1 ⊢
    omega
theorem rdu_ats (n : Nat) : Rdu enc Tryz.prog W base sp hd n 22 fun cs b => ∃ l : List At, Tls W cs [lD l] ∧ dbkL [lD l] ≤ b :=
  (rdu_l (P := Tryz.prog) (T := At) (e := 118) (by kernel_rfl) (by kernel_rfl) (by decide) (rdu_at n)).le (Nat.le_succ n)
theorem rdu_sp_f : (Tryz.prog.fieldsOf 169).toList.map (fun f => (f.type, f.offset)) = [(9, 0), (9, 1), (4, 2)] := by kernel_rfl
set_option maxRecDepth 100000 in
theorem rdu_sp (n : Nat) : Rdu enc Tryz.prog W base sp hd n 169 fun cs b => ∃ y : Sp, Tls W cs (Cl.c y) ∧ dbkL (Cl.c y) ≤ b := fun fuel hf cs x h hw => by
  obtain ⟨hl, bs, hbs, hfs⟩ := rdu_f (n := n) (show Tryz.prog.underlying 169 = some (.struct (Tryz.prog.fieldsOf 169)) by kernel_rfl) (by omega) h hw
  rw [show Tryz.prog.cellsOf 169 = 3 by kernel_rfl] at hl
  obtain ⟨f0, h0, t0, o0⟩ := field2_at rdu_sp_f (j := 0) rfl
  obtain ⟨b0, q0, y0, r0, u0⟩ := hfs 0 f0 h0 _ (by rw [t0]; exact rdu_s (by kernel_rfl))
  rw [t0, o0, show Tryz.prog.cellsOf 9 = 1 by kernel_rfl] at r0
  obtain ⟨f1, h1, t1, o1⟩ := field2_at rdu_sp_f (j := 1) rfl
  obtain ⟨b1, q1, y1, r1, u1⟩ := hfs 1 f1 h1 _ (by rw [t1]; exact rdu_s (by kernel_rfl))
  rw [t1, o1, show Tryz.prog.cellsOf 9 = 1 by kernel_rfl] at r1
  obtain ⟨f2, h2, t2, o2⟩ := field2_at rdu_sp_f (j := 2) rfl
  obtain ⟨b2, q2, y2, r2, u2⟩ := hfs 2 f2 h2 _ (by rw [t2]; exact rdu_b (by kernel_rfl))
  rw [t2, o2, show Tryz.prog.cellsOf 4 = 1 by kernel_rfl] at r2
  match cs, hl with
  | [c0, c1, c2], _ =>
    simp only [List.drop_succ_cons, List.drop_zero, List.take_succ_cons, List.take_zero] at r0 r1 r2
    have hs := sum_ge bs [b0, b1, b2] fun j c hc => by
      match j, hc with
      | 0, hc => simp at hc; subst hc; exact q0
      | 1, hc => simp at hc; subst hc; exact q1
      | 2, hc => simp at hc; subst hc; exact q2
      | j + 3, hc => simp at hc
    simp only [List.sum_cons, List.sum_nil] at hs
    refine ⟨⟨y0, y1, y2⟩, ⟨r0.1, r1.1, r2.1, trivial⟩, ?_⟩
    simp only [Cl.c, dbkL, dS, dB] at u0 u1 u2 ⊢
    omega
theorem rdu_sps (n : Nat) : Rdu enc Tryz.prog W base sp hd n 67 fun cs b => ∃ l : List Sp, Tls W cs [lD l] ∧ dbkL [lD l] ≤ b :=
  (rdu_l (P := Tryz.prog) (T := Sp) (e := 169) (by kernel_rfl) (by kernel_rfl) (by decide) (rdu_sp n)).le (Nat.le_succ n)
theorem rdu_mk_f : (Tryz.prog.fieldsOf 60).toList.map (fun f => (f.type, f.offset)) = [(9, 0), (22, 1)] := by kernel_rfl
set_option maxRecDepth 100000 in
theorem rdu_mk (n : Nat) : Rdu enc Tryz.prog W base sp hd n 60 fun cs b => ∃ y : Mk, Tls W cs (Cl.c y) ∧ dbkL (Cl.c y) ≤ b := fun fuel hf cs x h hw => by
  obtain ⟨hl, bs, hbs, hfs⟩ := rdu_f (n := n) (show Tryz.prog.underlying 60 = some (.struct (Tryz.prog.fieldsOf 60)) by kernel_rfl) (by omega) h hw
  rw [show Tryz.prog.cellsOf 60 = 2 by kernel_rfl] at hl
  obtain ⟨f0, h0, t0, o0⟩ := field2_at rdu_mk_f (j := 0) rfl
  obtain ⟨b0, q0, y0, r0, u0⟩ := hfs 0 f0 h0 _ (by rw [t0]; exact rdu_s (by kernel_rfl))
  rw [t0, o0, show Tryz.prog.cellsOf 9 = 1 by kernel_rfl] at r0
  obtain ⟨f1, h1, t1, o1⟩ := field2_at rdu_mk_f (j := 1) rfl
  obtain ⟨b1, q1, y1, r1, u1⟩ := hfs 1 f1 h1 _ (by rw [t1]; exact rdu_ats n)
  rw [t1, o1, show Tryz.prog.cellsOf 22 = 1 by kernel_rfl] at r1
  match cs, hl with
  | [c0, c1], _ =>
    simp only [List.drop_succ_cons, List.drop_zero, List.take_succ_cons, List.take_zero] at r0 r1
    have hs := sum_ge bs [b0, b1] fun j c hc => by
      match j, hc with
      | 0, hc => simp at hc; subst hc; exact q0
      | 1, hc => simp at hc; subst hc; exact q1
      | j + 2, hc => simp at hc
    simp only [List.sum_cons, List.sum_nil] at hs
    refine ⟨⟨y0, y1⟩, ⟨r0.1, r1.1, trivial⟩, ?_⟩
    simp only [Cl.c, dbkL, dS] at u0 u1 ⊢
    omega
theorem rdu_mks (n : Nat) : Rdu enc Tryz.prog W base sp hd n 23 fun cs b => ∃ l : List Mk, Tls W cs [lD l] ∧ dbkL [lD l] ≤ b :=
  (rdu_l (P := Tryz.prog) (T := Mk) (e := 60) (by kernel_rfl) (by kernel_rfl) (by decide) (rdu_mk n)).le (Nat.le_succ n)
theorem rdu_tk_f : (Tryz.prog.fieldsOf 57).toList.map (fun f => (f.type, f.offset)) = [(3, 0), (9, 1), (22, 2), (23, 3), (5, 4)] := by kernel_rfl
set_option maxRecDepth 100000 in
theorem rdu_tk (n : Nat) : Rdu enc Tryz.prog W base sp hd n 57 fun cs b => ∃ y : Tk, Tls W cs (Cl.c y) ∧ dbkL (Cl.c y) ≤ b := fun fuel hf cs x h hw => by
  obtain ⟨hl, bs, hbs, hfs⟩ := rdu_f (n := n) (show Tryz.prog.underlying 57 = some (.struct (Tryz.prog.fieldsOf 57)) by kernel_rfl) (by omega) h hw
  rw [show Tryz.prog.cellsOf 57 = 5 by kernel_rfl] at hl
  obtain ⟨f0, h0, t0, o0⟩ := field2_at rdu_tk_f (j := 0) rfl
  obtain ⟨b0, q0, y0, r0, u0⟩ := hfs 0 f0 h0 _ (by rw [t0]; exact rdu_i (k := .i64) (by kernel_rfl))
  rw [t0, o0, show Tryz.prog.cellsOf 3 = 1 by kernel_rfl] at r0
  obtain ⟨f1, h1, t1, o1⟩ := field2_at rdu_tk_f (j := 1) rfl
  obtain ⟨b1, q1, y1, r1, u1⟩ := hfs 1 f1 h1 _ (by rw [t1]; exact rdu_s (by kernel_rfl))
  rw [t1, o1, show Tryz.prog.cellsOf 9 = 1 by kernel_rfl] at r1
  obtain ⟨f2, h2, t2, o2⟩ := field2_at rdu_tk_f (j := 2) rfl
  obtain ⟨b2, q2, y2, r2, u2⟩ := hfs 2 f2 h2 _ (by rw [t2]; exact rdu_ats n)
  rw [t2, o2, show Tryz.prog.cellsOf 22 = 1 by kernel_rfl] at r2
  obtain ⟨f3, h3, t3, o3⟩ := field2_at rdu_tk_f (j := 3) rfl
  obtain ⟨b3, q3, y3, r3, u3⟩ := hfs 3 f3 h3 _ (by rw [t3]; exact rdu_mks n)
  rw [t3, o3, show Tryz.prog.cellsOf 23 = 1 by kernel_rfl] at r3
  obtain ⟨f4, h4, t4, o4⟩ := field2_at rdu_tk_f (j := 4) rfl
  obtain ⟨b4, q4, y4, r4, u4⟩ := hfs 4 f4 h4 _ (by rw [t4]; exact rdu_i (k := .u8) (by kernel_rfl))
  rw [t4, o4, show Tryz.prog.cellsOf 5 = 1 by kernel_rfl] at r4
  match cs, hl with
  | [c0, c1, c2, c3, c4], _ =>
    simp only [List.drop_succ_cons, List.drop_zero, List.take_succ_cons, List.take_zero] at r0 r1 r2 r3 r4
    have hs := sum_ge bs [b0, b1, b2, b3, b4] fun j c hc => by
      match j, hc with
      | 0, hc => simp at hc; subst hc; exact q0
      | 1, hc => simp at hc; subst hc; exact q1
      | 2, hc => simp at hc; subst hc; exact q2
      | 3, hc => simp at hc; subst hc; exact q3
      | 4, hc => simp at hc; subst hc; exact q4
      | j + 5, hc => simp at hc
    simp only [List.sum_cons, List.sum_nil] at hs
    refine ⟨⟨y0, y1, y2, y3, y4⟩, ⟨r0.1, r1.1, r2.1, r3.1, r4.1, trivial⟩, ?_⟩
    simp only [Cl.c, dbkL, dI, dS] at u0 u1 u2 u3 u4 ⊢
    omega
theorem rdu_tks (n : Nat) : Rdu enc Tryz.prog W base sp hd n 58 fun cs b => ∃ l : List Tk, Tls W cs [lD l] ∧ dbkL [lD l] ≤ b :=
  (rdu_l (P := Tryz.prog) (T := Tk) (e := 57) (by kernel_rfl) (by kernel_rfl) (by decide) (rdu_tk n)).le (Nat.le_succ n)
theorem rdu_st_f : (Tryz.prog.fieldsOf 62).toList.map (fun f => (f.type, f.offset)) = [(3, 0), (3, 1), (3, 2), (3, 3), (3, 4), (3, 5), (58, 6), (60, 7), (9, 9), (9, 10)] := by kernel_rfl
set_option maxRecDepth 100000 in
theorem rdu_st (n : Nat) : Rdu enc Tryz.prog W base sp hd n 62 fun cs b => ∃ y : St, Tls W cs (Cl.c y) ∧ dbkL (Cl.c y) ≤ b := fun fuel hf cs x h hw => by
  obtain ⟨hl, bs, hbs, hfs⟩ := rdu_f (n := n) (show Tryz.prog.underlying 62 = some (.struct (Tryz.prog.fieldsOf 62)) by kernel_rfl) (by omega) h hw
  rw [show Tryz.prog.cellsOf 62 = 11 by kernel_rfl] at hl
  obtain ⟨f0, h0, t0, o0⟩ := field2_at rdu_st_f (j := 0) rfl
  obtain ⟨b0, q0, y0, r0, u0⟩ := hfs 0 f0 h0 _ (by rw [t0]; exact rdu_i (k := .i64) (by kernel_rfl))
  rw [t0, o0, show Tryz.prog.cellsOf 3 = 1 by kernel_rfl] at r0
  obtain ⟨f1, h1, t1, o1⟩ := field2_at rdu_st_f (j := 1) rfl
  obtain ⟨b1, q1, y1, r1, u1⟩ := hfs 1 f1 h1 _ (by rw [t1]; exact rdu_i (k := .i64) (by kernel_rfl))
  rw [t1, o1, show Tryz.prog.cellsOf 3 = 1 by kernel_rfl] at r1
  obtain ⟨f2, h2, t2, o2⟩ := field2_at rdu_st_f (j := 2) rfl
  obtain ⟨b2, q2, y2, r2, u2⟩ := hfs 2 f2 h2 _ (by rw [t2]; exact rdu_i (k := .i64) (by kernel_rfl))
  rw [t2, o2, show Tryz.prog.cellsOf 3 = 1 by kernel_rfl] at r2
  obtain ⟨f3, h3, t3, o3⟩ := field2_at rdu_st_f (j := 3) rfl
  obtain ⟨b3, q3, y3, r3, u3⟩ := hfs 3 f3 h3 _ (by rw [t3]; exact rdu_i (k := .i64) (by kernel_rfl))
  rw [t3, o3, show Tryz.prog.cellsOf 3 = 1 by kernel_rfl] at r3
  obtain ⟨f4, h4, t4, o4⟩ := field2_at rdu_st_f (j := 4) rfl
  obtain ⟨b4, q4, y4, r4, u4⟩ := hfs 4 f4 h4 _ (by rw [t4]; exact rdu_i (k := .i64) (by kernel_rfl))
  rw [t4, o4, show Tryz.prog.cellsOf 3 = 1 by kernel_rfl] at r4
  obtain ⟨f5, h5, t5, o5⟩ := field2_at rdu_st_f (j := 5) rfl
  obtain ⟨b5, q5, y5, r5, u5⟩ := hfs 5 f5 h5 _ (by rw [t5]; exact rdu_i (k := .i64) (by kernel_rfl))
  rw [t5, o5, show Tryz.prog.cellsOf 3 = 1 by kernel_rfl] at r5
  obtain ⟨f6, h6, t6, o6⟩ := field2_at rdu_st_f (j := 6) rfl
  obtain ⟨b6, q6, y6, r6, u6⟩ := hfs 6 f6 h6 _ (by rw [t6]; exact rdu_tks n)
  rw [t6, o6, show Tryz.prog.cellsOf 58 = 1 by kernel_rfl] at r6
  obtain ⟨f7, h7, t7, o7⟩ := field2_at rdu_st_f (j := 7) rfl
  obtain ⟨b7, q7, y7, r7, u7⟩ := hfs 7 f7 h7 _ (by rw [t7]; exact rdu_mk n)
  rw [t7, o7, show Tryz.prog.cellsOf 60 = 2 by kernel_rfl] at r7
  obtain ⟨f8, h8, t8, o8⟩ := field2_at rdu_st_f (j := 8) rfl
  obtain ⟨b8, q8, y8, r8, u8⟩ := hfs 8 f8 h8 _ (by rw [t8]; exact rdu_s (by kernel_rfl))
  rw [t8, o8, show Tryz.prog.cellsOf 9 = 1 by kernel_rfl] at r8
  obtain ⟨f9, h9, t9, o9⟩ := field2_at rdu_st_f (j := 9) rfl
  obtain ⟨b9, q9, y9, r9, u9⟩ := hfs 9 f9 h9 _ (by rw [t9]; exact rdu_s (by kernel_rfl))
  rw [t9, o9, show Tryz.prog.cellsOf 9 = 1 by kernel_rfl] at r9
  match cs, hl with
  | [c0, c1, c2, c3, c4, c5, c6, c7, c8, c9, c10], _ =>
    simp only [List.drop_succ_cons, List.drop_zero, List.take_succ_cons, List.take_zero] at r0 r1 r2 r3 r4 r5 r6 r7 r8 r9
    have hs := sum_ge bs [b0, b1, b2, b3, b4, b5, b6, b7, b8, b9] fun j c hc => by
      match j, hc with
      | 0, hc => simp at hc; subst hc; exact q0
      | 1, hc => simp at hc; subst hc; exact q1
      | 2, hc => simp at hc; subst hc; exact q2
      | 3, hc => simp at hc; subst hc; exact q3
      | 4, hc => simp at hc; subst hc; exact q4
      | 5, hc => simp at hc; subst hc; exact q5
      | 6, hc => simp at hc; subst hc; exact q6
      | 7, hc => simp at hc; subst hc; exact q7
      | 8, hc => simp at hc; subst hc; exact q8
      | 9, hc => simp at hc; subst hc; exact q9
      | j + 10, hc => simp at hc
    simp only [List.sum_cons, List.sum_nil] at hs
    refine ⟨⟨y0, y1, y2, y3, y4, y5, y6, y7, y8, y9⟩, ⟨r0.1, r1.1, r2.1, r3.1, r4.1, r5.1, r6.1, r7.1, r7.2.1, r8.1, r9.1, trivial⟩, ?_⟩
    simp only [Cl.c, dbkL, dI, dS] at u0 u1 u2 u3 u4 u5 u6 u7 u8 u9 ⊢
    omega
theorem rdu_sts (n : Nat) : Rdu enc Tryz.prog W base sp hd n 27 fun cs b => ∃ l : List St, Tls W cs [lD l] ∧ dbkL [lD l] ≤ b :=
  (rdu_l (P := Tryz.prog) (T := St) (e := 62) (by kernel_rfl) (by kernel_rfl) (by decide) (rdu_st n)).le (Nat.le_succ n)
theorem rdu_ty_f : (Tryz.prog.fieldsOf 69).toList.map (fun f => (f.type, f.offset)) = [(9, 0), (9, 1), (66, 2), (4, 3), (67, 4), (66, 5)] := by kernel_rfl
set_option maxRecDepth 100000 in
theorem rdu_ty (n : Nat) : Rdu enc Tryz.prog W base sp hd n 69 fun cs b => ∃ y : Ty, Tls W cs (Cl.c y) ∧ dbkL (Cl.c y) ≤ b := fun fuel hf cs x h hw => by
  obtain ⟨hl, bs, hbs, hfs⟩ := rdu_f (n := n) (show Tryz.prog.underlying 69 = some (.struct (Tryz.prog.fieldsOf 69)) by kernel_rfl) (by omega) h hw
  rw [show Tryz.prog.cellsOf 69 = 6 by kernel_rfl] at hl
  obtain ⟨f0, h0, t0, o0⟩ := field2_at rdu_ty_f (j := 0) rfl
  obtain ⟨b0, q0, y0, r0, u0⟩ := hfs 0 f0 h0 _ (by rw [t0]; exact rdu_s (by kernel_rfl))
  rw [t0, o0, show Tryz.prog.cellsOf 9 = 1 by kernel_rfl] at r0
  obtain ⟨f1, h1, t1, o1⟩ := field2_at rdu_ty_f (j := 1) rfl
  obtain ⟨b1, q1, y1, r1, u1⟩ := hfs 1 f1 h1 _ (by rw [t1]; exact rdu_s (by kernel_rfl))
  rw [t1, o1, show Tryz.prog.cellsOf 9 = 1 by kernel_rfl] at r1
  obtain ⟨f2, h2, t2, o2⟩ := field2_at rdu_ty_f (j := 2) rfl
  obtain ⟨b2, q2, y2, r2, u2⟩ := hfs 2 f2 h2 _ (by rw [t2]; exact rdu_strs n)
  rw [t2, o2, show Tryz.prog.cellsOf 66 = 1 by kernel_rfl] at r2
  obtain ⟨f3, h3, t3, o3⟩ := field2_at rdu_ty_f (j := 3) rfl
  obtain ⟨b3, q3, y3, r3, u3⟩ := hfs 3 f3 h3 _ (by rw [t3]; exact rdu_b (by kernel_rfl))
  rw [t3, o3, show Tryz.prog.cellsOf 4 = 1 by kernel_rfl] at r3
  obtain ⟨f4, h4, t4, o4⟩ := field2_at rdu_ty_f (j := 4) rfl
  obtain ⟨b4, q4, y4, r4, u4⟩ := hfs 4 f4 h4 _ (by rw [t4]; exact rdu_sps n)
  rw [t4, o4, show Tryz.prog.cellsOf 67 = 1 by kernel_rfl] at r4
  obtain ⟨f5, h5, t5, o5⟩ := field2_at rdu_ty_f (j := 5) rfl
  obtain ⟨b5, q5, y5, r5, u5⟩ := hfs 5 f5 h5 _ (by rw [t5]; exact rdu_strs n)
  rw [t5, o5, show Tryz.prog.cellsOf 66 = 1 by kernel_rfl] at r5
  match cs, hl with
  | [c0, c1, c2, c3, c4, c5], _ =>
    simp only [List.drop_succ_cons, List.drop_zero, List.take_succ_cons, List.take_zero] at r0 r1 r2 r3 r4 r5
    have hs := sum_ge bs [b0, b1, b2, b3, b4, b5] fun j c hc => by
      match j, hc with
      | 0, hc => simp at hc; subst hc; exact q0
      | 1, hc => simp at hc; subst hc; exact q1
      | 2, hc => simp at hc; subst hc; exact q2
      | 3, hc => simp at hc; subst hc; exact q3
      | 4, hc => simp at hc; subst hc; exact q4
      | 5, hc => simp at hc; subst hc; exact q5
      | j + 6, hc => simp at hc
    simp only [List.sum_cons, List.sum_nil] at hs
    refine ⟨⟨y0, y1, y2, y3, y4, y5⟩, ⟨r0.1, r1.1, r2.1, r3.1, r4.1, r5.1, trivial⟩, ?_⟩
    simp only [Cl.c, dbkL, dS, dB] at u0 u1 u2 u3 u4 u5 ⊢
    omega
theorem rdu_tys (n : Nat) : Rdu enc Tryz.prog W base sp hd n 28 fun cs b => ∃ l : List Ty, Tls W cs [lD l] ∧ dbkL [lD l] ≤ b :=
  (rdu_l (P := Tryz.prog) (T := Ty) (e := 69) (by kernel_rfl) (by kernel_rfl) (by decide) (rdu_ty n)).le (Nat.le_succ n)
theorem rdu_mt_f : (Tryz.prog.fieldsOf 71).toList.map (fun f => (f.type, f.offset)) = [(9, 0), (66, 1), (67, 2)] := by kernel_rfl
set_option maxRecDepth 100000 in
theorem rdu_mt (n : Nat) : Rdu enc Tryz.prog W base sp hd n 71 fun cs b => ∃ y : Mt, Tls W cs (Cl.c y) ∧ dbkL (Cl.c y) ≤ b := fun fuel hf cs x h hw => by
  obtain ⟨hl, bs, hbs, hfs⟩ := rdu_f (n := n) (show Tryz.prog.underlying 71 = some (.struct (Tryz.prog.fieldsOf 71)) by kernel_rfl) (by omega) h hw
  rw [show Tryz.prog.cellsOf 71 = 3 by kernel_rfl] at hl
  obtain ⟨f0, h0, t0, o0⟩ := field2_at rdu_mt_f (j := 0) rfl
  obtain ⟨b0, q0, y0, r0, u0⟩ := hfs 0 f0 h0 _ (by rw [t0]; exact rdu_s (by kernel_rfl))
  rw [t0, o0, show Tryz.prog.cellsOf 9 = 1 by kernel_rfl] at r0
  obtain ⟨f1, h1, t1, o1⟩ := field2_at rdu_mt_f (j := 1) rfl
  obtain ⟨b1, q1, y1, r1, u1⟩ := hfs 1 f1 h1 _ (by rw [t1]; exact rdu_strs n)
  rw [t1, o1, show Tryz.prog.cellsOf 66 = 1 by kernel_rfl] at r1
  obtain ⟨f2, h2, t2, o2⟩ := field2_at rdu_mt_f (j := 2) rfl
  obtain ⟨b2, q2, y2, r2, u2⟩ := hfs 2 f2 h2 _ (by rw [t2]; exact rdu_sps n)
  rw [t2, o2, show Tryz.prog.cellsOf 67 = 1 by kernel_rfl] at r2
  match cs, hl with
  | [c0, c1, c2], _ =>
    simp only [List.drop_succ_cons, List.drop_zero, List.take_succ_cons, List.take_zero] at r0 r1 r2
    have hs := sum_ge bs [b0, b1, b2] fun j c hc => by
      match j, hc with
      | 0, hc => simp at hc; subst hc; exact q0
      | 1, hc => simp at hc; subst hc; exact q1
      | 2, hc => simp at hc; subst hc; exact q2
      | j + 3, hc => simp at hc
    simp only [List.sum_cons, List.sum_nil] at hs
    refine ⟨⟨y0, y1, y2⟩, ⟨r0.1, r1.1, r2.1, trivial⟩, ?_⟩
    simp only [Cl.c, dbkL, dS] at u0 u1 u2 ⊢
    omega
theorem rdu_mts (n : Nat) : Rdu enc Tryz.prog W base sp hd n 29 fun cs b => ∃ l : List Mt, Tls W cs [lD l] ∧ dbkL [lD l] ≤ b :=
  (rdu_l (P := Tryz.prog) (T := Mt) (e := 71) (by kernel_rfl) (by kernel_rfl) (by decide) (rdu_mt n)).le (Nat.le_succ n)
instance : Cl Sc := ⟨2, fun a => [lD a.t, lD a.m], fun _ => rfl⟩
theorem rdu_sc_f : (Tryz.prog.fieldsOf 31).toList.map (fun f => (f.type, f.offset)) = [(28, 0), (29, 1)] := by kernel_rfl
set_option maxRecDepth 100000 in
theorem rdu_sc (n : Nat) : Rdu enc Tryz.prog W base sp hd n 31 fun cs b => ∃ y : Sc, Tls W cs (Cl.c y) ∧ dbkL (Cl.c y) ≤ b := fun fuel hf cs x h hw => by
  obtain ⟨hl, bs, hbs, hfs⟩ := rdu_f (n := n) (show Tryz.prog.underlying 31 = some (.struct (Tryz.prog.fieldsOf 31)) by kernel_rfl) (by omega) h hw
  rw [show Tryz.prog.cellsOf 31 = 2 by kernel_rfl] at hl
  obtain ⟨f0, h0, t0, o0⟩ := field2_at rdu_sc_f (j := 0) rfl
  obtain ⟨b0, q0, y0, r0, u0⟩ := hfs 0 f0 h0 _ (by rw [t0]; exact rdu_tys n)
  rw [t0, o0, show Tryz.prog.cellsOf 28 = 1 by kernel_rfl] at r0
  obtain ⟨f1, h1, t1, o1⟩ := field2_at rdu_sc_f (j := 1) rfl
  obtain ⟨b1, q1, y1, r1, u1⟩ := hfs 1 f1 h1 _ (by rw [t1]; exact rdu_mts n)
  rw [t1, o1, show Tryz.prog.cellsOf 29 = 1 by kernel_rfl] at r1
  match cs, hl with
  | [c0, c1], _ =>
    simp only [List.drop_succ_cons, List.drop_zero, List.take_succ_cons, List.take_zero] at r0 r1
    have hs := sum_ge bs [b0, b1] fun j c hc => by
      match j, hc with
      | 0, hc => simp at hc; subst hc; exact q0
      | 1, hc => simp at hc; subst hc; exact q1
      | j + 2, hc => simp at hc
    simp only [List.sum_cons, List.sum_nil] at hs
    refine ⟨⟨y0, y1⟩, ⟨r0.1, r1.1, trivial⟩, ?_⟩
    simp only [Cl.c, dbkL] at u0 u1 ⊢
    omega
theorem rdu_nd_f : (Tryz.prog.fieldsOf 26).toList.map (fun f => (f.type, f.offset)) = [(9, 0), (22, 1), (23, 2), (9, 3), (24, 4)] := by kernel_rfl
set_option maxRecDepth 100000 in
theorem rdu_nd : ∀ n : Nat, Rdu enc Tryz.prog W base sp hd n 26 fun cs b => ∃ y : Nd, Tls W cs (Cl.c y) ∧ dbkL (Cl.c y) ≤ b
  | 0 => fun fuel hf cs x h _ => by
    obtain ⟨_, m, hm, _⟩ := DataW.trod_struct (show Tryz.prog.underlying 26 = some (.struct (Tryz.prog.fieldsOf 26)) by kernel_rfl) h
    omega
  | n + 1 => fun fuel hf cs x h hw => by
    have kids : Rdu enc Tryz.prog W base sp hd n 24 fun cs b => ∃ l : List Nd, Tls W cs [lD l] ∧ dbkL [lD l] ≤ b := (rdu_l (P := Tryz.prog) (T := Nd) (e := 26) (by kernel_rfl) (by kernel_rfl) (by decide) (rdu_nd n)).le (Nat.le_succ n)
    obtain ⟨hl, bs, hbs, hfs⟩ := rdu_f (n := n) (show Tryz.prog.underlying 26 = some (.struct (Tryz.prog.fieldsOf 26)) by kernel_rfl) (by omega) h hw
    rw [show Tryz.prog.cellsOf 26 = 5 by kernel_rfl] at hl
    obtain ⟨f0, h0, t0, o0⟩ := field2_at rdu_nd_f (j := 0) rfl
    obtain ⟨b0, q0, y0, r0, u0⟩ := hfs 0 f0 h0 _ (by rw [t0]; exact rdu_s (by kernel_rfl))
    rw [t0, o0, show Tryz.prog.cellsOf 9 = 1 by kernel_rfl] at r0
    obtain ⟨f1, h1, t1, o1⟩ := field2_at rdu_nd_f (j := 1) rfl
    obtain ⟨b1, q1, y1, r1, u1⟩ := hfs 1 f1 h1 _ (by rw [t1]; exact rdu_ats n)
    rw [t1, o1, show Tryz.prog.cellsOf 22 = 1 by kernel_rfl] at r1
    obtain ⟨f2, h2, t2, o2⟩ := field2_at rdu_nd_f (j := 2) rfl
    obtain ⟨b2, q2, y2, r2, u2⟩ := hfs 2 f2 h2 _ (by rw [t2]; exact rdu_mks n)
    rw [t2, o2, show Tryz.prog.cellsOf 23 = 1 by kernel_rfl] at r2
    obtain ⟨f3, h3, t3, o3⟩ := field2_at rdu_nd_f (j := 3) rfl
    obtain ⟨b3, q3, y3, r3, u3⟩ := hfs 3 f3 h3 _ (by rw [t3]; exact rdu_s (by kernel_rfl))
    rw [t3, o3, show Tryz.prog.cellsOf 9 = 1 by kernel_rfl] at r3
    obtain ⟨f4, h4, t4, o4⟩ := field2_at rdu_nd_f (j := 4) rfl
    obtain ⟨b4, q4, y4, r4, u4⟩ := hfs 4 f4 h4 _ (by rw [t4]; exact kids)
    rw [t4, o4, show Tryz.prog.cellsOf 24 = 1 by kernel_rfl] at r4
    match cs, hl with
    | [c0, c1, c2, c3, c4], _ =>
      simp only [List.drop_succ_cons, List.drop_zero, List.take_succ_cons, List.take_zero] at r0 r1 r2 r3 r4
      have hs := sum_ge bs [b0, b1, b2, b3, b4] fun j c hc => by
        match j, hc with
        | 0, hc => simp at hc; subst hc; exact q0
        | 1, hc => simp at hc; subst hc; exact q1
        | 2, hc => simp at hc; subst hc; exact q2
        | 3, hc => simp at hc; subst hc; exact q3
        | 4, hc => simp at hc; subst hc; exact q4
        | j + 5, hc => simp at hc
      simp only [List.sum_cons, List.sum_nil] at hs
      refine ⟨.mk y0 y1 y2 y3 y4, show Tls W _ (Nd.c _) from Nd.c_eq _ ▸ ⟨r0.1, r1.1, r2.1, r3.1, r4.1, trivial⟩, ?_⟩
      rw [show Cl.c (Nd.mk y0 y1 y2 y3 y4) = [dS y0, lD y1, lD y2, dS y3, lD y4] from Nd.c_eq _]
      simp only [dbkL, dS] at u0 u1 u2 u3 u4 ⊢
      omega
end
end Go.Proofs.YtjajcecenflejaaGreat
namespace Go.Proofs.YtjajcecenflejaaGreat
open Go.RowKit
theorem Tk.ext {a b : Tk} (h1 : a.k = b.k) (h2 : a.t = b.t) (h3 : a.a = b.a) (h4 : a.m = b.m) (h5 : a.c = b.c) : a = b := by cases a; cases b; cases h1; cases h2; cases h3; cases h4; cases h5; rfl
set_option maxRecDepth 100000 in
set_option maxHeartbeats 4000000 in
theorem kTokens_any (va vb : Value) (l m : List Tk) (S S' : Nat → Prop) (w : World) (hl : Ls w S va l) (hm : Ls w S' vb m) :
    Calls Tryz.prog 50 #[va, vb] w fun e w' => e = .returned (.bool (tf (l = m))) ∧ Below w.heap.size w w' := by
  obtain ⟨Al, cl, rfl⟩ := hl.form
  obtain ⟨Am, cm, rfl⟩ := hm.form
  have hml := hl.max
  have hmm := hm.max
  unfold maxLen at hml hmm
  by_cases hlen : l.length = m.length
  · have hlen' : ((l.length : Int) != (m.length : Int)) = false := by simp; omega
    have HL := Lib.hid hlen
    clear hlen
    go_enter Tryz.func50, Tryz.ntmps50
    go_wp2
    go_loopg [5, 6, 7] l.length (fun g i s6 s7 wr => ∃ k : Nat, k ≤ l.length ∧ g = l.length - k ∧ i = .int .i64 k ∧ Below w.heap.size w wr ∧ Hid (∀ j (h1 : j < l.length) (h2 : j < m.length), j < k → l[j] = m[j]))
    case atStart => exact ⟨0, Nat.zero_le _, by omega, rfl, Below.refl _ _, fun j _ _ hj => by omega⟩
    case round =>
      obtain ⟨k, hk, hg, rfl, hb, hall⟩ := hrel
      have HG := Lib.hid hg
      clear hg
      have hsz := hb.size
      by_cases hlt : k < l.length
      · have hltm : k < m.length := by have := HL.out; omega
        obtain ⟨bl, offl, v2, v3, rfl, ⟨_, hbl⟩, hcll, a0, a1, a2, a3, a4, ra, ma⟩ := at_tk (hl.under hb) hlt
        obtain ⟨bm, offm, u2, u3, rfl, ⟨_, hbm⟩, hcmm, b0, b1, b2, b3, b4, rb, mb⟩ := at_tk (hm.under hb) hltm
        have hi1 : (k : Int) < (l.length : Int) := by omega
        have hi2 : (k : Int) < (m.length : Int) := by omega
        have hi0 : (0 : Int) ≤ (k : Int) := by omega
        obtain ⟨A1, c1, rfl⟩ := ra.form
        obtain ⟨A2, c2, rfl⟩ := ma.form
        obtain ⟨A3, c3, rfl⟩ := rb.form
        obtain ⟨A4, c4, rfl⟩ := mb.form
        have HC : Hid (∀ w', Below wr.heap.size wr w' → Calls Tryz.prog 32 #[.slice A1 l[k].a.length c1, .slice A3 m[k].a.length c3] w' fun e w'' => e = .returned (.bool (tf (l[k].a = m[k].a))) ∧ Below w'.heap.size w' w'' ∧ Below wr.heap.size wr w'') := fun w' h =>
          (kAttrs_any _ _ _ _ S S' w' (ra.under h) (rb.under h)).mono fun e w'' ⟨he, hb⟩ => ⟨he, hb, h.trans (hb.mono h.size)⟩
        have HM : Hid (∀ w', Below wr.heap.size wr w' → Calls Tryz.prog 33 #[.slice A2 l[k].m.length c2, .slice A4 m[k].m.length c4] w' fun e w'' => e = .returned (.bool (tf (l[k].m = m[k].m))) ∧ Below wr.heap.size wr w'') := fun w' h =>
          (kMarks_any _ _ _ _ S S' w' (ma.under h) (mb.under h)).mono fun e w'' ⟨he, hb⟩ => ⟨he, h.trans (hb.mono h.size)⟩
        have h1 : (l[k].k == m[k].k) = tf (l[k].k = m[k].k) := eqI_tf _ _
        have h2 : (l[k].t.toList == m[k].t.toList) = tf (l[k].t = m[k].t) := eqS_tf _ _
        have h3 : (l[k].c == m[k].c) = tf (l[k].c = m[k].c) := eqI_tf _ _
        obtain ⟨x1, H1⟩ : ∃ b, Hid (b = tf (l[k].k = m[k].k)) := ⟨_, Lib.hid rfl⟩
        obtain ⟨x2, H2⟩ : ∃ b, Hid (b = tf (l[k].t = m[k].t)) := ⟨_, Lib.hid rfl⟩
        obtain ⟨x3, H3⟩ : ∃ b, Hid (b = tf (l[k].c = m[k].c)) := ⟨_, Lib.hid rfl⟩
        obtain ⟨x4, H4⟩ : ∃ b, Hid (b = tf (l[k].a = m[k].a)) := ⟨_, Lib.hid rfl⟩
        obtain ⟨x5, H5⟩ : ∃ b, Hid (b = tf (l[k].m = m[k].m)) := ⟨_, Lib.hid rfl⟩
        have HE : Hid ((x1 && x2 && x3 && x4 && x5) = true → l[k] = m[k]) := by
          show _ → _
          rw [H1.out, H2.out, H3.out, H4.out, H5.out]
          simp only [Bool.and_eq_true, tf_iff]
          exact fun ⟨⟨⟨⟨e1, e2⟩, e3⟩, e4⟩, e5⟩ => Tk.ext e1 e2 e4 e5 e3
        have HN : Hid ((x1 && x2 && x3 && x4 && x5) = false → tf (l = m) = false) := by
          show _ → _
          intro e
          refine same_no hlt hltm fun h => ?_
          rw [H1.out, H2.out, H3.out, H4.out, H5.out, h, tf_yes rfl, tf_yes rfl, tf_yes rfl, tf_yes rfl, tf_yes rfl] at e
          cases e
        rw [← H1.out] at h1
        rw [← H2.out] at h2
        rw [← H3.out] at h3
        rw [← H4.out] at HC
        rw [← H5.out] at HM
        clear ra rb ma mb H1 H2 H3 H4 H5
        generalize l[k].t = xt at *
        generalize l[k].k = xk at *
        generalize l[k].c = xc at *
        generalize l[k].a.length = xn at *
        generalize l[k].m.length = xm at *
        generalize m[k].t = yt at *
        generalize m[k].k = yk at *
        generalize m[k].c = yc at *
        generalize m[k].a.length = yn at *
        generalize m[k].m.length = ym at *
        go_wp2
        go_region_held3 (fun w' => (w'.cell? ⟨bl, offl + k * 5, none⟩ = some (.int .i64 xk) ∧ w'.cell? ⟨bl, offl + k * 5 + 1, none⟩ = some (.string xt) ∧ w'.cell? ⟨bl, offl + k * 5 + 1 + 1, none⟩ = some (.slice A1 xn c1) ∧ w'.cell? ⟨bl, offl + k * 5 + 1 + 1 + 1, none⟩ = some (.slice A2 xm c2) ∧ w'.cell? ⟨bl, offl + k * 5 + 1 + 1 + 1 + 1, none⟩ = some (.int .u8 xc)) ∧
            (w'.cell? ⟨bm, offm + k * 5, none⟩ = some (.int .i64 yk) ∧ w'.cell? ⟨bm, offm + k * 5 + 1, none⟩ = some (.string yt) ∧ w'.cell? ⟨bm, offm + k * 5 + 1 + 1, none⟩ = some (.slice A3 yn c3) ∧ w'.cell? ⟨bm, offm + k * 5 + 1 + 1 + 1, none⟩ = some (.slice A4 ym c4) ∧ w'.cell? ⟨bm, offm + k * 5 + 1 + 1 + 1 + 1, none⟩ = some (.int .u8 yc)))
          (first
            | exact ⟨⟨a0, a1, a2, a3, a4⟩, ⟨b0, b1, b2, b3, b4⟩⟩
            | (refine ⟨⟨?_, ?_, ?_, ?_, ?_⟩, ⟨?_, ?_, ?_, ?_, ?_⟩⟩ <;> go_simp))
          (fail)
        · clear a0 a1 a2 a3 a4 b0 b1 b2 b3 b4 hl hm
          try clear hHeld
          cases x1
          case false =>
            have g1 : xk ≠ yk := by simpa using h1
            clear HC HM HE
            have hf := Lib.hid (HN.out rfl)
            clear HN
            go_wp2
            go_ret
            exact ⟨ret_b hf.out.symm, hb.trans (Below.mono ((((Below.refl _ _).alloc (Nat.le_refl _) _).alloc (by simp) _).drew) hsz)⟩
          obtain rfl : xk = yk := by simpa using h1
          cases x2
          case false =>
            clear HC HM HE
            have hf := Lib.hid (HN.out rfl)
            clear HN
            go_wp2
            go_ret
            exact ⟨ret_b hf.out.symm, hb.trans (Below.mono ((((Below.refl _ _).alloc (Nat.le_refl _) _).alloc (by simp) _).drew) hsz)⟩
          cases x3
          case false =>
            have g3 : xc ≠ yc := by simpa using h3
            clear HC HM HE
            have hf := Lib.hid (HN.out rfl)
            clear HN
            go_wp2
            go_ret
            exact ⟨ret_b hf.out.symm, hb.trans (Below.mono ((((Below.refl _ _).alloc (Nat.le_refl _) _).alloc (by simp) _).drew) hsz)⟩
          obtain rfl : xc = yc := by simpa using h3
          go_wp2_with fail
          refine (HC.out _ (by exact ((((Below.refl _ _).alloc (Nat.le_refl _) _).alloc (by simp) _).drew))).mono ?_
          rintro e w3 ⟨rfl, q3, p3⟩
          have B3 := Lib.hid p3
          cases x4
          case false =>
            clear HC HM HE
            have hf := Lib.hid (HN.out rfl)
            clear HN q3 p3
            go_wp2
            go_ret
            exact ⟨ret_b hf.out.symm, hb.trans (B3.out.mono hsz)⟩
          have hs3 : wr.heap.size + 1 < w3.heap.size := by have := q3.size; simp at this; omega
          have hs4 : wr.heap.size < w3.heap.size := by omega
          have z1 : w3.cell? ⟨wr.heap.size, 3, none⟩ = some (.slice A2 xm c2) := (q3.cell (p := ⟨wr.heap.size, 3, none⟩) (by simp <;> omega)).trans (by go_simp)
          have z2 : w3.cell? ⟨wr.heap.size + 1, 3, none⟩ = some (.slice A4 ym c4) := (q3.cell (p := ⟨wr.heap.size + 1, 3, none⟩) (by simp <;> omega)).trans (by go_simp)
          clear q3 p3 HC
          go_wp2_with fail
          refine (HM.out _ B3.out).mono ?_
          rintro e w4 ⟨rfl, q4⟩
          have B4 := hb.trans (q4.mono hsz)
          clear q4 B3 z1 z2 hs3 hs4 HM
          cases x5
          case false =>
            have hf := Lib.hid (HN.out rfl)
            clear HN HE
            go_wp2
            go_ret
            exact ⟨ret_b hf.out.symm, B4⟩
          have hall' : Hid (∀ j (h1 : j < l.length) (h2 : j < m.length), j < k + 1 → l[j] = m[j]) := by
            show ∀ j, _
            intro j h1 h2 hj
            by_cases e : j = k
            · subst e; exact HE.out (by simp)
            · exact hall.out j h1 h2 (by omega)
          go_wp2
          go_roundg (l.length - (k + 1))
          case measure => have := HG.out; omega
          case rel => exact ⟨k + 1, by omega, rfl, by go_num, B4, hall'⟩
        · clear a0 a1 a2 a3 a4 b0 b1 b2 b3 b4 hl hm
          try clear hHeld
          cases x1
          case false =>
            have g1 : xk ≠ yk := by simpa using h1
            clear HC HM HE
            have hf := Lib.hid (HN.out rfl)
            clear HN
            go_wp2
            go_ret
            exact ⟨ret_b hf.out.symm, hb.trans (Below.mono ((((Below.refl _ _).alloc (Nat.le_refl _) _).alloc (by simp) _).drew) hsz)⟩
          obtain rfl : xk = yk := by simpa using h1
          cases x2
          case false =>
            clear HC HM HE
            have hf := Lib.hid (HN.out rfl)
            clear HN
            go_wp2
            go_ret
            exact ⟨ret_b hf.out.symm, hb.trans (Below.mono ((((Below.refl _ _).alloc (Nat.le_refl _) _).alloc (by simp) _).drew) hsz)⟩
          cases x3
          case false =>
            have g3 : xc ≠ yc := by simpa using h3
            clear HC HM HE
            have hf := Lib.hid (HN.out rfl)
            clear HN
            go_wp2
            go_ret
            exact ⟨ret_b hf.out.symm, hb.trans (Below.mono ((((Below.refl _ _).alloc (Nat.le_refl _) _).alloc (by simp) _).drew) hsz)⟩
          obtain rfl : xc = yc := by simpa using h3
          go_wp2_with fail
          refine (HC.out _ (by exact ((((Below.refl _ _).alloc (Nat.le_refl _) _).alloc (by simp) _).drew))).mono ?_
          rintro e w3 ⟨rfl, q3, p3⟩
          have B3 := Lib.hid p3
          cases x4
          case false =>
            clear HC HM HE
            have hf := Lib.hid (HN.out rfl)
            clear HN q3 p3
            go_wp2
            go_ret
            exact ⟨ret_b hf.out.symm, hb.trans (B3.out.mono hsz)⟩
          have hs3 : wr.heap.size + 1 < w3.heap.size := by have := q3.size; simp at this; omega
          have hs4 : wr.heap.size < w3.heap.size := by omega
          have z1 : w3.cell? ⟨wr.heap.size, 3, none⟩ = some (.slice A4 ym c4) := (q3.cell (p := ⟨wr.heap.size, 3, none⟩) (by simp <;> omega)).trans (by go_simp)
          have z2 : w3.cell? ⟨wr.heap.size + 1, 3, none⟩ = some (.slice A2 xm c2) := (q3.cell (p := ⟨wr.heap.size + 1, 3, none⟩) (by simp <;> omega)).trans (by go_simp)
          clear q3 p3 HC
          go_wp2_with fail
          refine (HM.out _ B3.out).mono ?_
          rintro e w4 ⟨rfl, q4⟩
          have B4 := hb.trans (q4.mono hsz)
          clear q4 B3 z1 z2 hs3 hs4 HM
          cases x5
          case false =>
            have hf := Lib.hid (HN.out rfl)
            clear HN HE
            go_wp2
            go_ret
            exact ⟨ret_b hf.out.symm, B4⟩
          have hall' : Hid (∀ j (h1 : j < l.length) (h2 : j < m.length), j < k + 1 → l[j] = m[j]) := by
            show ∀ j, _
            intro j h1 h2 hj
            by_cases e : j = k
            · subst e; exact HE.out (by simp)
            · exact hall.out j h1 h2 (by omega)
          go_wp2
          go_roundg (l.length - (k + 1))
          case measure => have := HG.out; omega
          case rel => exact ⟨k + 1, by omega, rfl, by go_num, B4, hall'⟩
      · have hf : Hid (tf (l = m) = true) := same_yes HL.out fun k h1 h2 => hall.out k h1 h2 (by omega)
        go_wp2
        go_ret
        exact ⟨ret_b hf.out.symm, hb⟩
  · have hf : Hid (tf (l = m) = false) := same_len hlen
    have hlen' : ((l.length : Int) != (m.length : Int)) = true := by rw [bne_iff_ne]; omega
    clear hlen
    go_enter Tryz.func50, Tryz.ntmps50
    go_wp2
    go_ret
    exact ⟨ret_b hf.out.symm, Below.refl _ _⟩
end Go.Proofs.YtjajcecenflejaaGreat
namespace Go.Proofs.YtjajcecenflejaaGreat
open Go.RowKit
theorem St.ext {a b : St} (h1 : a.k = b.k) (h2 : a.f = b.f) (h3 : a.t = b.t) (h4 : a.g = b.g) (h5 : a.e = b.e) (h6 : a.i = b.i) (h7 : a.mid = b.mid) (h8 : a.m = b.m) (h9 : a.n = b.n) (h10 : a.v = b.v) : a = b := by
  cases a; cases b; cases h1; cases h2; cases h3; cases h4; cases h5; cases h6; cases h7; cases h8; cases h9; cases h10; rfl
def stV (a : St) (vd va : Value) : Value := .agg #[.int .i64 a.k, .int .i64 a.f, .int .i64 a.t, .int .i64 a.g, .int .i64 a.e, .int .i64 a.i, vd, .string a.m.t, va, .string a.n, .string a.v]
def IsSt (w : World) (S : Nat → Prop) (v : Value) (a : St) : Prop := ∃ vd va, v = stV a vd va ∧ Ls w S vd a.mid ∧ Ls w S va a.m.a
theorem IsSt.keep {w w' : World} {S S' : Nat → Prop} {v : Value} {a : St} (h : IsSt w S v a) (hk : Kept2 S S' w w') : IsSt w' S' v a := by
  obtain ⟨vd, va, rfl, h1, h2⟩ := h
  exact ⟨vd, va, rfl, h1.keep hk, h2.keep hk⟩
set_option maxRecDepth 100000 in
set_option maxHeartbeats 4000000 in
theorem kStep_any (vx vy : Value) (x y : St) (S S' : Nat → Prop) (w : World) (hx : IsSt w S vx x) (hy : IsSt w S' vy y) :
    Calls Tryz.prog 27 #[vx, vy] w fun e w' => e = .returned (.bool (tf (x = y))) ∧ Below w.heap.size w w' := by
  obtain ⟨vd, va, rfl, hd, ha⟩ := hx
  obtain ⟨ud, ua, rfl, kd, ka⟩ := hy
  obtain ⟨A1, c1, rfl⟩ := ha.form
  obtain ⟨A2, c2, rfl⟩ := hd.form
  obtain ⟨A3, c3, rfl⟩ := ka.form
  obtain ⟨A4, c4, rfl⟩ := kd.form
  have HC : Hid (∀ w', Below w.heap.size w w' → Calls Tryz.prog 32 #[.slice A1 x.m.a.length c1, .slice A3 y.m.a.length c3] w' fun e w'' => e = .returned (.bool (tf (x.m.a = y.m.a))) ∧ Below w'.heap.size w' w'' ∧ Below w.heap.size w w'') := fun w' h =>
    (kAttrs_any _ _ _ _ S S' w' (ha.under h) (ka.under h)).mono fun e w'' ⟨he, hb⟩ => ⟨he, hb, h.trans (hb.mono h.size)⟩
  have HM : Hid (∀ w', Below w.heap.size w w' → Calls Tryz.prog 50 #[.slice A2 x.mid.length c2, .slice A4 y.mid.length c4] w' fun e w'' => e = .returned (.bool (tf (x.mid = y.mid))) ∧ Below w.heap.size w w'') := fun w' h =>
    (kTokens_any _ _ _ _ S S' w' (hd.under h) (kd.under h)).mono fun e w'' ⟨he, hb⟩ => ⟨he, h.trans (hb.mono h.size)⟩
  have h8 : (x.m.t.toList == y.m.t.toList) = tf (x.m.t = y.m.t) := eqS_tf _ _
  have h9 : (x.n.toList == y.n.toList) = tf (x.n = y.n) := eqS_tf _ _
  have h10 : (x.v.toList == y.v.toList) = tf (x.v = y.v) := eqS_tf _ _
  obtain ⟨b8, H8⟩ : ∃ b, Hid (b = tf (x.m.t = y.m.t)) := ⟨_, Lib.hid rfl⟩
  obtain ⟨b9, H9⟩ : ∃ b, Hid (b = tf (x.n = y.n)) := ⟨_, Lib.hid rfl⟩
  obtain ⟨b10, H10⟩ : ∃ b, Hid (b = tf (x.v = y.v)) := ⟨_, Lib.hid rfl⟩
  obtain ⟨b11, H11⟩ : ∃ b, Hid (b = tf (x.m.a = y.m.a)) := ⟨_, Lib.hid rfl⟩
  obtain ⟨b7, H7⟩ : ∃ b, Hid (b = tf (x.mid = y.mid)) := ⟨_, Lib.hid rfl⟩
  have HE : Hid (x.k = y.k → x.f = y.f → x.t = y.t → x.g = y.g → x.e = y.e → x.i = y.i → (b9 && b10 && b8 && b11 && b7) = tf (x = y)) := by
    show _ → _ → _ → _ → _ → _ → _
    intro e1 e2 e3 e4 e5 e6
    refine tf_of ?_
    rw [H7.out, H8.out, H9.out, H10.out, H11.out]
    simp only [Bool.and_eq_true, tf_iff]
    constructor
    · rintro ⟨⟨⟨⟨e9, e10⟩, e8⟩, e11⟩, e7⟩
      exact St.ext e1 e2 e3 e4 e5 e6 e7 (Mk.ext e8 e11) e9 e10
    · rintro rfl
      exact ⟨⟨⟨⟨rfl, rfl⟩, rfl⟩, rfl⟩, rfl⟩
  have HN : Hid (∀ P : Prop, (x = y → P) → ¬ P → tf (x = y) = false) := fun P h1 h2 => tf_no fun e => h2 (h1 e)
  have N1 : Hid (x.k ≠ y.k → tf (x = y) = false) := HN.out _ fun e => by rw [e]
  have N2 : Hid (x.f ≠ y.f → tf (x = y) = false) := HN.out _ fun e => by rw [e]
  have N3 : Hid (x.t ≠ y.t → tf (x = y) = false) := HN.out _ fun e => by rw [e]
  have N4 : Hid (x.g ≠ y.g → tf (x = y) = false) := HN.out _ fun e => by rw [e]
  have N5 : Hid (x.e ≠ y.e → tf (x = y) = false) := HN.out _ fun e => by rw [e]
  have N6 : Hid (x.i ≠ y.i → tf (x = y) = false) := HN.out _ fun e => by rw [e]
  rw [← H8.out] at h8
  rw [← H9.out] at h9
  rw [← H10.out] at h10
  rw [← H11.out] at HC
  rw [← H7.out] at HM
  generalize hr : tf (x = y) = r at *
  unfold stV
  clear hd ha kd ka H7 H8 H9 H10 H11 HN hr
  generalize x.k = xk at *
  generalize x.f = xf at *
  generalize x.t = xt at *
  generalize x.g = xg at *
  generalize x.e = xe at *
  generalize x.i = xi at *
  generalize x.m.t = xm at *
  generalize x.n = xn at *
  generalize x.v = xv at *
  generalize x.m.a.length = x1 at *
  generalize x.mid.length = x2 at *
  generalize y.k = yk at *
  generalize y.f = yf at *
  generalize y.t = yt at *
  generalize y.g = yg at *
  generalize y.e = ye at *
  generalize y.i = yi at *
  generalize y.m.t = ym at *
  generalize y.n = yn at *
  generalize y.v = yv at *
  generalize y.m.a.length = y1 at *
  generalize y.mid.length = y2 at *
  go_enter Tryz.func27, Tryz.ntmps27
  by_cases e1 : xk = yk
  case neg =>
    have hf := Lib.hid (N1.out e1)
    clear HC HM HE N1 N2 N3 N4 N5 N6
    go_wp2
    go_ret
    exact ⟨ret_b hf.out.symm, ((Below.refl _ _).alloc (Nat.le_refl _) _).alloc (by simp) _⟩
  by_cases e2 : xf = yf
  case neg =>
    have hf := Lib.hid (N2.out e2)
    clear HC HM HE N1 N2 N3 N4 N5 N6
    go_wp2
    go_ret
    exact ⟨ret_b hf.out.symm, ((Below.refl _ _).alloc (Nat.le_refl _) _).alloc (by simp) _⟩
  by_cases e3 : xt = yt
  case neg =>
    have hf := Lib.hid (N3.out e3)
    clear HC HM HE N1 N2 N3 N4 N5 N6
    go_wp2
    go_ret
    exact ⟨ret_b hf.out.symm, ((Below.refl _ _).alloc (Nat.le_refl _) _).alloc (by simp) _⟩
  by_cases e4 : xg = yg
  case neg =>
    have hf := Lib.hid (N4.out e4)
    clear HC HM HE N1 N2 N3 N4 N5 N6
    go_wp2
    go_ret
    exact ⟨ret_b hf.out.symm, ((Below.refl _ _).alloc (Nat.le_refl _) _).alloc (by simp) _⟩
  by_cases e5 : xe = ye
  case neg =>
    have hf := Lib.hid (N5.out e5)
    clear HC HM HE N1 N2 N3 N4 N5 N6
    go_wp2
    go_ret
    exact ⟨ret_b hf.out.symm, ((Below.refl _ _).alloc (Nat.le_refl _) _).alloc (by simp) _⟩
  by_cases e6 : xi = yi
  case neg =>
    have hf := Lib.hid (N6.out e6)
    clear HC HM HE N1 N2 N3 N4 N5 N6
    go_wp2
    go_ret
    exact ⟨ret_b hf.out.symm, ((Below.refl _ _).alloc (Nat.le_refl _) _).alloc (by simp) _⟩
  replace HE := Lib.hid (HE.out e1 e2 e3 e4 e5 e6)
  clear N1 N2 N3 N4 N5 N6
  subst e1 e2 e3 e4 e5 e6
  cases b9
  case false =>
    have hf : Hid (r = false) := HE.out.symm
    clear HC HM HE
    go_wp2
    go_ret
    exact ⟨ret_b hf.out.symm, ((Below.refl _ _).alloc (Nat.le_refl _) _).alloc (by simp) _⟩
  cases b10
  case false =>
    have hf : Hid (r = false) := HE.out.symm
    clear HC HM HE
    go_wp2
    go_ret
    exact ⟨ret_b hf.out.symm, ((Below.refl _ _).alloc (Nat.le_refl _) _).alloc (by simp) _⟩
  cases b8
  case false =>
    have hf : Hid (r = false) := HE.out.symm
    clear HC HM HE
    go_wp2
    go_ret
    exact ⟨ret_b hf.out.symm, ((Below.refl _ _).alloc (Nat.le_refl _) _).alloc (by simp) _⟩
  go_wp2_with fail
  refine (HC.out _ (by exact (((Below.refl _ _).alloc (Nat.le_refl _) _).alloc (by simp) _))).mono ?_
  rintro e w3 ⟨rfl, q3, p3⟩
  have B3 := Lib.hid p3
  cases b11
  case false =>
    have hf : Hid (r = false) := HE.out.symm
    clear HC HM HE q3 p3
    go_wp2
    go_ret
    exact ⟨ret_b hf.out.symm, B3.out⟩
  have hs3 : w.heap.size + 1 < w3.heap.size := by have := q3.size; simp at this; omega
  have hs4 : w.heap.size < w3.heap.size := by omega
  have z1 : w3.cell? ⟨w.heap.size, 6, none⟩ = some (.slice A2 x2 c2) := (q3.cell (p := ⟨w.heap.size, 6, none⟩) (by simp <;> omega)).trans (by go_simp)
  have z2 : w3.cell? ⟨w.heap.size + 1, 6, none⟩ = some (.slice A4 y2 c4) := (q3.cell (p := ⟨w.heap.size + 1, 6, none⟩) (by simp <;> omega)).trans (by go_simp)
  clear q3 p3 HC
  go_wp2_with fail
  refine (HM.out _ B3.out).mono ?_
  rintro e w4 ⟨rfl, q4⟩
  have hf : Hid (b7 = r) := HE.out
  clear B3 z1 z2 hs3 hs4 HM HE
  have hf2 := hf.out
  subst hf2
  cases b7
  · go_wp2
    go_ret
    exact ⟨rfl, q4⟩
  · go_wp2
    go_ret
    exact ⟨rfl, q4⟩
end Go.Proofs.YtjajcecenflejaaGreat
