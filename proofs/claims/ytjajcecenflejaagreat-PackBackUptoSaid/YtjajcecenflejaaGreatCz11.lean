/- YtjajcecenflejaaGreatCz11 -/
import Derived.Test.YtjajcecenflejaaGreatCz04
import Derived.Test.YtjajcecenflejaaGreatCz03
import Derived.Test.YtjajcecenflejaaGreatCz05
namespace Go.Proofs.YtjajcecenflejaaGreat
open Go.RowKit
def Rr (w : World) (B g q : Nat) (s : RS) (d : Int) : Prop :=
  Bk w g 110 #[.pointer (some ⟨q, 0, none⟩), .int .i64 (s.f : Int), .int .i64 d] ∧ (∃ b, Rdr w q b s.l s.n ∧ b ≠ g ∧ (b < B ∨ s.l = [])) ∧ g ≠ q ∧ g < B ∧ q < B ∧ B ≤ w.heap.size ∧ Hid (s.l.length ≤ 1000000000)
def gq (g q : Nat) (k : Nat) : Prop := k = g ∨ k = q
def RdT (B g q : Nat) (w : World) (s' : RS) (d : Int) (v : Value) (e : Ending) (w' : World) : Prop := e = .returned v ∧ Rr w' B g q s' d ∧ Fr (gq g q) (gq g q) w w'
section
variable {w w' : World} {B g q : Nat} {s : RS} {d : Int}
theorem Rr.own (h : Rr w B g q s d) : ∀ k, gq g q k → k < w.heap.size := by
  obtain ⟨_, _, _, h4, h5, h6, _⟩ := h
  rintro k (rfl | rfl) <;> omega
theorem Rr.lo (h : Rr w B g q s d) : ∀ k, gq g q k → k < B := by
  obtain ⟨_, _, _, h4, h5, h6, _⟩ := h
  rintro k (rfl | rfl) <;> assumption
theorem Rr.base (h : Rr w B g q s d) : B ≤ w.heap.size := h.2.2.2.2.2.1
theorem Rr.all (h : Rr w B g q s d) (hb : Below w.heap.size w w') : Rr w' B g q s d := by
  obtain ⟨h1, ⟨b, h2, h3⟩, h4, h5, h6, h7, h8⟩ := h
  exact ⟨h1.all hb, ⟨b, h2.all hb, h3⟩, h4, h5, h6, Nat.le_trans h7 hb.size, h8⟩
theorem Rr.alloc (h : Rr w B g q s d) (o : Obj) : Rr (w.alloc o) B g q s d := h.all ((Below.refl _ _).alloc (Nat.le_refl _) _)
theorem Rr.drew (h : Rr w B g q s d) : Rr w.drew B g q s d := h
theorem Fr.undrew {O O' : Nat → Prop} (h : Fr O O' w.drew w') : Fr O O' w w' := ⟨h.os, h.tape, h.output, h.size, h.block, h.own⟩
theorem Rr.grown (h : Rr w B g q s d) {row : Option Nat} (hg : w.grownBy w' row) (hr : ∀ k, row = some k → B ≤ k) : Rr w' B g q s d := by
  obtain ⟨h1, ⟨b, h2, h3, h3'⟩, h4, h5, h6, h7, h8⟩ := h
  have hne : ∀ k, k < B → some k ≠ row := fun k hk e => by have := hr k e.symm; omega
  refine ⟨h1.grown hg (hne _ h5), ⟨b, ?_, h3, h3'⟩, h4, h5, h6, Nat.le_trans h7 hg.size, h8⟩
  obtain ⟨v, k1, k2, k3⟩ := h2
  exact ⟨v, k1.grown hg (hne _ h6), k2.grown hg (h3'.imp (hne b) id), k3⟩
theorem Rr.went (h : Rr w B g q s d) {b : Nat} {l' : List UInt8} {n' : Nat} (hb : b ≠ g) (hB : b < B ∨ s.l = []) (hr : Rdr w' q b l' n') (hg : w.grownBy w' (some q)) (hl : l'.length ≤ s.l.length) : Rr w' B g q ⟨l', n', s.f⟩ d ∧ Fr (gq g q) (gq g q) w w' := by
  have ho := h.own
  obtain ⟨h1, _, h4, h5, h6, h7, h8⟩ := h
  refine ⟨⟨h1.grown hg (by simpa using h4), ⟨b, hr, hb, hB.imp id fun e => ?_⟩, h4, h5, h6, Nat.le_trans h7 hg.size, by have := h8.out; show l'.length ≤ _; omega⟩, (Fr.refl ho).grown hg fun k e => .inl (by simp at e; exact .inr e.symm)⟩
  rw [e] at hl
  exact List.eq_nil_of_length_eq_zero (by simpa using hl)
theorem Rr.fault (h : Rr w B g q s d) (e : Nat) : Rr (w.setCell ⟨g, 1, none⟩ (.int .i64 (e : Int))) B g q ⟨s.l, s.n, e⟩ d ∧ Fr (gq g q) (gq g q) w (w.setCell ⟨g, 1, none⟩ (.int .i64 (e : Int))) := by
  have ho := h.own
  obtain ⟨h1, ⟨b, h2, h3, h3'⟩, h4, h5, h6, h7, h8⟩ := h
  refine ⟨⟨by simpa using h1.set 1 (.int .i64 (e : Int)), ⟨b, h2.other (grownBy_set 1 _) (fun e => h4 e.symm) (.inl h3), h3, h3'⟩, h4, h5, h6, by simpa [World.setCell] using h7, h8⟩, (Fr.refl ho).set (p := ⟨g, 1, none⟩) (.inl (.inl rfl)) _⟩
theorem Rr.deep (h : Rr w B g q s d) (d' : Int) : Rr (w.setCell ⟨g, 2, none⟩ (.int .i64 d')) B g q s d' ∧ Fr (gq g q) (gq g q) w (w.setCell ⟨g, 2, none⟩ (.int .i64 d')) := by
  have ho := h.own
  obtain ⟨h1, ⟨b, h2, h3, h3'⟩, h4, h5, h6, h7, h8⟩ := h
  refine ⟨⟨by simpa using h1.set 2 (.int .i64 d'), ⟨b, h2.other (grownBy_set 2 _) (fun e => h4 e.symm) (.inl h3), h3, h3'⟩, h4, h5, h6, by simpa [World.setCell] using h7, h8⟩, (Fr.refl ho).set (p := ⟨g, 2, none⟩) (.inl (.inl rfl)) _⟩
end
theorem rdNum_len (l : List UInt8) (n : Nat) : (rdNum l n).2.1.length ≤ l.length := by
  unfold rdNum
  by_cases h : n ≠ 0
  · rw [if_pos h]; exact Nat.le_refl _
  · rw [if_neg h]
    by_cases h2 : (rdF 0 0 l).2.2 ≠ 0
    · rw [if_pos h2]; exact Nat.le_refl _
    · rw [if_neg h2]; simp
theorem rdPiece_len (l : List UInt8) (n : Nat) : (rdPiece l n).2.1.length ≤ l.length := by
  unfold rdPiece
  by_cases h : n ≠ 0
  · rw [if_pos h]; exact Nat.le_refl _
  · rw [if_neg h]
    by_cases h2 : (rdP l).2.2 ≠ 0
    · rw [if_pos h2]; exact Nat.le_refl _
    · rw [if_neg h2]; simp
theorem rdNum_max (l : List UInt8) (n : Nat) : U64 (rdNum l n).1 := by
  unfold rdNum
  by_cases h : n ≠ 0
  · rw [if_pos h]; show 0 < 18446744073709551616; decide
  · rw [if_neg h]
    by_cases h2 : (rdF 0 0 l).2.2 ≠ 0
    · rw [if_pos h2]; show 0 < 18446744073709551616; decide
    · rw [if_neg h2]
      exact (rdF_ok l 0 0 (by decide) (by decide) (by omega)).2.2
section
variable (w : World) (B g q : Nat) (s : RS) (d : Int) (h : Rr w B g q s d)
include h
theorem rpiece_any : Calls Tryz.prog 59 #[.pointer (some ⟨q, 0, none⟩)] w (RdT B g q w (rT s).2 d (.string (rT s).1)) :=
  h.2.1.elim fun b hb => (pce_any q b s.l s.n w hb.1 h.2.2.2.2.2.2.out).mono fun e w' hr => by
    obtain ⟨rfl, hr, hg⟩ := hr
    obtain ⟨h1, h2⟩ := h.went hb.2.1 hb.2.2 hr hg (rdPiece_len _ _)
    exact ⟨rfl, h1, h2⟩
set_option maxRecDepth 100000 in
set_option maxHeartbeats 400000 in
theorem well_any : Calls Tryz.prog 85 #[.pointer (some ⟨g, 0, none⟩)] w fun e w' => e = .returned (.bool (decide (s.n = 0 ∧ s.f = 0))) ∧ w = w' := by
  have c0 := h.1.cell 0
  have c1 := h.1.cell 1
  simp at c0 c1
  obtain ⟨b, hbr, _⟩ := h.2.1
  have HE := Lib.hid fun W => err_any q b s.l s.n W
  have HR := Lib.hid hbr
  obtain ⟨bb, hbb⟩ : ∃ x : Bool, Hid (x = decide (s.n = 0 ∧ s.f = 0)) := ⟨_, Lib.hid rfl⟩
  rw [← hbb.out]
  go_enter Tryz.func85, Tryz.ntmps85
  by_cases hf : s.f = 0
  · have e1 : ((s.f : Int) == 0) = true := by rw [hf]; rfl
    go_wp2_with fail
    refine (HE.out _ HR.out).mono ?_
    rintro e w' ⟨rfl, rfl⟩
    have HF := Lib.hid hf
    clear hf
    by_cases hn : s.n = 0
    · have e2 : ((s.n : Int) == 0) = true := by rw [hn]; rfl
      have HN := Lib.hid hn
      clear hn
      go_wp2
      go_ret
      exact ⟨by rw [hbb.out]; simp [HF.out, HN.out], rfl⟩
    · have e2 : ((s.n : Int) == 0) = false := by simpa using hn
      have HN := Lib.hid hn
      clear hn
      go_wp2
      go_ret
      exact ⟨by rw [hbb.out]; simp [HN.out], rfl⟩
  · have e1 : ((s.f : Int) == 0) = false := by simpa using hf
    have HF := Lib.hid hf
    clear hf
    go_wp2
    go_ret
    exact ⟨by rw [hbb.out]; simp [HF.out], rfl⟩
set_option maxRecDepth 100000 in
set_option maxHeartbeats 400000 in
theorem fail_any (e : Nat) : Calls Tryz.prog 58 #[.pointer (some ⟨g, 0, none⟩), .int .i64 (e : Int)] w (RdT B g q w (RS.fail e s) d (.tuple #[])) := by
  have c1 := h.1.cell 1
  simp at c1
  have z1 := h.1.frozen 1
  have HW := Lib.hid (well_any w B g q s d h)
  have HF := Lib.hid (h.fault e)
  have HO := Lib.hid h
  by_cases hw : s.n = 0 ∧ s.f = 0
  · have hw1 : Hid (decide (s.n = 0 ∧ s.f = 0) = true) := by show _ = _; simpa using hw
    have hs : Hid (RS.fail e s = ⟨s.l, s.n, e⟩) := by show _ = _; unfold RS.fail; rw [if_pos hw]
    clear hw h
    go_enter Tryz.func58, Tryz.ntmps58
    go_wp2_with fail
    refine HW.out.mono ?_
    rintro x w' ⟨rfl, rfl⟩
    rw [hw1.out]
    go_wp2
    go_end0
    exact ⟨rfl, by rw [hs.out]; exact HF.out.1, HF.out.2⟩
  · have hw1 : Hid (decide (s.n = 0 ∧ s.f = 0) = false) := by show _ = _; simpa using hw
    have hs : Hid (RS.fail e s = s) := by show _ = _; unfold RS.fail; rw [if_neg hw]
    clear hw h
    go_enter Tryz.func58, Tryz.ntmps58
    go_wp2_with fail
    refine HW.out.mono ?_
    rintro x w' ⟨rfl, rfl⟩
    rw [hw1.out]
    go_wp2
    go_end0
    exact ⟨rfl, by rw [hs.out]; exact HO.out, Fr.refl HO.out.own⟩
set_option maxRecDepth 100000 in
set_option maxHeartbeats 400000 in
theorem first_e : Calls Tryz.prog 48 #[.pointer (some ⟨g, 0, none⟩)] w fun e w' => e = .returned (.int .i64 (s.first : Int)) ∧ w = w' := by
  have c0 := h.1.cell 0
  have c1 := h.1.cell 1
  simp at c0 c1
  obtain ⟨b, hbr, _⟩ := h.2.1
  have HE := Lib.hid (end_any q b s.l s.n w hbr)
  obtain ⟨x, hx⟩ : ∃ x : Int, Hid (x = if s.n ≠ 0 then (s.n : Int) else if 0 < s.l.length then 4 else 0) := ⟨_, Lib.hid rfl⟩
  rw [← hx.out] at HE
  obtain ⟨y, hy⟩ : ∃ y : Int, Hid (y = (s.first : Int)) := ⟨_, Lib.hid rfl⟩
  rw [← hy.out]
  go_enter Tryz.func48, Tryz.ntmps48
  by_cases hf : s.f = 0
  · have e1 : ((s.f : Int) != 0) = false := by rw [hf]; rfl
    have HF := Lib.hid hf
    clear hf
    go_wp2_with fail
    refine HE.out.mono ?_
    rintro e w' ⟨rfl, rfl⟩
    go_wp2
    go_ret
    refine ⟨ret_int ?_, rfl⟩
    rw [hx.out, hy.out]
    unfold RS.first
    have h0 := HF.out
    by_cases h1 : s.n = 0
    · by_cases h2 : 0 < s.l.length <;> simp [h0, h1, h2]
    · simp [h0, h1]
  · have e1 : ((s.f : Int) != 0) = true := by simpa using hf
    have HF := Lib.hid hf
    clear hf
    go_wp2
    go_ret
    refine ⟨ret_int ?_, rfl⟩
    rw [hy.out]
    unfold RS.first
    rw [if_pos HF.out]
set_option maxRecDepth 100000 in
set_option maxHeartbeats 400000 in
theorem upTo_any (most e : Nat) (hm : most < 2 ^ 62) : Calls Tryz.prog 84 #[.pointer (some ⟨g, 0, none⟩), .int .u64 (most : Int), .int .i64 (e : Int)] w (RdT B g q w (rU most e s).2 d (.int .i64 ((rU most e s).1 : Int))) := by
  have c0 := h.1.cell 0
  simp at c0
  obtain ⟨b, hbr, hbg, hbB⟩ := h.2.1
  have HC := Lib.hid (num_any q b s.l s.n w hbr h.2.2.2.2.2.2.out)
  have hx := rdNum_max s.l s.n
  have hlen := Lib.hid (rdNum_len s.l s.n)
  have hU : rU most e s = if most < (rdNum s.l s.n).1 then (0, RS.fail e ⟨(rdNum s.l s.n).2.1, (rdNum s.l s.n).2.2, s.f⟩) else ((rdNum s.l s.n).1, ⟨(rdNum s.l s.n).2.1, (rdNum s.l s.n).2.2, s.f⟩) := rfl
  obtain ⟨⟨x, l', n'⟩, hr⟩ : ∃ r, r = rdNum s.l s.n := ⟨_, rfl⟩
  rw [← hr] at HC hx hlen hU
  obtain ⟨R, hR⟩ : ∃ R, R = rU most e s := ⟨_, rfl⟩
  rw [← hR] at hU ⊢
  simp only at hU hx
  unfold U64 at hx
  clear hR hr
  have HU := Lib.hid hU
  have HH := Lib.hid h
  clear hU h
  go_enter Tryz.func84, Tryz.ntmps84
  go_wp2_with fail
  refine HC.out.mono ?_
  rintro e1 w1 ⟨rfl, hr1, hg1⟩
  obtain ⟨h1, f1⟩ := HH.out.went hbg hbB hr1 hg1 hlen.out
  have H1 := Lib.hid h1
  have F1 := Lib.hid f1
  clear h1 f1 hr1 hg1
  simp only
  by_cases hb : most < x
  · have hb' : (most : Int) < (x : Int) := by omega
    have hres : Hid (R = (0, RS.fail e ⟨l', n', s.f⟩)) := by show _ = _; rw [HU.out, if_pos hb]
    go_wp2_with fail
    refine (fail_any w1 B g q _ d H1.out e).mono ?_
    rintro e2 w2 ⟨rfl, h2, f2⟩
    go_wp2
    go_ret
    exact ⟨by rw [hres.out]; rfl, by rw [hres.out]; exact h2, F1.out.trans f2⟩
  · have hb' : ¬ (most : Int) < (x : Int) := by omega
    have hres : Hid (R = (x, ⟨l', n', s.f⟩)) := by show _ = _; rw [HU.out, if_neg hb]
    have hw : IntKind.i64.wrap (x : Int) = (x : Int) := IntWalk.i64_in _ ⟨by omega, by omega⟩
    go_wp2
    go_ret
    exact ⟨by rw [hres.out]; rfl, by rw [hres.out]; exact H1.out, F1.out⟩
set_option maxRecDepth 100000 in
set_option maxHeartbeats 400000 in
theorem number_r : Calls Tryz.prog 80 #[.pointer (some ⟨g, 0, none⟩)] w (RdT B g q w (rI s).2 d (.int .i64 (rI s).1)) := by
  go_enter Tryz.func80, Tryz.ntmps80
  go_wp2_with fail
  refine (upTo_any w B g q s d h 1048576 3 (by decide)).mono ?_
  rintro e1 w1 ⟨rfl, h1, f1⟩
  have H1 := Lib.hid h1
  clear h1
  go_wp2
  go_ret
  exact ⟨rfl, H1.out, f1⟩
set_option maxRecDepth 100000 in
set_option maxHeartbeats 400000 in
theorem truth_any : Calls Tryz.prog 94 #[.pointer (some ⟨g, 0, none⟩)] w (RdT B g q w (rB s).2 d (.bool (rB s).1)) := by
  have hB : Hid ((rB s).1 = (((rU 1 4 s).1 : Int) == 1)) := by
    show _ = _
    unfold rB
    by_cases h1 : (rU 1 4 s).1 = 1
    · simp [h1]
    · have h2 : ¬ ((rU 1 4 s).1 : Int) = 1 := by omega
      rw [beq_eq_false_iff_ne.2 h1, beq_eq_false_iff_ne.2 h2]
  go_enter Tryz.func94, Tryz.ntmps94
  go_wp2_with fail
  refine (upTo_any w B g q s d h 1 4 (by decide)).mono ?_
  rintro e1 w1 ⟨rfl, h1, f1⟩
  have H1 := Lib.hid h1
  clear h1
  go_wp2
  go_ret
  exact ⟨by rw [hB.out]; rfl, H1.out, f1⟩
set_option maxRecDepth 100000 in
set_option maxHeartbeats 400000 in
theorem char_any : Calls Tryz.prog 100 #[.pointer (some ⟨g, 0, none⟩)] w (RdT B g q w (rCh s).2 d (.int .u8 (rCh s).1)) := by
  have hlt : ((rU 255 4 s).1 : Int) < 256 := by
    unfold rU
    by_cases h1 : 255 < (rdNum s.l s.n).1
    · rw [if_pos h1]; simp
    · rw [if_neg h1]; simp only; omega
  have hw : IntKind.u8.wrap ((rU 255 4 s).1 : Int) = ((rU 255 4 s).1 : Int) := by
    show _ % 256 = _
    omega
  go_enter Tryz.func100, Tryz.ntmps100
  go_wp2_with fail
  refine (upTo_any w B g q s d h 255 4 (by decide)).mono ?_
  rintro e1 w1 ⟨rfl, h1, f1⟩
  have H1 := Lib.hid h1
  clear h1
  go_wp2
  go_ret
  exact ⟨rfl, H1.out, f1⟩
set_option maxRecDepth 100000 in
set_option maxHeartbeats 400000 in
theorem kind_any (last : Nat) (hm : last < 2 ^ 62) : Calls Tryz.prog 79 #[.pointer (some ⟨g, 0, none⟩), .int .u64 (last : Int)] w (RdT B g q w (rK last s).2 d (.int .i64 ((rK last s).1 : Int))) := by
  have HC := Lib.hid (upTo_any w B g q s d h last 4 hm)
  have hU : rK last s = ((rU last 4 s).1, if (rU last 4 s).1 = 0 then RS.fail 4 (rU last 4 s).2 else (rU last 4 s).2) := rfl
  obtain ⟨⟨x, s1⟩, hr⟩ : ∃ r, r = rU last 4 s := ⟨_, rfl⟩
  rw [← hr] at HC hU
  obtain ⟨R, hR⟩ : ∃ R, R = rK last s := ⟨_, rfl⟩
  rw [← hR] at hU ⊢
  simp only at hU
  have HU := Lib.hid hU
  clear hU hR hr h
  go_enter Tryz.func79, Tryz.ntmps79
  go_wp2_with fail
  refine HC.out.mono ?_
  rintro e1 w1 ⟨rfl, h1, f1⟩
  have H1 := Lib.hid h1
  have F1 := Lib.hid f1
  clear h1 f1
  simp only
  by_cases hx : x = 0
  · have hb : ((x : Int) == 0) = true := by rw [hx]; rfl
    have hres : Hid (R = (x, RS.fail 4 s1)) := by show _ = _; rw [HU.out, if_pos hx]
    have HX := Lib.hid hx
    clear hx
    go_wp2_with fail
    refine (fail_any w1 B g q _ d H1.out 4).mono ?_
    rintro e2 w2 ⟨rfl, h2, f2⟩
    have H2 := Lib.hid h2
    clear h2
    go_wp2
    go_ret
    exact ⟨by rw [hres.out]; rfl, by rw [hres.out]; exact H2.out, F1.out.trans f2⟩
  · have hb : ((x : Int) == 0) = false := by simpa using hx
    have hres : Hid (R = (x, s1)) := by show _ = _; rw [HU.out, if_neg hx]
    have HX := Lib.hid hx
    clear hx
    go_wp2
    go_ret
    exact ⟨by rw [hres.out]; rfl, by rw [hres.out]; exact H1.out, F1.out⟩
end
end Go.Proofs.YtjajcecenflejaaGreat
