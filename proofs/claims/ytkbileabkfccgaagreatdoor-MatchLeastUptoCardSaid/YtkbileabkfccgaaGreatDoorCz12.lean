/- MaM, MaN, merged. -/
import Derived.Test.YtkbileabkfccgaaGreatDoorCz11

/- match: add, write. -/
namespace Go.Proofs.YtkbileabkfccgaaGreatDoor
open Go.RowKit

/-- a many that can't be -/
def oddE (e : Ex) : Bool := decide (e.k = 4) && !(decide (e.l.length = 1) && decide (0 ≤ e.a) && (decide (e.b = -1) || decide (e.a ≤ e.b)) && decide (e.a ≤ 1000) && decide (e.b ≤ 1000))
def Wf (e : Ex) : Prop := e.anyE oddE = false
theorem Wf.kid {e x : Ex} (h : Wf e) (hx : x ∈ e.l) : Wf x := by
  unfold Wf at *
  rw [anyE_eq, Bool.or_eq_false_iff, List.any_eq_false] at h
  simpa using h.2 x hx
theorem Wf.many {n : ByteArray} {a b : Int} {l : List Ex} (h : Wf (.mk 4 n a b l)) : (∃ x, l = [x]) ∧ 0 ≤ a ∧ (b = -1 ∨ a ≤ b) ∧ a ≤ 1000 ∧ b ≤ 1000 := by
  unfold Wf at h
  rw [anyE_eq, Bool.or_eq_false_iff] at h
  have h1 : (decide ((4 : Int) = 4) && !(decide (l.length = 1) && decide (0 ≤ a) && (decide (b = -1) || decide (a ≤ b)) && decide (a ≤ 1000) && decide (b ≤ 1000))) = false := h.1
  simp only [decide_true, Bool.true_and, Bool.not_eq_false', Bool.and_eq_true, Bool.or_eq_true, decide_eq_true_iff] at h1
  obtain ⟨⟨⟨⟨h1, h2⟩, h3⟩, h4⟩, h5⟩ := h1
  exact ⟨List.length_eq_one_iff.1 h1, h2, h3, h4, h5⟩

/-- what add does at its result, behind the part that is handed back: its own box and its result's block are not the frame's -/
theorem add_end {w0 w1 : World} {S S1 : Nat → Prop} {g ends : Nat} {r : Fm × Pa} {fn : Func} {a : Act} (hfn : fn.results = #[.cell 4 100]) (h2 : a.tmps.getD 4 undef = .pointer (some ⟨w0.heap.size + 1, 0, none⟩)) (hd : a.defers = [])
    (hin : S1 (w0.heap.size + 1)) (hss : ∀ k, S k → S1 k) (hsn : ¬ S (w0.heap.size + 1)) (hk : Kp S w0 w1) (hfr : Fr w1 S1 g r.1 ends) (hb : Bk w1 (w0.heap.size + 1) 100 (paC ⟨0, 0, false⟩)) :
    bodyPost Tryz.prog fn (PaR w0 S g ends r) .ret a (((w1.setCell ⟨w0.heap.size + 1, 0, none⟩ (.int .u64 (r.2.f : Int))).setCell ⟨w0.heap.size + 1, 1, none⟩ (.int .u64 (r.2.l : Int))).setCell ⟨w0.heap.size + 1, 2, none⟩ (.bool r.2.e)) := by
  refine pa_ret 4 (w0.heap.size + 1) hfn h2 hd ?_ ?_ ?_
  · exact Bk.set3 (show Bk w1 (w0.heap.size + 1) 100 #[_, _, _] from hb) _ _ _
  · obtain ⟨vn, vb, hv⟩ := hfr
    exact ⟨vn, vb, (hv.far3 _ _ _ (fun e => hv.b (e ▸ hin)) (fun e => hv.s1 _ e hin) (fun e => hv.s2 _ e hin)).smono hss⟩
  · exact hk.set3 hsn _ _ _

set_option maxRecDepth 100000 in
set_option maxHeartbeats 6400000 in
theorem add_any (e : Ex) : Wf e → AddOk e := by
  induction e using Ex.ind with
  | h k n a b l ih =>
    intro hwf g ends f s B S w hs hBS hB0 h hS hf hsz hT
    obtain ⟨A, cap, hform⟩ := hs.form
    change s = .slice A l.length cap at hform
    subst hform
    obtain ⟨w0, rfl⟩ : ∃ w0 : World, w0 = w := ⟨_, rfl⟩
    have hB : B ≤ w0.heap.size := by
      apply Nat.le_of_not_lt; intro hlt; have := hS _ (hBS _ hlt); omega
    change Kb w0 B (.slice A l.length cap) l at hs
    obtain ⟨W, HW⟩ : ∃ W : World, Hid (W = (w0.alloc (.cells #[.int .i64 k, .string n, .int .i64 a, .int .i64 b, .slice A l.length cap] 24)).alloc (.cells #[.int .u64 0, .int .u64 0, .bool false] 100)) := ⟨_, rfl⟩
    have HBB : Hid (Below w0.heap.size w0 W) := by show Below _ w0 W; rw [HW.out]; exact box2 _ _ _
    obtain ⟨S1, HS1⟩ : ∃ S1 : Nat → Prop, Hid (∀ k, S1 k ↔ (S k ∨ (w0.heap.size ≤ k ∧ k < w0.heap.size + 2))) := ⟨_, fun k => Iff.rfl⟩
    have hz : W.heap.size = w0.heap.size + 2 := by rw [HW.out]; simp
    have HFR : Hid (Fr W S1 g f ends) := by
      obtain ⟨vn, vb, hv⟩ := h
      exact ⟨vn, vb, ((hv.also w0.heap.size (w0.heap.size + 2) (Nat.le_refl _)).all HBB.out).smono fun k hk => (HS1.out k).1 hk⟩
    have HIN : Hid (In S1 W) := by
      intro k hk
      rcases (HS1.out k).1 hk with h1 | h1
      · have := hS k h1; omega
      · omega
    have HKB : Hid (Kb W B (.slice A l.length cap) l) := Kb.below hs (HBB.out.mono hB)
    have HT1 : Hid (Tab W) := hT.all HBB.out
    have hb1 : Bk W (w0.heap.size + 1) 100 (paC ⟨0, 0, false⟩) := by
      have := Bk.new (w0.alloc (.cells #[.int .i64 k, .string n, .int .i64 a, .int .i64 b, .slice A l.length cap] 24)) 100 #[.int .u64 0, .int .u64 0, .bool false]
      rw [World.size_alloc, ← HW.out] at this; exact this
    have hb0 : Bk W w0.heap.size 24 #[.int .i64 k, .string n, .int .i64 a, .int .i64 b, .slice A l.length cap] := by rw [HW.out]; exact (Bk.new _ _ _).alloc _
    have c0 := hb0.cell 0
    have HSN : Hid (¬ S (w0.heap.size + 1)) := fun h => by have := hS _ h; omega
    have HSS : Hid (∀ k, S k → S1 k) := fun k hk => (HS1.out k).2 (.inl hk)
    have HI1 : Hid (S1 (w0.heap.size + 1)) := (HS1.out _).2 (.inr (by omega))
    have HK0 : Hid (Kp S w0 W) := Kp.of HBB.out hS
    have HPB := Lib.hid hb1
    have HC5 : Hid (W.cell? ⟨w0.heap.size, 0, none⟩ = some (.int .i64 k) ∧ W.cell? ⟨w0.heap.size, 1, none⟩ = some (.string n) ∧ W.cell? ⟨w0.heap.size, 2, none⟩ = some (.int .i64 a) ∧ W.cell? ⟨w0.heap.size, 3, none⟩ = some (.int .i64 b) ∧ W.cell? ⟨w0.heap.size, 4, none⟩ = some (.slice A l.length cap)) :=
      ⟨hb0.cell 0, hb0.cell 1, hb0.cell 2, hb0.cell 3, hb0.cell 4⟩
    have HBS1 : Hid (∀ k, k < B → S1 k) := fun k hk => (HS1.out k).2 (.inl (hBS k hk))
    have HIH := Lib.hid ih
    have HWF := Lib.hid hwf
    have HSZ := Lib.hid hsz
    clear h hS hs hBS ih hwf hsz hb0 hb1 c0
    obtain ⟨r, HR⟩ : ∃ r, Hid (r = addM (.mk k n a b l) f) := ⟨_, rfl⟩
    rw [← HR.out]
    show Calls Tryz.prog 62 #[.pointer (some ⟨g, 0, none⟩), .agg #[.int .i64 k, .string n, .int .i64 a, .int .i64 b, .slice A l.length cap]] w0 _
    have hlt1 : w0.heap.size < W.heap.size := by omega
    by_cases h2 : k = 2
    · subst h2
      have hr : Hid (r = rowM l ⟨0, 0, true⟩ f) := by show _ = _; rw [HR.out, addM, if_pos rfl]
      have hszl : f.ns.length + posL l ≤ 25 := by have := HSZ.out; unfold posE at this; simpa using this
      have C := row_any' l (fun e he => HIH.out e he (HWF.out.kid he)) g ends f _ B S1 W HKB.out HBS1.out hB0 HFR.out HIN.out hf hszl HT1.out
      rw [← hr.out] at C
      obtain ⟨⟨⟨xs, xb⟩, ⟨jf, jl, je⟩⟩, HJ⟩ : ∃ y : Fm × Pa, Hid (y = r) := ⟨_, rfl⟩
      obtain rfl := HJ.out
      have HC : Hid (Calls Tryz.prog 106 #[.pointer (some ⟨g, 0, none⟩), .slice A l.length cap] W fun y w2 => y = .returned (.agg #[.int .u64 (jf : Int), .int .u64 (jl : Int), .bool je]) ∧ Fr w2 S1 g ⟨xs, xb⟩ ends ∧ Kp S1 W w2) := C
      clear C
      have hlt3 : w0.heap.size + 1 < W.heap.size := by omega
      go_enter Tryz.func62, Tryz.ntmps62
      go_wp2_with fail
      rw [← HW.out]
      refine HC.out.mono ?_
      rintro x9 w1 ⟨rfl, hfr1, hk1⟩
      have HPB1 := Lib.hid (HPB.out.kp hk1 HI1.out)
      obtain ⟨⟨y0, y1, y2⟩, z0, z1, z2⟩ := Bk.threeP HPB1.out
      have HKP : Hid (Kp S w0 w1) := HK0.out.trans (hk1.mono HSS.out)
      have HF1 := Lib.hid hfr1
      have hs1 := hk1.size
      have hlt2 : w0.heap.size + 1 < w1.heap.size := by omega
      clear hk1 hfr1 HC
      go_wp2_with fail
      exact add_end (r := (⟨xs, xb⟩, ⟨jf, jl, je⟩)) Tryz.results62 rfl rfl HI1.out HSS.out HSN.out HKP.out HF1.out HPB1.out
    by_cases h3 : k = 3
    · subst h3
      have hr : Hid (r = choM l ⟨0, 0, false⟩ f) := by show _ = _; rw [HR.out, addM, if_neg (by decide), if_pos rfl]
      have hszl : f.ns.length + posL l ≤ 25 := by have := HSZ.out; unfold posE at this; simpa using this
      have C := choice_any l (fun e he => HIH.out e he (HWF.out.kid he)) g ends f _ B S1 W HKB.out HBS1.out hB0 HFR.out HIN.out hf hszl HT1.out
      rw [← hr.out] at C
      obtain ⟨⟨⟨xs, xb⟩, ⟨jf, jl, je⟩⟩, HJ⟩ : ∃ y : Fm × Pa, Hid (y = r) := ⟨_, rfl⟩
      obtain rfl := HJ.out
      have HC : Hid (Calls Tryz.prog 107 #[.pointer (some ⟨g, 0, none⟩), .slice A l.length cap] W fun y w2 => y = .returned (.agg #[.int .u64 (jf : Int), .int .u64 (jl : Int), .bool je]) ∧ Fr w2 S1 g ⟨xs, xb⟩ ends ∧ Kp S1 W w2) := C
      clear C
      have hlt3 : w0.heap.size + 1 < W.heap.size := by omega
      go_enter Tryz.func62, Tryz.ntmps62
      go_wp2_with fail
      rw [← HW.out]
      refine HC.out.mono ?_
      rintro x9 w1 ⟨rfl, hfr1, hk1⟩
      have HPB1 := Lib.hid (HPB.out.kp hk1 HI1.out)
      obtain ⟨⟨y0, y1, y2⟩, z0, z1, z2⟩ := Bk.threeP HPB1.out
      have HKP : Hid (Kp S w0 w1) := HK0.out.trans (hk1.mono HSS.out)
      have HF1 := Lib.hid hfr1
      have hs1 := hk1.size
      have hlt2 : w0.heap.size + 1 < w1.heap.size := by omega
      clear hk1 hfr1 HC
      go_wp2_with fail
      exact add_end (r := (⟨xs, xb⟩, ⟨jf, jl, je⟩)) Tryz.results62 rfl rfl HI1.out HSS.out HSN.out HKP.out HF1.out HPB1.out
    by_cases h4 : k = 4
    · subst h4
      obtain ⟨⟨x, hl⟩, q1, q2, q3, q4⟩ := HWF.out.many
      subst hl
      have hr : Hid (r = manM [x] a b f) := by show _ = _; rw [HR.out, addM, if_neg (by decide), if_neg (by decide), if_pos rfl]
      have hszl : f.ns.length + (if b = -1 then a.toNat + 1 else a.toNat + (b - a).toNat) * posE x ≤ 25 := by have := HSZ.out; unfold posE at this; simpa using this
      obtain ⟨bb, off, sx, rfl, hbB, hcap, hks, hc0, hc1, hc2, hc3, hc4⟩ := Kd.at HKB.out (show 0 < [x].length by simp)
      simp only [List.getElem_cons_zero, Nat.zero_mul, Nat.add_zero] at hks hc0 hc1 hc2 hc3 hc4
      obtain ⟨A3, c3, rfl⟩ := hks.form
      have HFRd : Hid (Fr W.drew S1 g f ends) := HFR.out.all (beN (Below.refl _ _) 1)
      have HINd : Hid (In S1 W.drew) := HIN.out
      have C := many_any x (HIH.out x (by simp) (HWF.out.kid (by simp [Ex.l]))) a b q1 q2 q3 q4 g ends f _ B S1 W.drew (Kd.drew hks) HBS1.out hB0 HFRd.out HINd.out hf hszl (HT1.out.all (beN (Below.refl _ _) 1))
      rw [← hr.out] at C
      obtain ⟨⟨⟨xs, xb⟩, ⟨jf, jl, je⟩⟩, HJ⟩ : ∃ y : Fm × Pa, Hid (y = r) := ⟨_, rfl⟩
      obtain rfl := HJ.out
      have HC : Hid (Calls Tryz.prog 108 #[.pointer (some ⟨g, 0, none⟩), .agg #[.int .i64 x.k, .string x.n, .int .i64 x.a, .int .i64 x.b, .slice A3 x.l.length c3], .int .i64 a, .int .i64 b] W.drew fun y w2 => y = .returned (.agg #[.int .u64 (jf : Int), .int .u64 (jl : Int), .bool je]) ∧ Fr w2 S1 g ⟨xs, xb⟩ ends ∧ Kp S1 W.drew w2) := C
      clear C
      have hlt3 : w0.heap.size + 1 < W.heap.size := by omega
      obtain ⟨e0, e1, e2, e3, e4⟩ := HC5.out
      have hbW : bb < W.heap.size := by omega
      have hPBd : Hid (Bk W.drew (w0.heap.size + 1) 100 (paC ⟨0, 0, false⟩)) := HPB.out.drew
      have HKd : Hid (Kp S w0 W.drew) := HK0.out.drewN 1
      simp only [List.length_cons, List.length_nil, Nat.zero_add] at e4 hcap
      have HW2 : Hid (W = (w0.alloc (.cells #[.int .i64 4, .string n, .int .i64 a, .int .i64 b, .slice (some ⟨bb, off, none⟩) 1 cap] 24)).alloc (.cells #[.int .u64 0, .int .u64 0, .bool false] 100)) := HW.out
      go_enter Tryz.func62, Tryz.ntmps62
      go_wp2_with fail
      rw [← HW2.out]
      go_region_with (go_at_call 108; refine HC.out.mono ?_; rintro x9 w1 ⟨rfl, hfr1, hk1⟩; obtain ⟨⟨y0, y1, y2⟩, z0, z1, z2⟩ := Bk.threeP (hPBd.out.kp hk1 HI1.out); have Hfr1 := Lib.hid hfr1; have Hk1 := Lib.hid hk1; clear hfr1 hk1)
      all_goals
        have HPB1 := Lib.hid (hPBd.out.kp Hk1.out HI1.out)
        have HKP : Hid (Kp S w0 w1) := HKd.out.trans (Hk1.out.mono HSS.out)
        have hs1 : W.heap.size ≤ w1.heap.size := Hk1.out.size
        have hlt2 : w0.heap.size + 1 < w1.heap.size := by omega
        go_wp2_with fail
        exact add_end (r := (⟨xs, xb⟩, ⟨jf, jl, je⟩)) Tryz.results62 rfl rfl HI1.out HSS.out HSN.out HKP.out Hfr1.out HPB1.out
    · have hr : Hid (r = spotM f n) := by show _ = _; rw [HR.out, addM, if_neg h2, if_neg h3, if_neg h4]
      have hszl : f.ns.length < 25 := by have := HSZ.out; unfold posE at this; rw [if_neg (by omega), if_neg h4] at this; omega
      have C := spot_any g f ends n S1 W HFR.out hszl HIN.out hf.1
      rw [← hr.out] at C
      have hk2 : (k == 2) = false := by simpa using h2
      have hk3 : (k == 3) = false := by simpa using h3
      have hk4 : (k == 4) = false := by simpa using h4
      obtain ⟨⟨⟨xs, xb⟩, ⟨jf, jl, je⟩⟩, HJ⟩ : ∃ y : Fm × Pa, Hid (y = r) := ⟨_, rfl⟩
      obtain rfl := HJ.out
      have HC : Hid (Calls Tryz.prog 60 #[.pointer (some ⟨g, 0, none⟩), .string n] W fun y w2 => y = .returned (.agg #[.int .u64 (jf : Int), .int .u64 (jl : Int), .bool je]) ∧ Fr w2 S1 g ⟨xs, xb⟩ ends ∧ Kp S1 W w2) := C
      clear C
      have hlt3 : w0.heap.size + 1 < W.heap.size := by omega
      go_enter Tryz.func62, Tryz.ntmps62
      go_wp2_with fail
      rw [← HW.out]
      refine HC.out.mono ?_
      rintro x9 w1 ⟨rfl, hfr1, hk1⟩
      have HPB1 := Lib.hid (HPB.out.kp hk1 HI1.out)
      obtain ⟨⟨y0, y1, y2⟩, z0, z1, z2⟩ := Bk.threeP HPB1.out
      have HKP : Hid (Kp S w0 w1) := HK0.out.trans (hk1.mono HSS.out)
      have HF1 := Lib.hid hfr1
      have hs1 := hk1.size
      have hlt2 : w0.heap.size + 1 < w1.heap.size := by omega
      clear hk1 hfr1 HC
      go_wp2_with fail
      exact add_end (r := (⟨xs, xb⟩, ⟨jf, jl, je⟩)) Tryz.results62 rfl rfl HI1.out HSS.out HSN.out HKP.out HF1.out HPB1.out
end Go.Proofs.YtkbileabkfccgaaGreatDoor

/- match: write: an expression's frame. -/
namespace Go.Proofs.YtkbileabkfccgaaGreatDoor
open Go.RowKit

theorem FrV.ends {w : World} {S : Nat → Prop} {g : Nat} {vn vb : Value} {f : Fm} {e : Nat} (h : FrV w S g vn vb f e) (e' : Nat) : FrV (w.setCell ⟨g, 2, none⟩ (.int .u64 (e' : Int))) S g vn vb f e' :=
  ⟨by have := h.k.set 2 (.int .u64 (e' : Int)); simpa using this, h.b, own_cell h.o1 _ (fun e => h.n1 e.symm), own_cell h.o2 _ (fun e => h.n2 e.symm), h.s1, h.s2, h.d, h.n1, h.n2⟩
def emS : ByteArray := ⟨#[]⟩
/-- an expression, written out: its frame, and what ends -/
def writeM (e : Ex) : Fm × Nat :=
  ((joinM (addM e (spotM ⟨[], []⟩ emS).1).1 (spotM ⟨[], []⟩ emS).2 (addM e (spotM ⟨[], []⟩ emS).1).2).1, (joinM (addM e (spotM ⟨[], []⟩ emS).1).1 (spotM ⟨[], []⟩ emS).2 (addM e (spotM ⟨[], []⟩ emS).1).2).2.l)
theorem write_ok (e : Ex) : FOk (writeM e).1 ∧ (writeM e).1.ns.length = 1 + posE e ∧ (writeM e).2 < 2 ^ (1 + posE e) := by
  have h0 : FOk (⟨[], []⟩ : Fm) := ⟨rfl, fun x hx => by cases hx⟩
  obtain ⟨s1, s2, s3⟩ := spot_ok emS h0
  obtain ⟨a1, a2, a3⟩ := add_ok e _ s1
  have hl : (spotM ⟨[], []⟩ emS).1.ns.length = 1 := rfl
  obtain ⟨j1, j2, j3⟩ := join_ok (f := (addM e (spotM ⟨[], []⟩ emS).1).1) (a := (spotM ⟨[], []⟩ emS).2) (b := (addM e (spotM ⟨[], []⟩ emS).1).2) a1 (by rw [a2, hl]; exact POk.mono s3 (by simp)) (by rw [a2]; exact a3)
  rw [a2, hl] at j3
  exact ⟨j1, by show (joinM _ _ _).1.ns.length = _; rw [j2, a2, hl], j3.2⟩

/-- a pointer to a new frame is handed back; what was there is as it was -/
def WrR (w : World) (r : Fm × Nat) (x : Ending) (w' : World) : Prop := ∃ g, x = .returned (.pointer (some ⟨g, 0, none⟩)) ∧ Fr w' (· < w.heap.size) g r.1 r.2 ∧ Below w.heap.size w w'

set_option maxRecDepth 100000 in
set_option maxHeartbeats 6400000 in
theorem write_any (e : Ex) (hwf : Wf e) (s : Value) (B : Nat) (w : World) (hs : Kb w B s e.l) (hB : B ≤ w.heap.size) (hB0 : 0 < B) (hp : posE e ≤ 24) (hT : Tab w) :
    Calls Tryz.prog 29 #[exV e s] w (WrR w (writeM e)) := by
  obtain ⟨A, cap, rfl⟩ := hs.form
  obtain ⟨r, HR⟩ : ∃ r, Hid (r = writeM e) := ⟨_, rfl⟩
  rw [← HR.out]
  obtain ⟨w0, rfl⟩ : ∃ w0 : World, w0 = w := ⟨_, rfl⟩
  have HBB := Lib.hid (box2 w0 (.cells #[.int .i64 e.k, .string e.n, .int .i64 e.a, .int .i64 e.b, .slice A e.l.length cap] 24) (.cells #[.slice none 0 0, .slice none 0 0, .int .u64 0] 98))
  obtain ⟨W, HW⟩ : ∃ W : World, Hid (W = (w0.alloc (.cells #[.int .i64 e.k, .string e.n, .int .i64 e.a, .int .i64 e.b, .slice A e.l.length cap] 24)).alloc (.cells #[.slice none 0 0, .slice none 0 0, .int .u64 0] 98)) := ⟨_, rfl⟩
  rw [← HW.out] at HBB
  obtain ⟨S1, HS1⟩ : ∃ S1 : Nat → Prop, Hid (∀ k, S1 k ↔ k < w0.heap.size + 1) := ⟨_, fun k => Iff.rfl⟩
  have hz : W.heap.size = w0.heap.size + 2 := by rw [HW.out]; simp
  have hb0 : Hid (Bk W w0.heap.size 24 (exA e (.slice A e.l.length cap))) := by show Bk W _ _ _; rw [HW.out]; exact (Bk.new _ _ _).alloc _
  have HFR : Hid (Fr W S1 (w0.heap.size + 1) ⟨[], []⟩ 0) := by
    refine ⟨.slice none 0 0, .slice none 0 0, ?_, fun h => by have := (HS1.out _).1 h; omega, World.ownsRow_nil _ _ _ _, World.ownsRow_nil _ _ _ _, (fun k hk => by cases hk), (fun k hk => by cases hk), .inl rfl, (by simp [Value.ownBlock]), (by simp [Value.ownBlock])⟩
    have := Bk.new (w0.alloc (.cells #[.int .i64 e.k, .string e.n, .int .i64 e.a, .int .i64 e.b, .slice A e.l.length cap] 24)) 98 #[.slice none 0 0, .slice none 0 0, .int .u64 0]
    rw [World.size_alloc, ← HW.out] at this; exact this
  have HIN : Hid (In S1 W) := by intro k hk; have := (HS1.out k).1 hk; omega
  have CS : Hid (Calls Tryz.prog 60 #[.pointer (some ⟨w0.heap.size + 1, 0, none⟩), .string emS] W fun y w2 => y = .returned (.agg #[.int .u64 1, .int .u64 1, .bool false]) ∧ Fr w2 S1 (w0.heap.size + 1) ⟨[emS], [0]⟩ 0 ∧ Kp S1 W w2) :=
    (spot_any (w0.heap.size + 1) ⟨[], []⟩ 0 emS S1 W HFR.out (by simp) HIN.out rfl)
  have HT1 : Hid (Tab W) := hT.all HBB.out
  have HKB : Hid (Kb W B (.slice A e.l.length cap) e.l) := Kb.below hs (HBB.out.mono hB)
  have HWF := Lib.hid hwf
  have h1B : Hid (∀ k, k < B → S1 k) := fun k hk => (HS1.out k).2 (by omega)
  clear hs hwf
  show Calls Tryz.prog 29 #[.agg #[.int .i64 e.k, .string e.n, .int .i64 e.a, .int .i64 e.b, .slice A e.l.length cap]] w0 _
  go_enter Tryz.func29, Tryz.ntmps29
  go_wp2_with fail
  rw [← HW.out]
  refine CS.out.mono ?_
  rintro x9 w1 ⟨rfl, hfr1, hk1⟩
  have HB1 : Hid (Bk w1 w0.heap.size 24 (exA e (.slice A e.l.length cap))) := hb0.out.kp hk1 ((HS1.out _).2 (by omega))
  obtain ⟨S2, HS2⟩ : ∃ S2 : Nat → Prop, Hid (∀ k, S2 k ↔ (S1 k ∨ (w1.heap.size ≤ k ∧ k < w1.heap.size + 1))) := ⟨_, fun k => Iff.rfl⟩
  have HFR2 : Hid (Fr (w1.alloc (.cells #[.int .u64 1, .int .u64 1, .bool false] 100)).drew S2 (w0.heap.size + 1) ⟨[emS], [0]⟩ 0) := by
    obtain ⟨vn, vb, hv⟩ := hfr1
    exact ⟨vn, vb, (((hv.also w1.heap.size (w1.heap.size + 1) (Nat.le_refl _)).alloc _).drewN 1).smono fun k hk2 => (HS2.out k).1 hk2⟩
  have HIN2 : Hid (In S2 (w1.alloc (.cells #[.int .u64 1, .int .u64 1, .bool false] 100)).drew) := by
    intro k hk2
    rcases (HS2.out k).1 hk2 with h1 | h1
    · have := HIN.out.kp hk1 k h1; show k < (w1.alloc _).heap.size; simp; omega
    · show k < (w1.alloc _).heap.size; simp; omega
  have HK1 : Hid (Kp S1 W (w1.alloc (.cells #[.int .u64 1, .int .u64 1, .bool false] 100)).drew) := (hk1.alloc (HIN.out.kp hk1) _).drewN 1
  have h10 : S1 0 := (HS1.out 0).2 (by omega)
  have HT2 : Hid (Tab (w1.alloc (.cells #[.int .u64 1, .int .u64 1, .bool false] 100)).drew) := tab_kp HT1.out HK1.out h10
  have h0 : FOk (⟨[emS], [0]⟩ : Fm) := ⟨rfl, fun x hx => by simp at hx; subst hx; decide⟩
  have h12 : ∀ k, S1 k → S2 k := fun k h => (HS2.out k).2 (.inl h)
  have CA := Lib.hid (add_any e HWF.out (w0.heap.size + 1) 0 ⟨[emS], [0]⟩ (.slice A e.l.length cap) B S2 _ (kb_kp HKB.out HK1.out h1B.out) (fun k hk => h12 k (h1B.out k hk)) hB0 HFR2.out HIN2.out h0 (by simp; omega) HT2.out)
  have hg := add_ok e _ h0
  have hgl : (addM e ⟨[emS], [0]⟩).1.ns.length = 1 + posE e := hg.2.1
  have hgp : POk (1 + posE e) (addM e ⟨[emS], [0]⟩).2 := hg.2.2
  have hp1 : POk (1 + posE e) ⟨1, 1, false⟩ := by
    have : POk 1 ⟨1, 1, false⟩ := ⟨by decide, by decide⟩
    exact this.mono (by omega)
  obtain ⟨⟨jf, jl, je⟩, HJ⟩ : ∃ y : Pa, Hid (y = (joinM (addM e ⟨[emS], [0]⟩).1 ⟨1, 1, false⟩ (addM e ⟨[emS], [0]⟩).2).2) := ⟨_, rfl⟩
  have CJ : Hid (∀ w2, Fr w2 S2 (w0.heap.size + 1) (addM e ⟨[emS], [0]⟩).1 0 → Kp S2 (w1.alloc (.cells #[.int .u64 1, .int .u64 1, .bool false] 100)).drew w2 →
      Calls Tryz.prog 61 #[.pointer (some ⟨w0.heap.size + 1, 0, none⟩), .agg #[.int .u64 1, .int .u64 1, .bool false], paV (addM e ⟨[emS], [0]⟩).2] w2 fun y w3 => y = .returned (.agg #[.int .u64 (jf : Int), .int .u64 (jl : Int), .bool je]) ∧ Fr w3 S2 (w0.heap.size + 1) (joinM (addM e ⟨[emS], [0]⟩).1 ⟨1, 1, false⟩ (addM e ⟨[emS], [0]⟩).2).1 0 ∧ Kp S2 w2 w3) := fun w2 hfr hk =>
    (fjoin_any (w0.heap.size + 1) _ 0 ⟨1, 1, false⟩ _ S2 w2 hfr (HIN2.out.kp hk) (hp1.ok (by omega)) (hgp.ok (by omega)) (fun i hi => by rw [hg.1.1, hgl]; exact bits_in hp1.2 hi) (fun y hy => by have := hg.1.2 y hy; rw [hgl] at this; exact pow_25 this (by omega)) (tab_kp HT2.out hk (h12 0 h10))).mono
      fun y w3 ⟨h1, h2, h3⟩ => ⟨by rw [h1, ← HJ.out]; rfl, h2, h3⟩
  have hr : Hid (r = ((joinM (addM e ⟨[emS], [0]⟩).1 ⟨1, 1, false⟩ (addM e ⟨[emS], [0]⟩).2).1, jl)) := by
    show _ = _
    rw [HR.out]
    show (_, (joinM (addM e ⟨[emS], [0]⟩).1 ⟨1, 1, false⟩ (addM e ⟨[emS], [0]⟩).2).2.l) = _
    rw [← HJ.out]; rfl
  have HC : Hid (∀ w', Kp S2 (w1.alloc (.cells #[.int .u64 1, .int .u64 1, .bool false] 100)).drew w' → (w'.cell? ⟨w1.heap.size, 0, none⟩ = some (.int .u64 1) ∧ w'.cell? ⟨w1.heap.size, 1, none⟩ = some (.int .u64 1) ∧ w'.cell? ⟨w1.heap.size, 2, none⟩ = some (.bool false))) := fun w' hk =>
    (Bk.three ((Bk.new w1 100 #[.int .u64 1, .int .u64 1, .bool false]).drew.kp hk ((HS2.out _).2 (.inr (by omega))))).1
  obtain ⟨k0, k1, k2, k3, k4⟩ := Bk.fiveE HB1.out
  have hl1 : w0.heap.size < w1.heap.size := by have := hk1.size; omega
  have hfld : ∀ w, (Instr.field 100 (.agg #[.int .u64 (jf : Int), .int .u64 (jl : Int), .bool je]) 1).run Tryz.prog w = .ok (.int .u64 (jl : Int)) w := fun _ => by kernel_rfl
  clear hk1 hfr1 CS
  go_wp2_with fail
  go_region_with (first
    | (go_at_call 62; refine CA.out.mono ?_; rintro x9 w2 ⟨rfl, hfr2, hk2⟩; obtain ⟨b0, b1, b2⟩ := HC.out _ hk2; have Hfr2 := Lib.hid hfr2; have Hk2 := Lib.hid hk2; clear hfr2 hk2)
    | (go_at_call 61; refine (CJ.out _ Hfr2.out Hk2.out).mono ?_; rintro x9 w3 ⟨rfl, hfr3, hk3⟩; obtain ⟨vn, vb, hv⟩ := hfr3; obtain ⟨⟨d0, d1, d2⟩, e0, e1, e2⟩ := Bk.three hv.k; have Hv := Lib.hid hv; have Hk3 := Lib.hid hk3; clear hv hk3))
  all_goals
    have hfin := Lib.hid (Hv.out.ends jl)
    have hks : Kp (fun k => k < w0.heap.size) w0 (w3.setCell ⟨w0.heap.size + 1, 2, none⟩ (.int .u64 (jl : Int))) := by
      have h1 : Kp (fun k => k < w0.heap.size) w0 W := Kp.of HBB.out fun k hk => hk
      have h2 : ∀ k, k < w0.heap.size → S1 k := fun k hk => (HS1.out k).2 (by omega)
      exact ((h1.trans (HK1.out.mono h2)).trans ((Hk2.out.trans Hk3.out).mono fun k hk => h12 k (h2 k hk))).setCell (by show ¬ (w0.heap.size + 1 < w0.heap.size); omega) _
    have hks := Lib.hid hks
    clear Hk2 Hk3 Hv CA CJ HC
    go_wp2_with fail
    go_ret
    refine ⟨_, rfl, ?_, hks.out.toBelow fun k hk => hk⟩
    rw [hr.out]
    exact ⟨vn, vb, hfin.out.smono fun k hk => h12 k ((HS1.out k).2 (by omega))⟩
end Go.Proofs.YtkbileabkfccgaaGreatDoor
