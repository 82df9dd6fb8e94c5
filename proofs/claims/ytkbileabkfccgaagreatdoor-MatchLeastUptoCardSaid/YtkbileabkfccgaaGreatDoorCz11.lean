/- MaK2, MaL, merged. -/
import Derived.Test.YtkbileabkfccgaaGreatDoorCz10

/- match: choice of a frame. -/
namespace Go.Proofs.YtkbileabkfccgaaGreatDoor
open Go.RowKit

theorem choM_drop {l : List Ex} {k : Nat} (h : k < l.length) (p : Pa) (f : Fm) : choM (l.drop k) p f = choM (l.drop (k + 1)) ⟨p.f ||| (addM l[k] f).2.f, p.l ||| (addM l[k] f).2.l, p.e || (addM l[k] f).2.e⟩ (addM l[k] f).1 := by
  rw [List.drop_eq_getElem_cons h, choM]

set_option maxRecDepth 100000 in
set_option maxHeartbeats 3200000 in
theorem choice_any (l : List Ex) (hl : ∀ e ∈ l, AddOk e) (g ends : Nat) (f : Fm) (s : Value) (B : Nat) (S : Nat → Prop) (w : World) (hs : Kb w B s l) (hBS : ∀ k, k < B → S k) (hB0 : 0 < B) (h : Fr w S g f ends) (hS : In S w) (hf : FOk f) (hsz : f.ns.length + posL l ≤ 25) (hT : Tab w) :
    Calls Tryz.prog 107 #[.pointer (some ⟨g, 0, none⟩), s] w (PaR w S g ends (choM l ⟨0, 0, false⟩ f)) := by
  obtain ⟨A, cap, rfl⟩ := hs.form
  have hmx := hs.max
  unfold maxLen at hmx
  obtain ⟨w0, rfl⟩ : ∃ w0 : World, w0 = w := ⟨_, rfl⟩
  have hg := h.lt
  have hB : B ≤ w0.heap.size := by
    apply Nat.le_of_not_lt; intro hlt; have := hS _ (hBS _ hlt); omega
  have HBB := Lib.hid (box2 w0 (.cells #[.int .u64 0, .int .u64 0, .bool false] 100) (.cells #[.int .u64 0, .int .u64 0, .bool false] 100))
  obtain ⟨r, HR⟩ : ∃ r, Hid (r = choM l ⟨0, 0, false⟩ f) := ⟨_, rfl⟩
  rw [← HR.out]
  have HS := Lib.hid hS
  have HBS := Lib.hid hBS
  have HL := Lib.hid hl
  have HF0 : Hid (Fr ((w0.alloc (.cells #[.int .u64 0, .int .u64 0, .bool false] 100)).alloc (.cells #[.int .u64 0, .int .u64 0, .bool false] 100)) (fun k => S k ∨ (w0.heap.size ≤ k ∧ k < w0.heap.size + 2)) g f ends) := by
    obtain ⟨vn, vb, hv⟩ := h
    exact ⟨vn, vb, (hv.also w0.heap.size (w0.heap.size + 2) (Nat.le_refl _)).all HBB.out⟩
  have HK0 : Hid (Kp S w0 ((w0.alloc (.cells #[.int .u64 0, .int .u64 0, .bool false] 100)).alloc (.cells #[.int .u64 0, .int .u64 0, .bool false] 100))) := Kp.of HBB.out hS
  have HA0 : Hid (Bk ((w0.alloc (.cells #[.int .u64 0, .int .u64 0, .bool false] 100)).alloc (.cells #[.int .u64 0, .int .u64 0, .bool false] 100)) (w0.heap.size + 1) 100 (paC ⟨0, 0, false⟩)) := by
    have := Bk.new (w0.alloc (.cells #[.int .u64 0, .int .u64 0, .bool false] 100)) 100 #[.int .u64 0, .int .u64 0, .bool false]
    rw [World.size_alloc] at this; exact this
  have HR0 : Hid (Bk ((w0.alloc (.cells #[.int .u64 0, .int .u64 0, .bool false] 100)).alloc (.cells #[.int .u64 0, .int .u64 0, .bool false] 100)) w0.heap.size 100 #[.int .u64 0, .int .u64 0, .bool false]) := (Bk.new _ _ _).alloc _
  have HZ0 : Hid (w0.heap.size + 2 ≤ ((w0.alloc (.cells #[.int .u64 0, .int .u64 0, .bool false] 100)).alloc (.cells #[.int .u64 0, .int .u64 0, .bool false] 100)).heap.size) := by show _ ≤ _; simp
  clear h hS hBS hl
  go_enter Tryz.func107, Tryz.ntmps107
  go_wp2_with fail
  go_loopw [7, 11] (fun _ i wr => ∃ (k : Nat) (p : Pa) (f' : Fm), k ≤ l.length ∧ i = .int .i64 k ∧ Hid (r = choM (l.drop k) p f') ∧ Hid (Fr wr (fun k => S k ∨ (w0.heap.size ≤ k ∧ k < w0.heap.size + 2)) g f' ends) ∧ Hid (Kp S w0 wr) ∧
    Hid (Bk wr (w0.heap.size + 1) 100 (paC p)) ∧ Hid (Bk wr w0.heap.size 100 #[.int .u64 0, .int .u64 0, .bool false]) ∧ Hid (FOk f' ∧ f'.ns.length + posL (l.drop k) ≤ 25 ∧ POk f'.ns.length p) ∧ Hid (w0.heap.size + 2 ≤ wr.heap.size)) (fun _ i _ => l.length - (intOf i).toNat)
  case atStart => exact ⟨0, ⟨0, 0, false⟩, f, Nat.zero_le _, rfl, HR.out, HF0.out, HK0.out, HA0.out, HR0.out, ⟨hf, hsz, POk.nil _ _⟩, HZ0.out⟩
  case round =>
    obtain ⟨k, p, f', hk, rfl, hr, HF, HK, HA, HRR, HO, HZ⟩ := hrel
    have hz := HZ.out
    by_cases hlt : k < l.length
    · obtain ⟨b, off, s, rfl, hbB, hcap, hks, hc0, hc1, hc2, hc3, hc4⟩ := Kd.at (hs.below (HK.out.toBelow HBS.out)) hlt
      obtain ⟨x, HX⟩ : ∃ x, Hid (x = l[k]) := ⟨l[k], Lib.hid rfl⟩
      rw [← HX.out] at hks hc0 hc1 hc2 hc3
      obtain ⟨A3, cap3, rfl⟩ := hks.form
      have HX2 := Lib.hid (posL_drop hlt)
      have HX3 := Lib.hid (choM_drop hlt p f')
      rw [← HX.out] at HX2 HX3
      have hx := Lib.hid (HL.out x (by rw [HX.out]; exact List.getElem_mem hlt))
      obtain ⟨o1, o2, o3⟩ := HO.out
      have hpx : f'.ns.length + posE x ≤ 25 := by rw [HX2.out] at o2; omega
      obtain ⟨S2, HS2⟩ : ∃ S2 : Nat → Prop, Hid (∀ k, S2 k ↔ ((S k ∨ (w0.heap.size ≤ k ∧ k < w0.heap.size + 2)) ∨ (wr.heap.size ≤ k ∧ k < wr.heap.size + 1))) := ⟨_, fun k => Iff.rfl⟩
      have HIN2 : Hid (In S2 (wr.alloc (.cells #[.int .i64 x.k, .string x.n, .int .i64 x.a, .int .i64 x.b, .slice A3 x.l.length cap3] 24))) := by
        intro k hk2
        rcases (HS2.out k).1 hk2 with (h | h) | h
        · have := HS.out k h; have := HK.out.size; simp; omega
        · simp; omega
        · simp; omega
      have HFR : Hid (Fr (wr.alloc (.cells #[.int .i64 x.k, .string x.n, .int .i64 x.a, .int .i64 x.b, .slice A3 x.l.length cap3] 24)) S2 g f' ends) := by
        obtain ⟨vn, vb, hv⟩ := HF.out
        exact ⟨vn, vb, (((hv.also wr.heap.size (wr.heap.size + 1) (Nat.le_refl _)).alloc _)).smono fun k hk2 => (HS2.out k).1 hk2⟩
      have HKW : Hid (Kp S w0 (wr.alloc (.cells #[.int .i64 x.k, .string x.n, .int .i64 x.a, .int .i64 x.b, .slice A3 x.l.length cap3] 24))) := (HK.out.alloc (HS.out.kp HK.out) _)
      have HTW : Hid (Tab (wr.alloc (.cells #[.int .i64 x.k, .string x.n, .int .i64 x.a, .int .i64 x.b, .slice A3 x.l.length cap3] 24))) := hT.below (HKW.out.toBelow HBS.out) hB0
      have CA := Lib.hid (hx.out g ends f' (.slice A3 x.l.length cap3) B S2 _ ((Kb.alloc hks (by have := HK.out.size; omega) (.cells #[.int .i64 x.k, .string x.n, .int .i64 x.a, .int .i64 x.b, .slice A3 x.l.length cap3] 24))) (fun k hk2 => (HS2.out k).2 (.inl (.inl (HBS.out k hk2)))) hB0 HFR.out HIN2.out o1 hpx HTW.out)
      have hgood := add_ok x f' o1
      have HGL : Hid ((addM x f').1.ns.length = f'.ns.length + posE x) := hgood.2.1
      obtain ⟨⟨pf, pl, pe⟩, HP⟩ : ∃ q : Pa, Hid (q = p) := ⟨p, rfl⟩
      obtain rfl := HP.out
      obtain ⟨⟨af, al, ae⟩, HA2⟩ : ∃ q : Pa, Hid (q = (addM x f').2) := ⟨_, rfl⟩
      obtain ⟨F, HFF⟩ : ∃ F, Hid (F = pf ||| af) := ⟨_, rfl⟩
      obtain ⟨L, HLL⟩ : ∃ L, Hid (L = pl ||| al) := ⟨_, rfl⟩
      have hp25 : Pa.Ok (addM x f').2 := hgood.2.2.ok (by omega)
      rw [← HA2.out] at hp25
      have hq25 : Pa.Ok ⟨pf, pl, pe⟩ := o3.ok (by omega)
      have hor1 : bits .or .u64 (pf : Int) (af : Int) = (F : Int) := by rw [HFF.out]; exact bits_or_u64_nat _ _ (by have := hq25.1; simp only at this; omega) (by have := hp25.1; simp only at this; omega)
      have hor2 : bits .or .u64 (pl : Int) (al : Int) = (L : Int) := by rw [HLL.out]; exact bits_or_u64_nat _ _ (by have := hq25.2; simp only at this; omega) (by have := hp25.2; simp only at this; omega)
      have HNP : Hid (POk (addM x f').1.ns.length ⟨F, L, pe || ae⟩) := by
        rw [HGL.out]
        have h3 := hgood.2.2
        rw [← HA2.out] at h3
        refine ⟨?_, ?_⟩
        · show F < _; rw [HFF.out]; exact Nat.or_lt_two_pow (pow_mono o3.1 (by omega)) h3.1
        · show L < _; rw [HLL.out]; exact Nat.or_lt_two_pow (pow_mono o3.2 (by omega)) h3.2
      have HGF := Lib.hid hgood.1
      have CA2 : Hid (Calls Tryz.prog 62 #[.pointer (some ⟨g, 0, none⟩), exV x (.slice A3 x.l.length cap3)] (wr.alloc (.cells #[.int .i64 x.k, .string x.n, .int .i64 x.a, .int .i64 x.b, .slice A3 x.l.length cap3] 24)) fun y w2 => y = .returned (.agg #[.int .u64 (af : Int), .int .u64 (al : Int), .bool ae]) ∧ Fr w2 S2 g (addM x f').1 ends ∧ Kp S2 (wr.alloc (.cells #[.int .i64 x.k, .string x.n, .int .i64 x.a, .int .i64 x.b, .slice A3 x.l.length cap3] 24)) w2) :=
        CA.out.mono fun y w2 ⟨h1, h2, h3⟩ => ⟨by rw [h1, ← HA2.out]; rfl, h2, h3⟩
      clear CA hp25 hq25
      have HC : Hid (∀ w', Kp S2 (wr.alloc (.cells #[.int .i64 x.k, .string x.n, .int .i64 x.a, .int .i64 x.b, .slice A3 x.l.length cap3] 24)) w' →
          (w'.cell? ⟨w0.heap.size + 1, 0, none⟩ = some (.int .u64 (pf : Int)) ∧ w'.cell? ⟨w0.heap.size + 1, 1, none⟩ = some (.int .u64 (pl : Int)) ∧ w'.cell? ⟨w0.heap.size + 1, 2, none⟩ = some (.bool pe)) ∧ (w'.frozen? ⟨w0.heap.size + 1, 0, none⟩ = false ∧ w'.frozen? ⟨w0.heap.size + 1, 1, none⟩ = false ∧ w'.frozen? ⟨w0.heap.size + 1, 2, none⟩ = false) ∧
          (w'.cell? ⟨wr.heap.size, 0, none⟩ = some (.int .i64 x.k) ∧ w'.cell? ⟨wr.heap.size, 1, none⟩ = some (.string x.n) ∧ w'.cell? ⟨wr.heap.size, 2, none⟩ = some (.int .i64 x.a) ∧ w'.cell? ⟨wr.heap.size, 3, none⟩ = some (.int .i64 x.b) ∧ w'.cell? ⟨wr.heap.size, 4, none⟩ = some (.slice A3 x.l.length cap3))) := by
        intro w' hkp
        have b1 := ((HA.out.alloc (.cells #[.int .i64 x.k, .string x.n, .int .i64 x.a, .int .i64 x.b, .slice A3 x.l.length cap3] 24))).kp hkp ((HS2.out _).2 (.inl (.inr (by omega))))
        have b2 := ((Bk.new wr 24 #[.int .i64 x.k, .string x.n, .int .i64 x.a, .int .i64 x.b, .slice A3 x.l.length cap3])).kp hkp ((HS2.out _).2 (.inr (by omega)))
        exact ⟨(Bk.three b1).1, (Bk.three b1).2, b2.cell 0, b2.cell 1, b2.cell 2, b2.cell 3, b2.cell 4⟩
      obtain ⟨⟨a0, a1, a2⟩, -⟩ := Bk.three (show Bk wr (w0.heap.size + 1) 100 #[.int .u64 (pf : Int), .int .u64 (pl : Int), .bool pe] from HA.out)
      have hlt1 : w0.heap.size + 1 < wr.heap.size := by omega
      obtain ⟨E, HE⟩ : ∃ E, Hid (E = (pe || ae)) := ⟨_, rfl⟩
      have HR2 : Hid (r = choM (l.drop (k + 1)) ⟨F, L, E⟩ (addM x f').1) := by show _ = _; rw [hr.out, HX3.out, ← HA2.out, HFF.out, HLL.out, HE.out]
      rw [← HE.out] at HNP
      cases pe
      all_goals
        have hE := HE.out
        simp only [Bool.false_or, Bool.true_or] at hE
        subst hE
        go_wp2_with fail
        refine CA2.out.mono ?_
        rintro x9 w1 ⟨rfl, hfr1, hk1⟩
        obtain ⟨⟨b0, b1, b2⟩, ⟨f0, f1, f2⟩, -⟩ := HC.out _ hk1
        have hw1 : w0.heap.size + 1 < w1.heap.size := by have := hk1.size; simp at this; omega
        have hkS : Kp S w0 w1 := HKW.out.trans (hk1.mono fun k hk2 => (HS2.out k).2 (.inl (.inl hk2)))
        have HKS := Lib.hid hkS
        have hin1 : S2 (w0.heap.size + 1) := (HS2.out _).2 (.inl (.inr (by omega)))
        have HFR1 := Lib.hid hfr1
        have HAw := Lib.hid ((HA.out.alloc (.cells #[.int .i64 x.k, .string x.n, .int .i64 x.a, .int .i64 x.b, .slice A3 x.l.length cap3] 24)).kp hk1 hin1)
        have HRw := Lib.hid ((HRR.out.alloc (.cells #[.int .i64 x.k, .string x.n, .int .i64 x.a, .int .i64 x.b, .slice A3 x.l.length cap3] 24)).kp hk1 ((HS2.out _).2 (.inl (.inr (by omega)))))
        have HO2 : Hid ((addM x f').1.ns.length + posL (l.drop (k + 1)) ≤ 25) := by show _ ≤ _; rw [HGL.out]; have := HX2.out; rw [this] at o2; omega
        have hsn : ¬ S (w0.heap.size + 1) := fun h => by have := HS.out _ h; omega
        clear hk1 hfr1 HC CA2 HA HRR HF HK hkS
        go_wp2_with fail
        go_roundw
        case rel =>
          refine ⟨k + 1, ⟨F, L, _⟩, (addM x f').1, by omega, by go_num, HR2.out, ?_, ?_, ?_, ?_, ⟨HGF.out, HO2.out, HNP.out⟩, ?_⟩
          · obtain ⟨vn, vb, hv⟩ := HFR1.out
            exact ⟨vn, vb, ((hv.far3 _ _ _ (fun e => hv.b (e ▸ hin1)) (fun e => hv.s1 _ e hin1) (fun e => hv.s2 _ e hin1)).alloc _).smono fun k hk2 => (HS2.out k).2 (.inl hk2)⟩
          · exact (HKS.out.set3 hsn _ _ _).alloc (HS.out.le (by have := HKS.out.size; simp; omega)) _
          · exact (Bk.set3 (show Bk w1 (w0.heap.size + 1) 100 #[_, _, _] from HAw.out) _ _ _).alloc _
          · exact (HRw.out.far3 (by omega) _ _ _).alloc _
          · show _ ≤ _; simp; omega
        case measure => simp [intOf]; omega
    · obtain ⟨pf, pl, pe⟩ := p
      have hfin : Hid (r = (f', ⟨pf, pl, pe⟩)) := by show _ = _; rw [hr.out, List.drop_eq_nil_of_le (by omega), choM]
      obtain ⟨⟨x0, x1, x2⟩, -⟩ := Bk.three (show Bk wr (w0.heap.size + 1) 100 #[.int .u64 (pf : Int), .int .u64 (pl : Int), .bool pe] from HA.out)
      obtain ⟨⟨y0, y1, y2⟩, z0, z1, z2⟩ := Bk.three HRR.out
      have hlt0 : w0.heap.size < wr.heap.size := by omega
      have hlt1 : w0.heap.size + 1 < wr.heap.size := by omega
      have HSN : Hid (¬ S w0.heap.size) := fun h => by have := HS.out _ h; omega
      clear HA0 HR0 HF0 HK0
      go_wp2_with fail
      refine pa_ret 4 w0.heap.size Tryz.results107 rfl rfl ?_ ?_ ?_
      · rw [hfin.out]; exact Bk.set3 HRR.out _ _ _
      · rw [hfin.out]
        obtain ⟨vn, vb, hv⟩ := HF.out
        exact ⟨vn, vb, (hv.far3 _ _ _ (fun e => hv.b (.inr (by omega))) (fun e => hv.s1 _ e (.inr (by omega))) (fun e => hv.s2 _ e (.inr (by omega)))).smono fun k hk2 => .inl hk2⟩
      · exact HK.out.set3 HSN.out _ _ _
end Go.Proofs.YtkbileabkfccgaaGreatDoor

/- match: many of a frame. -/
namespace Go.Proofs.YtkbileabkfccgaaGreatDoor
open Go.RowKit

/-- a kid in block b -/
def exA (x : Ex) (s : Value) : Array Value := #[.int .i64 x.k, .string x.n, .int .i64 x.a, .int .i64 x.b, s]
theorem Bk.fiveE {w : World} {b : Nat} {t : TypeId} {x : Ex} {s : Value} (h : Bk w b t (exA x s)) :
    w.cell? ⟨b, 0, none⟩ = some (.int .i64 x.k) ∧ w.cell? ⟨b, 1, none⟩ = some (.string x.n) ∧ w.cell? ⟨b, 2, none⟩ = some (.int .i64 x.a) ∧ w.cell? ⟨b, 3, none⟩ = some (.int .i64 x.b) ∧ w.cell? ⟨b, 4, none⟩ = some s :=
  ⟨h.cell 0, h.cell 1, h.cell 2, h.cell 3, h.cell 4⟩
theorem Bk.threeP {w : World} {b : Nat} {t : TypeId} {p : Pa} (h : Bk w b t (paC p)) :
    (w.cell? ⟨b, 0, none⟩ = some (.int .u64 (p.f : Int)) ∧ w.cell? ⟨b, 1, none⟩ = some (.int .u64 (p.l : Int)) ∧ w.cell? ⟨b, 2, none⟩ = some (.bool p.e)) ∧ (w.frozen? ⟨b, 0, none⟩ = false ∧ w.frozen? ⟨b, 1, none⟩ = false ∧ w.frozen? ⟨b, 2, none⟩ = false) := Bk.three h

/-- where a many stands: the kid, the result, what there is so far; all in blocks of S1 -/
structure Mn (w : World) (S1 : Nat → Prop) (g ends kb rb ab : Nat) (x : Ex) (s : Value) (f : Fm) (p : Pa) : Prop where
  k : Bk w kb 24 (exA x s)
  r : Bk w rb 100 (paC ⟨0, 0, false⟩)
  a : Bk w ab 100 (paC p)
  fr : Fr w S1 g f ends
  i : In S1 w
  sk : S1 kb
  sr : S1 rb
  sa : S1 ab
  d : kb ≠ ab ∧ rb ≠ ab ∧ kb ≠ rb
section
variable {w w' w2 : World} {S1 S2 : Nat → Prop} {g ends kb rb ab : Nat} {x : Ex} {s : Value} {f f' : Fm} {p p' : Pa}
theorem Mn.kp (h : Mn w S1 g ends kb rb ab x s f p) (k : Kp S1 w w') (hf : Fr w' S1 g f' ends) : Mn w' S1 g ends kb rb ab x s f' p :=
  ⟨h.k.kp k h.sk, h.r.kp k h.sr, h.a.kp k h.sa, hf, h.i.kp k, h.sk, h.sr, h.sa, h.d⟩
theorem Mn.all (h : Mn w S1 g ends kb rb ab x s f p) (k : Below w.heap.size w w') : Mn w' S1 g ends kb rb ab x s f p :=
  h.kp (Kp.of k h.i) (h.fr.all k)
theorem Mn.set (h : Mn w S1 g ends kb rb ab x s f p) (p' : Pa) : Mn (((w.setCell ⟨ab, 0, none⟩ (.int .u64 (p'.f : Int))).setCell ⟨ab, 1, none⟩ (.int .u64 (p'.l : Int))).setCell ⟨ab, 2, none⟩ (.bool p'.e)) S1 g ends kb rb ab x s f p' := by
  refine ⟨h.k.far3 h.d.1 _ _ _, h.r.far3 h.d.2.1 _ _ _, Bk.set3 (show Bk w ab 100 #[_, _, _] from h.a) _ _ _, ?_, h.i.le (by simp), h.sk, h.sr, h.sa, h.d⟩
  obtain ⟨vn, vb, hv⟩ := h.fr
  exact ⟨vn, vb, hv.far3 _ _ _ (fun e => hv.b (e ▸ h.sa)) (fun e => hv.s1 _ e h.sa) (fun e => hv.s2 _ e h.sa)⟩
theorem Mn.lt (h : Mn w S1 g ends kb rb ab x s f p) : kb < w.heap.size ∧ rb < w.heap.size ∧ ab < w.heap.size := ⟨h.k.lt, h.r.lt, h.a.lt⟩
end

/-- add's contract at the kid, and join's behind it, as a many has them -/
def ManyC (x : Ex) (s : Value) (B : Nat) (S1 : Nat → Prop) (g ends : Nat) : Prop :=
  (∀ (f : Fm) (w : World), Fr w S1 g f ends → In S1 w → FOk f → f.ns.length + posE x ≤ 25 → Tab w → Kb w B s x.l → Calls Tryz.prog 62 #[.pointer (some ⟨g, 0, none⟩), exV x s] w (PaR w S1 g ends (addM x f)))

/-- one time more: what is behind it -/
def oneM (x : Ex) (opt : Bool) (p : Pa) (f : Fm) : Fm × Pa := joinM (addM x f).1 p ⟨(addM x f).2.f, (addM x f).2.l, opt || (addM x f).2.e⟩
theorem rep_one (x : Ex) (opt : Bool) (n : Nat) (p : Pa) (f : Fm) : repM (addM x) opt (n + 1) p f = repM (addM x) opt n (oneM x opt p f).2 (oneM x opt p f).1 := rfl
theorem one_ok {x : Ex} {opt : Bool} {p : Pa} {f : Fm} (hf : FOk f) (hp : POk f.ns.length p) : FOk (oneM x opt p f).1 ∧ (oneM x opt p f).1.ns.length = f.ns.length + posE x ∧ POk (f.ns.length + posE x) (oneM x opt p f).2 := by
  obtain ⟨h1, h2, h3⟩ := add_ok x f hf
  have hj := join_ok (f := (addM x f).1) (a := p) (b := ⟨(addM x f).2.f, (addM x f).2.l, opt || (addM x f).2.e⟩) h1 (by rw [h2]; exact hp.mono (by omega)) (by rw [h2]; exact ⟨h3.1, h3.2⟩)
  refine ⟨hj.1, by rw [oneM, hj.2.1, h2], ?_⟩
  have := hj.2.2
  rw [h2] at this
  exact this
theorem tab_kp {w w' : World} {S : Nat → Prop} (h : Tab w) (k : Kp S w w') (h0 : S 0) : Tab w' := by
  have hb : Below 1 w w' := k.toBelow fun i hi => by
    have h1 : i = 0 := by omega
    rw [h1]; exact h0
  exact h.below hb (by omega)
theorem kb_kp {w w' : World} {S : Nat → Prop} {B : Nat} {s : Value} {l : List Ex} (h : Kb w B s l) (k : Kp S w w') (hS : ∀ k, k < B → S k) : Kb w' B s l := Kb.below h (k.toBelow hS)
/-- join behind add, at a frame as add leaves it -/
theorem join_of {g ends : Nat} {x : Ex} {opt : Bool} {p : Pa} {f : Fm} {S1 : Nat → Prop} {w : World} (hfr : Fr w S1 g (addM x f).1 ends) (hi : In S1 w) (hf : FOk f) (hp : POk f.ns.length p) (hsz : f.ns.length + posE x ≤ 25) (hT : Tab w) :
    Calls Tryz.prog 61 #[.pointer (some ⟨g, 0, none⟩), paV p, paV ⟨(addM x f).2.f, (addM x f).2.l, opt || (addM x f).2.e⟩] w (PaR w S1 g ends (oneM x opt p f)) := by
  obtain ⟨h1, h2, h3⟩ := add_ok x f hf
  exact fjoin_any g _ ends p _ S1 w hfr hi (hp.ok (by omega)) ⟨pow_25 h3.1 hsz, pow_25 h3.2 hsz⟩ (fun i hi => by rw [h1.1, h2]; have := bits_in hp.2 hi; omega) (fun y hy => by have := h1.2 y hy; rw [h2] at this; exact pow_25 this hsz) hT

set_option maxRecDepth 100000 in
set_option maxHeartbeats 6400000 in
theorem many_any (x : Ex) (hx : AddOk x) (a b : Int) (ha : 0 ≤ a) (hb : b = -1 ∨ a ≤ b) (ham : a ≤ 1000) (hbm : b ≤ 1000) (g ends : Nat) (f : Fm) (s : Value) (B : Nat) (S : Nat → Prop) (w : World) (hs : Kb w B s x.l) (hBS : ∀ k, k < B → S k) (hB0 : 0 < B) (h : Fr w S g f ends) (hS : In S w) (hf : FOk f)
    (hsz : f.ns.length + (if b = -1 then a.toNat + 1 else a.toNat + (b - a).toNat) * posE x ≤ 25) (hT : Tab w) :
    Calls Tryz.prog 108 #[.pointer (some ⟨g, 0, none⟩), exV x s, .int .i64 a, .int .i64 b] w (PaR w S g ends (manM [x] a b f)) := by
  obtain ⟨A, cap, rfl⟩ := hs.form
  obtain ⟨n, rfl⟩ : ∃ n : Nat, a = (n : Int) := ⟨a.toNat, by omega⟩
  rw [Int.toNat_natCast] at hsz
  obtain ⟨w0, rfl⟩ : ∃ w0 : World, w0 = w := ⟨_, rfl⟩
  have hg := h.lt
  have hB : B ≤ w0.heap.size := by
    apply Nat.le_of_not_lt; intro hlt; have := hS _ (hBS _ hlt); omega
  have HBB := Lib.hid (box3 w0 (.cells #[.int .i64 x.k, .string x.n, .int .i64 x.a, .int .i64 x.b, .slice A x.l.length cap] 24) (.cells #[.int .u64 0, .int .u64 0, .bool false] 100) (.cells #[.int .u64 0, .int .u64 0, .bool true] 100))
  obtain ⟨W, HW⟩ : ∃ W : World, Hid (W = ((w0.alloc (.cells #[.int .i64 x.k, .string x.n, .int .i64 x.a, .int .i64 x.b, .slice A x.l.length cap] 24)).alloc (.cells #[.int .u64 0, .int .u64 0, .bool false] 100)).alloc (.cells #[.int .u64 0, .int .u64 0, .bool true] 100)) := ⟨_, rfl⟩
  obtain ⟨r, HR⟩ : ∃ r, Hid (r = manM [x] (n : Int) b f) := ⟨_, rfl⟩
  rw [← HR.out]
  obtain ⟨q, HQ⟩ : ∃ q, Hid (q = repM (addM x) false n ⟨0, 0, true⟩ f) := ⟨_, rfl⟩
  obtain ⟨S1, HS1⟩ : ∃ S1 : Nat → Prop, Hid (∀ k, S1 k ↔ (S k ∨ (w0.heap.size ≤ k ∧ k < w0.heap.size + 3))) := ⟨_, fun k => Iff.rfl⟩
  have HSS : Hid (∀ k, S k → S1 k) := fun k hk => (HS1.out k).2 (.inl hk)
  have HSN : Hid (∀ k, w0.heap.size ≤ k → ¬ S k) := fun k hk h => by have := hS k h; omega
  have HS := Lib.hid hS
  have HM0 : Hid (Mn W S1 g ends w0.heap.size (w0.heap.size + 1) (w0.heap.size + 2) x (.slice A x.l.length cap) f ⟨0, 0, true⟩) := by
    rw [HW.out]
    refine ⟨((Bk.new w0 _ _).alloc _).alloc _, ?_, ?_, ?_, ?_, (HS1.out _).2 (.inr (by omega)), (HS1.out _).2 (.inr (by omega)), (HS1.out _).2 (.inr (by omega)), by omega⟩
    · have := (Bk.new (w0.alloc (.cells #[.int .i64 x.k, .string x.n, .int .i64 x.a, .int .i64 x.b, .slice A x.l.length cap] 24)) 100 #[.int .u64 0, .int .u64 0, .bool false]).alloc (.cells #[.int .u64 0, .int .u64 0, .bool true] 100)
      rw [World.size_alloc] at this; exact this
    · have := Bk.new ((w0.alloc (.cells #[.int .i64 x.k, .string x.n, .int .i64 x.a, .int .i64 x.b, .slice A x.l.length cap] 24)).alloc (.cells #[.int .u64 0, .int .u64 0, .bool false] 100)) 100 #[.int .u64 0, .int .u64 0, .bool true]
      rw [World.size_alloc, World.size_alloc] at this; exact this
    · obtain ⟨vn, vb, hv⟩ := h
      exact ⟨vn, vb, ((hv.also w0.heap.size (w0.heap.size + 3) (Nat.le_refl _)).all HBB.out).smono fun k hk => (HS1.out k).1 hk⟩
    · intro k hk
      rcases (HS1.out k).1 hk with h1 | h1
      · have := hS k h1; simp; omega
      · simp; omega
  have HK0 : Hid (Kp S w0 W) := by show Kp S w0 W; rw [HW.out]; exact Kp.of HBB.out hS
  have HT0 : Hid (Tab w0 ∧ S1 0 ∧ Kb w0 B (.slice A x.l.length cap) x.l ∧ ∀ k, k < B → S1 k) := ⟨hT, (HS1.out _).2 (.inl (hBS 0 hB0)), hs, fun k hk => (HS1.out _).2 (.inl (hBS k hk))⟩
  have HX := Lib.hid hx
  have HBS := Lib.hid hBS
  have HSZ := Lib.hid hsz
  -- add at the kid, wherever a many stands
  have CA : Hid (∀ (w' : World) (f' : Fm) (p : Pa), Kp S w0 w' → Mn w' S1 g ends w0.heap.size (w0.heap.size + 1) (w0.heap.size + 2) x (.slice A x.l.length cap) f' p → FOk f' → f'.ns.length + posE x ≤ 25 →
      Calls Tryz.prog 62 #[.pointer (some ⟨g, 0, none⟩), .agg #[.int .i64 x.k, .string x.n, .int .i64 x.a, .int .i64 x.b, .slice A x.l.length cap]] w' (PaR w' S1 g ends (addM x f'))) := fun w' f' p hk hm hf' hp =>
    HX.out g ends f' _ B S1 w' (kb_kp HT0.out.2.2.1 hk HBS.out) HT0.out.2.2.2 hB0 hm.fr hm.i hf' hp (tab_kp hT hk (HBS.out 0 hB0))
  clear h hS hs hBS hx hsz
  have hn0 : (0 : Int) ≤ n := by omega
  show Calls Tryz.prog 108 #[.pointer (some ⟨g, 0, none⟩), .agg #[.int .i64 x.k, .string x.n, .int .i64 x.a, .int .i64 x.b, .slice A x.l.length cap], .int .i64 n, .int .i64 b] w0 _
  go_enter Tryz.func108, Tryz.ntmps108
  go_wp2_with fail
  rw [← HW.out]
  go_loopw [14] (fun i wr => ∃ (k : Nat) (p : Pa) (f' : Fm), k ≤ n ∧ i = .int .i64 k ∧ Hid (q = repM (addM x) false (n - k) p f') ∧ Hid (Mn wr S1 g ends w0.heap.size (w0.heap.size + 1) (w0.heap.size + 2) x (.slice A x.l.length cap) f' p) ∧ Hid (Kp S w0 wr) ∧
    Hid (FOk f' ∧ f'.ns.length = f.ns.length + k * posE x ∧ POk f'.ns.length p)) (fun i _ => n - (intOf i).toNat)
  case atStart => exact ⟨0, ⟨0, 0, true⟩, f, Nat.zero_le _, rfl, HQ.out, HM0.out, HK0.out, ⟨hf, by omega, POk.nil _ _⟩⟩
  case round =>
    obtain ⟨k, p, f', hk, rfl, hq, HM, HK, HO⟩ := hrel
    obtain ⟨o1, o2, o3⟩ := HO.out
    obtain ⟨⟨pf, pl, pe⟩, HP⟩ : ∃ y : Pa, Hid (y = p) := ⟨p, rfl⟩
    obtain rfl := HP.out
    obtain ⟨l1, l2, l3⟩ := HM.out.lt
    have hz0 : 0 < wr.heap.size := by omega
    by_cases hlt : k < n
    · have hpx : f'.ns.length + posE x ≤ 25 := by
        rw [o2]
        have h1 := HSZ.out
        have h2 : (k + 1) * posE x ≤ (if b = -1 then n + 1 else n + (b - (n : Int)).toNat) * posE x := Nat.mul_le_mul_right _ (by split <;> omega)
        rw [Nat.succ_mul] at h2; omega
      have HMd : Hid (Mn wr.drew S1 g ends w0.heap.size (w0.heap.size + 1) (w0.heap.size + 2) x (.slice A x.l.length cap) f' ⟨pf, pl, pe⟩) := HM.out.all (beN (Below.refl _ _) 1)
      have HKd : Hid (Kp S w0 wr.drew) := HK.out.drewN 1
      have CAw := Lib.hid (CA.out wr.drew f' _ HKd.out HMd.out o1 hpx)
      obtain ⟨⟨jf, jl, je⟩, HJ⟩ : ∃ y : Pa, Hid (y = (oneM x false ⟨pf, pl, pe⟩ f').2) := ⟨_, rfl⟩
      have CJ : Hid (∀ (w1 : World), Fr w1 S1 g (addM x f').1 ends → Kp S1 wr.drew w1 →
          Calls Tryz.prog 61 #[.pointer (some ⟨g, 0, none⟩), .agg #[.int .u64 (pf : Int), .int .u64 (pl : Int), .bool pe], paV (addM x f').2] w1 fun y w2 => y = .returned (.agg #[.int .u64 (jf : Int), .int .u64 (jl : Int), .bool je]) ∧ Fr w2 S1 g (oneM x false ⟨pf, pl, pe⟩ f').1 ends ∧ Kp S1 w1 w2) := fun w1 hfr hkp =>
        (join_of (opt := false) (p := ⟨pf, pl, pe⟩) hfr (HMd.out.i.kp hkp) o1 o3 hpx (tab_kp (tab_kp hT HKd.out (HBS.out 0 hB0)) hkp HT0.out.2.1)).mono fun y w2 ⟨h1, h2, h3⟩ => ⟨by rw [h1, ← HJ.out]; rfl, h2, h3⟩
      have HR2 : Hid (q = repM (addM x) false (n - (k + 1)) ⟨jf, jl, je⟩ (oneM x false ⟨pf, pl, pe⟩ f').1) := by
        show _ = _; rw [hq.out, show n - k = (n - (k + 1)) + 1 by omega, rep_one, HJ.out]
      have HC : Hid (∀ w', Kp S1 wr.drew w' → ((w'.cell? ⟨w0.heap.size + 2, 0, none⟩ = some (.int .u64 (pf : Int)) ∧ w'.cell? ⟨w0.heap.size + 2, 1, none⟩ = some (.int .u64 (pl : Int)) ∧ w'.cell? ⟨w0.heap.size + 2, 2, none⟩ = some (.bool pe)) ∧ (w'.frozen? ⟨w0.heap.size + 2, 0, none⟩ = false ∧ w'.frozen? ⟨w0.heap.size + 2, 1, none⟩ = false ∧ w'.frozen? ⟨w0.heap.size + 2, 2, none⟩ = false))) := fun w' hk => Bk.threeP (HMd.out.a.kp hk HMd.out.sa)
      obtain ⟨⟨a0, a1, a2⟩, -⟩ := Bk.threeP HM.out.a
      obtain ⟨k0, k1, k2, k3, k4⟩ := Bk.fiveE HM.out.k
      have hkn : (k : Int) < n := by omega
      go_wp2_with fail
      go_region_with (first
        | (go_at_call 62; refine (CAw.out).mono ?_; rintro x9 w1 ⟨rfl, hfr1, hk1⟩; obtain ⟨⟨b0, b1, b2⟩, ⟨f0, f1, f2⟩⟩ := HC.out _ hk1; have Hfr1 := Lib.hid hfr1; have Hk1 := Lib.hid hk1; clear hfr1 hk1)
        | (go_at_call 61; refine (CJ.out _ Hfr1.out Hk1.out).mono ?_; rintro x9 w2 ⟨rfl, hfr2, hk2⟩; obtain ⟨⟨d0, d1, d2⟩, ⟨e0, e1, e2⟩⟩ := HC.out _ (Hk1.out.trans hk2); have Hfr2 := Lib.hid hfr2; have Hk2 := Lib.hid hk2; clear hfr2 hk2))
      all_goals
        have HKS : Hid (Kp S w0 (((w2.setCell ⟨w0.heap.size + 2, 0, none⟩ (.int .u64 (jf : Int))).setCell ⟨w0.heap.size + 2, 1, none⟩ (.int .u64 (jl : Int))).setCell ⟨w0.heap.size + 2, 2, none⟩ (.bool je))) :=
          (HKd.out.trans ((Hk1.out.trans Hk2.out).mono HSS.out)).set3 (HSN.out _ (by omega)) _ _ _
        have HMM := Lib.hid ((HMd.out.kp (Hk1.out.trans Hk2.out) Hfr2.out).set ⟨jf, jl, je⟩)
        have HOO : Hid (FOk (oneM x false ⟨pf, pl, pe⟩ f').1 ∧ (oneM x false ⟨pf, pl, pe⟩ f').1.ns.length = f.ns.length + (k + 1) * posE x ∧ POk (oneM x false ⟨pf, pl, pe⟩ f').1.ns.length ⟨jf, jl, je⟩) := by
          obtain ⟨g1, g2, g3⟩ := one_ok (x := x) (opt := false) o1 o3
          refine ⟨g1, ?_, ?_⟩
          · rw [g2, o2, Nat.succ_mul]; omega
          · rw [g2, HJ.out]; exact g3
        clear Hk1 Hk2 Hfr1 Hfr2 HC CJ CAw HMd HKd HM HK a0 a1 a2 b0 b1 b2 f0 f1 f2 d0 d1 d2 e0 e1 e2 k0 k1 k2 k3 k4
        go_wp2
        go_roundw
        case rel => exact ⟨k + 1, _, _, by omega, by go_num, HR2.out, HMM.out, HKS.out, HOO.out⟩
        case measure => simp [intOf]; omega
    · obtain rfl : k = n := by omega
      have hq' : Hid (q = (f', ⟨pf, pl, pe⟩)) := by show _ = _; rw [hq.out, Nat.sub_self]; rfl
      obtain ⟨⟨a0, a1, a2⟩, -⟩ := Bk.threeP HM.out.a
      obtain ⟨k0, k1, k2, k3, k4⟩ := Bk.fiveE HM.out.k
      by_cases hb1 : b = -1
      · subst hb1
        have hpx : f'.ns.length + posE x ≤ 25 := by
          rw [o2]
          have h1 := HSZ.out
          rw [if_pos rfl, Nat.succ_mul] at h1; omega
        have CAw := CA.out wr f' _ HK.out HM.out o1 hpx
        obtain ⟨⟨af, al, ae⟩, HA2⟩ : ∃ y : Pa, Hid (y = (addM x f').2) := ⟨_, rfl⟩
        have hg0 := add_ok x f' o1
        have hp2 : POk (f'.ns.length + posE x) ⟨af, al, ae⟩ := by rw [HA2.out]; exact hg0.2.2
        have HCA : Hid (Calls Tryz.prog 62 #[.pointer (some ⟨g, 0, none⟩), .agg #[.int .i64 x.k, .string x.n, .int .i64 x.a, .int .i64 x.b, .slice A x.l.length cap]] wr fun y w2 => y = .returned (.agg #[.int .u64 (af : Int), .int .u64 (al : Int), .bool ae]) ∧ Fr w2 S1 g (addM x f').1 ends ∧ Kp S1 wr w2) :=
          CAw.mono fun y w2 ⟨h1, h2, h3⟩ => ⟨by rw [h1, ← HA2.out]; rfl, h2, h3⟩
        clear CAw
        go_wp2_with fail
        refine HCA.out.mono ?_
        rintro x9 w1 ⟨rfl, hfr1, hk1⟩
        have HM1 := Lib.hid (HM.out.kp hk1 hfr1)
        have HK1 : Hid (Kp S w0 w1) := HK.out.trans (hk1.mono HSS.out)
        obtain ⟨S2, HS2⟩ : ∃ S2 : Nat → Prop, Hid (∀ k, S2 k ↔ (S1 k ∨ (w1.heap.size ≤ k ∧ k < w1.heap.size + 1))) := ⟨_, fun k => Iff.rfl⟩
        have HFR2 : Hid (Fr (w1.alloc (.cells #[.int .u64 (af : Int), .int .u64 (al : Int), .bool ae] 100)) S2 g (addM x f').1 ends) := by
          obtain ⟨vn, vb, hv⟩ := HM1.out.fr
          exact ⟨vn, vb, ((hv.also w1.heap.size (w1.heap.size + 1) (Nat.le_refl _)).alloc _).smono fun k hk2 => (HS2.out k).1 hk2⟩
        have HIN2 : Hid (In S2 (w1.alloc (.cells #[.int .u64 (af : Int), .int .u64 (al : Int), .bool ae] 100))) := by
          intro k hk2
          rcases (HS2.out k).1 hk2 with h1 | h1
          · have := HM1.out.i k h1; simp; omega
          · simp; omega
        have HT1 : Hid (Tab (w1.alloc (.cells #[.int .u64 (af : Int), .int .u64 (al : Int), .bool ae] 100))) := (tab_kp (tab_kp hT HK.out (HBS.out 0 hB0)) hk1 HT0.out.2.1).all (box1 _ _)
        have CL := Lib.hid (link_any g (addM x f').1 ends al af S2 _ HFR2.out HIN2.out (pow_25 hp2.2 hpx) (pow_25 hp2.1 hpx) (fun i hi => by rw [hg0.1.1, hg0.2.1]; exact bits_in hp2.2 hi) (fun y hy => by have := hg0.1.2 y hy; rw [hg0.2.1] at this; exact pow_25 this hpx) HT1.out)
        have HPB := Lib.hid (Bk.new w1 100 #[.int .u64 (af : Int), .int .u64 (al : Int), .bool ae])
        have hs2w : S2 w1.heap.size := (HS2.out _).2 (.inr (by omega))
        have hnS : ¬ S w1.heap.size := fun h => by have := HS.out.kp HK1.out _ h; omega
        have hl1 := hk1.size
        clear hk1 hfr1 HCA a0 a1 a2 k0 k1 k2 k3 k4
        go_wp2_with fail
        refine CL.out.mono ?_
        rintro x9 w2 ⟨rfl, hfr2, hk2⟩
        have HPB2 := Lib.hid (HPB.out.kp hk2 hs2w)
        obtain ⟨⟨b0, b1, b2⟩, c0, c1, c2⟩ := Bk.three HPB2.out
        have hs12 : ∀ k, S1 k → S2 k := fun k h => (HS2.out k).2 (.inl h)
        have HA3 := Lib.hid ((HM1.out.a.alloc (.cells #[.int .u64 (af : Int), .int .u64 (al : Int), .bool ae] 100)).kp hk2 (hs12 _ HM1.out.sa))
        have HR3 := Lib.hid ((HM1.out.r.alloc (.cells #[.int .u64 (af : Int), .int .u64 (al : Int), .bool ae] 100)).kp hk2 (hs12 _ HM1.out.sr))
        obtain ⟨⟨a0, a1, a2⟩, -⟩ := Bk.threeP HA3.out
        have HK2 : Hid (Kp S w0 w2) := (HK1.out.alloc (HS.out.kp HK1.out) _).trans (hk2.mono fun k h => hs12 k (HSS.out k h))
        have HFR3 : Hid (Fr (w2.setCell ⟨w1.heap.size, 2, none⟩ (.bool true)) S2 g (linkM (addM x f').1 al af) ends) := by
          obtain ⟨vn, vb, hv⟩ := hfr2
          exact ⟨vn, vb, hv.far _ (fun e => hv.b (e ▸ hs2w)) (fun e => hv.s1 _ e hs2w) (fun e => hv.s2 _ e hs2w)⟩
        have hlk := link_ok (f := (addM x f').1) (a := al) (t := af) hg0.1 (by rw [hg0.2.1]; exact hp2.1)
        obtain ⟨⟨jf, jl, je⟩, HJ⟩ : ∃ y : Pa, Hid (y = (joinM (linkM (addM x f').1 al af) ⟨pf, pl, pe⟩ ⟨af, al, true⟩).2) := ⟨_, rfl⟩
        have hT2 : Tab (w2.setCell ⟨w1.heap.size, 2, none⟩ (.bool true)) := by
          refine tab_kp hT ?_ (HBS.out 0 hB0)
          exact HK2.out.setCell hnS _
        have hll : (linkM (addM x f').1 al af).ns.length = f'.ns.length + posE x := hg0.2.1
        have hbl : (linkM (addM x f').1 al af).bh.length = f'.ns.length + posE x := by rw [hlk.1, hll]
        have CJ0 := fjoin_any g (linkM (addM x f').1 al af) ends ⟨pf, pl, pe⟩ ⟨af, al, true⟩ S2 (w2.setCell ⟨w1.heap.size, 2, none⟩ (.bool true)) HFR3.out ((HIN2.out.kp hk2).le (by simp)) (o3.ok (by omega)) ⟨pow_25 hp2.1 hpx, pow_25 hp2.2 hpx⟩
          (fun i hi => by rw [hbl]; have := bits_in o3.2 hi; omega) (fun y hy => by have := hlk.2 y hy; rw [hll] at this; exact pow_25 this hpx) hT2
        have CJ : Hid (Calls Tryz.prog 61 #[.pointer (some ⟨g, 0, none⟩), .agg #[.int .u64 (pf : Int), .int .u64 (pl : Int), .bool pe], .agg #[.int .u64 (af : Int), .int .u64 (al : Int), .bool true]] (w2.setCell ⟨w1.heap.size, 2, none⟩ (.bool true)) fun y w3 => y = .returned (.agg #[.int .u64 (jf : Int), .int .u64 (jl : Int), .bool je]) ∧ Fr w3 S2 g (joinM (linkM (addM x f').1 al af) ⟨pf, pl, pe⟩ ⟨af, al, true⟩).1 ends ∧ Kp S2 (w2.setCell ⟨w1.heap.size, 2, none⟩ (.bool true)) w3) :=
          CJ0.mono fun y w2 ⟨h1, h2, h3⟩ => ⟨by rw [h1, ← HJ.out]; rfl, h2, h3⟩
        have hfin : Hid (r = ((joinM (linkM (addM x f').1 al af) ⟨pf, pl, pe⟩ ⟨af, al, true⟩).1, ⟨jf, jl, je⟩)) := by
          show _ = _
          rw [HR.out, manM]
          simp only [Int.toNat_natCast, if_pos]
          rw [← HQ.out, hq'.out]
          simp only
          rw [← HA2.out, HJ.out]
        have hneP : w0.heap.size + 2 ≠ w1.heap.size := by omega
        have hneR : w0.heap.size + 1 ≠ w1.heap.size := by omega
        have hs2 := hk2.size
        have hs2' : w1.heap.size < w2.heap.size := by simp at hs2; omega
        clear CJ0 hT2 hlk hll hbl hk2 hfr2 CL HPB HFR2 HT1
        go_wp2_with fail
        refine CJ.out.mono ?_
        rintro x9 w3 ⟨rfl, hfr3, hk3⟩
        have HR4 := Lib.hid ((HR3.out.far (p := ⟨w1.heap.size, 2, none⟩) hneR (.bool true)).kp hk3 (hs12 _ HM1.out.sr))
        obtain ⟨-, z0, z1, z2⟩ := Bk.threeP HR4.out
        obtain ⟨y0, y1, y2⟩ := (Bk.threeP HR4.out).1
        have HK3 : Hid (Kp S w0 w3) := (HK2.out.setCell hnS _).trans (hk3.mono fun k h => hs12 k (HSS.out k h))
        have HFR4 := Lib.hid hfr3
        have hsr := hs12 _ HM1.out.sr
        clear hk3 hfr3
        go_wp2_with fail
        refine pa_ret 8 (w0.heap.size + 1) Tryz.results108 rfl rfl ?_ ?_ ?_
        · rw [hfin.out]; exact Bk.set3 (show Bk w3 (w0.heap.size + 1) 100 #[_, _, _] from HR4.out) _ _ _
        · rw [hfin.out]
          obtain ⟨vn, vb, hv⟩ := HFR4.out
          exact ⟨vn, vb, (hv.far3 _ _ _ (fun e => hv.b (e ▸ hsr)) (fun e => hv.s1 _ e hsr) (fun e => hv.s2 _ e hsr)).smono fun k hk2 => hs12 k (HSS.out k hk2)⟩
        · exact HK3.out.set3 (HSN.out _ (by omega)) _ _ _
      · obtain ⟨d, hd⟩ : ∃ d : Nat, b = (k : Int) + d := ⟨(b - k).toNat, by omega⟩
        subst hd
        have hb2 : (((k : Int) + d) == -1) = false := by simp; omega
        have hb3 : (k : Int) + d - k = d := by omega
        have hdm : d ≤ 1000 := by omega
        have hrd : Hid (r = repM (addM x) true d ⟨pf, pl, pe⟩ f') := by
          show _ = _
          rw [HR.out, manM]
          simp only [Int.toNat_natCast, if_neg hb1, hb3]
          rw [← HQ.out, hq'.out]
        have hsz2 : Hid (f.ns.length + (k + d) * posE x ≤ 25) := by
          have h1 := HSZ.out
          rw [if_neg hb1, hb3, Int.toNat_natCast] at h1
          exact h1
        clear hb hb1 hbm HR
        go_wp2_with fail
        obtain ⟨wo, rfl⟩ : ∃ wo : World, wo = wr := ⟨_, rfl⟩
        clear a0 a1 a2 k0 k1 k2 k3 k4
        go_loopw [11, 42] (fun _ i wr => ∃ (j : Nat) (p : Pa) (f2 : Fm), j ≤ d ∧ i = .int .i64 j ∧ Hid (r = repM (addM x) true (d - j) p f2) ∧ Hid (Mn wr S1 g ends w0.heap.size (w0.heap.size + 1) (w0.heap.size + 2) x (.slice A x.l.length cap) f2 p) ∧ Hid (Kp S w0 wr) ∧
          Hid (FOk f2 ∧ f2.ns.length = f.ns.length + (k + j) * posE x ∧ POk f2.ns.length p)) (fun _ i _ => d - (intOf i).toNat)
        case atStart => exact ⟨0, _, f', Nat.zero_le _, rfl, hrd.out, HM.out, HK.out, ⟨o1, o2, o3⟩⟩
        case round =>
          obtain ⟨j, p, f2, hj, rfl, hr, HM, HK, HO⟩ := hrel
          obtain ⟨q1, q2, q3⟩ := HO.out
          obtain ⟨⟨pf, pl, pe⟩, HP⟩ : ∃ y : Pa, Hid (y = p) := ⟨p, rfl⟩
          obtain rfl := HP.out
          obtain ⟨m1, m2, m3⟩ := HM.out.lt
          obtain ⟨⟨a0, a1, a2⟩, -⟩ := Bk.threeP HM.out.a
          obtain ⟨k0, k1, k2, k3, k4⟩ := Bk.fiveE HM.out.k
          by_cases hlt : j < d
          · have hpx : f2.ns.length + posE x ≤ 25 := by
              rw [q2]
              have h1 := hsz2.out
              have h2 : (k + j + 1) * posE x ≤ (k + d) * posE x := Nat.mul_le_mul_right _ (by omega)
              rw [Nat.succ_mul] at h2; omega
            have CAw := CA.out wr f2 _ HK.out HM.out q1 hpx
            obtain ⟨⟨af, al, ae⟩, HA2⟩ : ∃ y : Pa, Hid (y = (addM x f2).2) := ⟨_, rfl⟩
            have HCA : Hid (Calls Tryz.prog 62 #[.pointer (some ⟨g, 0, none⟩), .agg #[.int .i64 x.k, .string x.n, .int .i64 x.a, .int .i64 x.b, .slice A x.l.length cap]] wr fun y w2 => y = .returned (.agg #[.int .u64 (af : Int), .int .u64 (al : Int), .bool ae]) ∧ Fr w2 S1 g (addM x f2).1 ends ∧ Kp S1 wr w2) :=
              CAw.mono fun y w2 ⟨h1, h2, h3⟩ => ⟨by rw [h1, ← HA2.out]; rfl, h2, h3⟩
            have hjd : (j : Int) < d := by omega
            clear CAw
            go_wp2_with fail
            refine HCA.out.mono ?_
            rintro x9 w1 ⟨rfl, hfr1, hk1⟩
            have HM1 := Lib.hid (HM.out.kp hk1 hfr1)
            have HK1 : Hid (Kp S w0 w1) := HK.out.trans (hk1.mono HSS.out)
            obtain ⟨⟨jf, jl, je⟩, HJ⟩ : ∃ y : Pa, Hid (y = (oneM x true ⟨pf, pl, pe⟩ f2).2) := ⟨_, rfl⟩
            have HM2 := Lib.hid (HM1.out.all (box1 w1 (.cells #[.int .u64 (af : Int), .int .u64 (al : Int), .bool true] 100)))
            have CJ : Hid (Calls Tryz.prog 61 #[.pointer (some ⟨g, 0, none⟩), .agg #[.int .u64 (pf : Int), .int .u64 (pl : Int), .bool pe], .agg #[.int .u64 (af : Int), .int .u64 (al : Int), .bool true]] (w1.alloc (.cells #[.int .u64 (af : Int), .int .u64 (al : Int), .bool true] 100)) fun y w3 => y = .returned (.agg #[.int .u64 (jf : Int), .int .u64 (jl : Int), .bool je]) ∧ Fr w3 S1 g (oneM x true ⟨pf, pl, pe⟩ f2).1 ends ∧ Kp S1 (w1.alloc (.cells #[.int .u64 (af : Int), .int .u64 (al : Int), .bool true] 100)) w3) := by
              have h0 := join_of (x := x) (opt := true) (p := ⟨pf, pl, pe⟩) HM2.out.fr HM2.out.i q1 q3 hpx ((tab_kp (tab_kp hT HK.out (HBS.out 0 hB0)) hk1 HT0.out.2.1).all (box1 w1 (.cells #[.int .u64 (af : Int), .int .u64 (al : Int), .bool true] 100)))
              rw [← HA2.out] at h0
              exact h0.mono fun y w2 ⟨h1, h2, h3⟩ => ⟨by rw [h1, ← HJ.out]; rfl, h2, h3⟩
            have HR2 : Hid (r = repM (addM x) true (d - (j + 1)) ⟨jf, jl, je⟩ (oneM x true ⟨pf, pl, pe⟩ f2).1) := by
              show _ = _; rw [hr.out, show d - j = (d - (j + 1)) + 1 by omega, rep_one, HJ.out]
            have hl1 := hk1.size
            have hlw : w0.heap.size + 2 < w1.heap.size := by omega
            obtain ⟨⟨b0, b1, b2⟩, f0, f1, f3⟩ := Bk.threeP HM1.out.a
            clear hk1 hfr1 HCA a0 a1 a2 k0 k1 k2 k3 k4
            go_wp2_with fail
            refine CJ.out.mono ?_
            rintro x9 w3 ⟨rfl, hfr3, hk3⟩
            have HM3 := HM2.out.kp hk3 hfr3
            obtain ⟨⟨c0, c1, c2⟩, g0, g1, g2⟩ := Bk.threeP HM3.a
            have HMM := Lib.hid (HM3.set ⟨jf, jl, je⟩)
            have HKS : Hid (Kp S w0 (((w3.setCell ⟨w0.heap.size + 2, 0, none⟩ (.int .u64 (jf : Int))).setCell ⟨w0.heap.size + 2, 1, none⟩ (.int .u64 (jl : Int))).setCell ⟨w0.heap.size + 2, 2, none⟩ (.bool je))) :=
              ((HK1.out.alloc (HS.out.kp HK1.out) _).trans (hk3.mono HSS.out)).set3 (HSN.out _ (by omega)) _ _ _
            have HOO : Hid (FOk (oneM x true ⟨pf, pl, pe⟩ f2).1 ∧ (oneM x true ⟨pf, pl, pe⟩ f2).1.ns.length = f.ns.length + (k + (j + 1)) * posE x ∧ POk (oneM x true ⟨pf, pl, pe⟩ f2).1.ns.length ⟨jf, jl, je⟩) := by
              obtain ⟨t1, t2, t3⟩ := one_ok (x := x) (opt := true) q1 q3
              refine ⟨t1, ?_, ?_⟩
              · rw [t2, q2, ← Nat.add_assoc, Nat.succ_mul]; omega
              · rw [t2, HJ.out]; exact t3
            clear HM3 hk3 hfr3 CJ HM2 HM1 HK1 HM HK
            go_wp2_with fail
            go_roundw
            case rel => exact ⟨j + 1, _, _, by omega, by go_num, HR2.out, HMM.out, HKS.out, HOO.out⟩
            case measure => simp [intOf]; omega
          · obtain rfl : j = d := by omega
            have hfin : Hid (r = (f2, ⟨pf, pl, pe⟩)) := by show _ = _; rw [hr.out, Nat.sub_self]; rfl
            obtain ⟨⟨y0, y1, y2⟩, z0, z1, z2⟩ := Bk.threeP HM.out.r
            have hsr := HM.out.sr
            go_wp2_with fail
            refine pa_ret 8 (w0.heap.size + 1) Tryz.results108 rfl rfl ?_ ?_ ?_
            · rw [hfin.out]; exact Bk.set3 (show Bk wr (w0.heap.size + 1) 100 #[_, _, _] from HM.out.r) _ _ _
            · rw [hfin.out]
              obtain ⟨vn, vb, hv⟩ := HM.out.fr
              exact ⟨vn, vb, (hv.far3 _ _ _ (fun e => hv.b (e ▸ hsr)) (fun e => hv.s1 _ e hsr) (fun e => hv.s2 _ e hsr)).smono fun k hk2 => HSS.out k hk2⟩
            · exact HK.out.set3 (HSN.out _ (by omega)) _ _ _
end Go.Proofs.YtkbileabkfccgaaGreatDoor
