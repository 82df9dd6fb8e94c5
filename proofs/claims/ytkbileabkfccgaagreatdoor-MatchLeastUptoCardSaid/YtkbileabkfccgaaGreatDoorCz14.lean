/- MaU, MaV, MaW, merged. -/
import Derived.Test.YtkbileabkfccgaaGreatDoorCz13
import Derived.Test.YtkbileabkfccgaaGreatDoorCz09
import Derived.Sort.OwnSorted

/- match: merged, whole. -/
namespace Go.Proofs.YtkbileabkfccgaaGreatDoor
open Go.RowKit

/-- states by one letter more -/
def oneS (t : Tb) (s : List Int × Nat) (k : Nat) : List Int × Nat := ((numS (q1 t s.1 k) t.sets.length).2, (numS (q1 t s.1 k) t.sets.length).1.length)
def passM (t : Tb) (s : List Int × Nat) : List Int × Nat := (List.range t.ls.length).foldl (oneS t) s
def mergeF (t : Tb) : Nat → Nat → List Int × Nat → List Int
  | 0, _, s => s.1
  | f + 1, b, s => if b < s.2 then mergeF t f s.2 (passM t s) else s.1
def startS (t : Tb) : List Int × Nat := ((numS (q0 t) t.sets.length).2, (numS (q0 t) t.sets.length).1.length)
/-- the state of each set -/
def mergeM (t : Tb) : List Int := mergeF t (t.sets.length + 1) 0 (startS t)
def SOk (t : Tb) (s : List Int × Nat) : Prop := s.1.length = t.sets.length ∧ s.2 ≤ t.sets.length
theorem oneS_ok (t : Tb) (s : List Int × Nat) (k : Nat) : SOk t (oneS t s k) := ⟨numS_len _ _, numS_le _ _⟩
theorem startS_ok (t : Tb) : SOk t (startS t) := ⟨numS_len _ _, numS_le _ _⟩
theorem range_take_succ (n k : Nat) (h : k < n) : (List.range n).take (k + 1) = (List.range n).take k ++ [k] := by
  rw [List.take_succ_eq_append_getElem (by simpa using h)]; simp
theorem pass_ok (t : Tb) (s : List Int × Nat) (h : SOk t s) (k : Nat) : SOk t (((List.range t.ls.length).take k).foldl (oneS t) s) := by
  induction k with
  | zero => exact h
  | succ k ih =>
    by_cases hk : k < t.ls.length
    · rw [range_take_succ _ _ hk, List.foldl_append]; exact oneS_ok t _ k
    · rw [List.take_of_length_le (by simp; omega)]
      rw [List.take_of_length_le (by simp; omega)] at ih
      exact ih
theorem entM1 : Enters Tryz.prog 113 := enters Tryz.func113 (by kernel_rfl) (by kernel_rfl)
theorem entM2 : Enters Tryz.prog 114 := enters Tryz.func114 (by kernel_rfl) (by kernel_rfl)

/-- what is handed back is new, and holds l; what was there is as it was -/
def MakesI (w : World) (l : List Int) (x : Ending) (w' : World) : Prop := ∃ v, x = .returned v ∧ w'.ownsRow w.heap.size 3 1 v l.length (itC l) ∧ Below w.heap.size w w'

set_option maxRecDepth 100000 in
set_option maxHeartbeats 3200000 in
theorem merged_any (t : Tb) (gt B : Nat) (w : World) (h : TbR w B gt t) (hB : B ≤ w.heap.size) (hok : t.Ok) :
    Calls Tryz.prog 68 #[.pointer (some ⟨gt, 0, none⟩)] w (MakesI w (mergeM t)) := by
  obtain ⟨w0, rfl⟩ : ∃ w0 : World, w0 = w := ⟨_, rfl⟩
  obtain ⟨r, HR⟩ : ∃ r, Hid (r = mergeM t) := ⟨_, rfl⟩
  rw [← HR.out]
  have HH := Lib.hid h
  obtain ⟨h0, g, vl, vs, vt, h1, h2, h3, h4, h5, h6, h7, h8, h9⟩ := h
  obtain ⟨A1, c1, rfl⟩ := h7.form
  obtain ⟨A2, c2, rfl⟩ := h8.form
  have hgw : gt < w0.heap.size := by omega
  have HOK := Lib.hid hok
  have hnl : t.sets.length ≤ 1000000000000 := by have := hok.2.2.2.2.1; omega
  have hls : t.ls.length ≤ 100000000 := hok.2.2.2.2.2
  have HB1 := Lib.hid (box1 w0 (.cells #[.pointer (some ⟨gt, 0, none⟩)] 58))
  have HBX := Lib.hid (Bk.new w0 58 #[.pointer (some ⟨gt, 0, none⟩)])
  have C0 := Lib.hid (numbered_any (q0 t) t.sets.length 113 #[.pointer (some ⟨w0.heap.size, 0, none⟩)] (w0.alloc (.cells #[.pointer (some ⟨gt, 0, none⟩)] 58)) hnl
    ⟨entM1, fun i hi w' hb => by
      rw [two_args]
      exact merged1_any t gt i B ⟨w0.heap.size, 0, none⟩ w' ((HH.out.below (HB1.out.mono hB)).below (hb.mono (by simp; omega))) (by have := hb.size; simp at this; omega) HOK.out hi (by rw [hb.cell (p := ⟨w0.heap.size, 0, none⟩) (by simp)]; exact HBX.out.cell 0) (by have := hb.size; simp at this; show w0.heap.size < _; omega)⟩)
  clear h1 h4 h5 h6 h7 h8 h9 hok
  obtain ⟨⟨st0, cn0⟩, HST⟩ : ∃ y, Hid (y = startS t) := ⟨_, rfl⟩
  have hst : (numS (q0 t) t.sets.length).2 = st0 ∧ (numS (q0 t) t.sets.length).1.length = cn0 := by
    have := HST.out; unfold startS at this; simp only [Prod.mk.injEq] at this; exact ⟨this.1.symm, this.2.symm⟩
  rw [hst.1, hst.2] at C0
  have HSK0 : Hid (SOk t (st0, cn0)) := by show SOk _ _; rw [HST.out]; exact startS_ok t
  clear hst
  go_enter Tryz.func68, Tryz.ntmps68
  go_wp2_with fail
  refine C0.out.mono ?_
  rintro e w1 ⟨v, rfl, hown, hb1⟩
  have hs1 : w0.heap.size + 1 ≤ w1.heap.size := by have := hb1.size; simpa using this
  have hlt1 : w0.heap.size < w1.heap.size := by omega
  have HBX1 := Lib.hid (HBX.out.all hb1)
  have HBW1 : Hid (Below w0.heap.size w0 w1) := HB1.out.trans (hb1.mono (by simp))
  have hne1 : Value.ownBlock v ≠ some w1.heap.size := fun e => by have := (hown.lt _ e).2; omega
  obtain ⟨A3, c3, rfl⟩ := own_form hown
  have HO1 := Lib.hid (own_mono (base' := w0.heap.size) (World.ownsRow.alloc hown (.cells #[.slice A3 st0.length c3] 82)) (by simp))
  have HN1 := Lib.hid hne1
  clear hown hb1 C0 hne1
  go_wp2_with fail
  have HT3 := Lib.hid (Bk.new w1 82 #[.slice A3 st0.length c3])
  have HBX2 := Lib.hid (HBX1.out.alloc (.cells #[.slice A3 st0.length c3] 82))
  have HBW2 : Hid (Below w0.heap.size w0 (w1.alloc (.cells #[.slice A3 st0.length c3] 82))) := HBW1.out.alloc (by omega) _
  go_loopw [4, 5, 6, 26] (fun c b _ _ wr => ∃ (f before : Nat) (s : List Int × Nat) (vs : Value), c = .int .i64 (s.2 : Int) ∧ b = .int .i64 (before : Int) ∧ before ≤ t.sets.length ∧ Hid (t.sets.length + 1 - before ≤ f ∧ r = mergeF t f before s ∧ SOk t s) ∧
    Hid (Bk wr w0.heap.size 58 #[.pointer (some ⟨gt, 0, none⟩)] ∧ Bk wr w1.heap.size 82 #[vs] ∧ wr.ownsRow w0.heap.size 3 1 vs s.1.length (itC s.1) ∧ vs.ownBlock ≠ some w1.heap.size) ∧ Hid (Below w0.heap.size w0 wr)) (fun _ b _ _ _ => t.sets.length + 1 - (intOf b).toNat)
  case atStart => exact ⟨t.sets.length + 1, 0, (st0, cn0), _, rfl, rfl, Nat.zero_le _, ⟨by omega, by rw [HST.out]; exact HR.out, HSK0.out⟩, ⟨HBX2.out, HT3.out, HO1.out, HN1.out⟩, HBW2.out⟩
  case round =>
    obtain ⟨f, before, s, vs, rfl, rfl, hbn, HF, HM, HB⟩ := hrel
    obtain ⟨m1, m2, m3, m4⟩ := HM.out
    obtain ⟨A4, c4, rfl⟩ := own_form m3
    have x0 : wr.cell? ⟨w0.heap.size, 0, none⟩ = some (.pointer (some ⟨gt, 0, none⟩)) := m1.cell 0
    have x1 : wr.cell? ⟨w1.heap.size, 0, none⟩ = some (.slice A4 s.1.length c4) := m2.cell 0
    have hl0 := m1.lt
    have hl1 := m2.lt
    have y1 : wr.cell? ⟨gt, 1, none⟩ = some (.slice A1 t.ls.length c1) := (HB.out.cell (p := ⟨gt, 1, none⟩) hgw).trans h2
    by_cases hlt : before < s.2
    · have hltI : ((before : Int) < (s.2 : Int)) := by omega
      obtain ⟨f', hf'⟩ : ∃ f', f = f' + 1 := ⟨f - 1, by have := HF.out.1; omega⟩
      have HP : Hid (r = mergeF t f' s.2 (passM t s)) := by show _ = _; rw [HF.out.2.1, hf', mergeF, if_pos hlt]
      have HFL : Hid (t.sets.length + 1 - s.2 ≤ f') := by have := HF.out.1; show _ ≤ _; omega
      have HSK := Lib.hid HF.out.2.2
      have HM0 := Lib.hid (And.intro m1 (And.intro m2 (And.intro m3 m4)))
      have hs2 : s.2 ≤ t.sets.length := HF.out.2.2.2
      clear m1 m2 m3 m4 HM HF hf'
      go_wp2_with fail
      obtain ⟨wo, rfl⟩ : ∃ wo : World, wo = wr := ⟨_, rfl⟩
      clear x1 hl0 hl1 x0 y1
      go_loopw [4, 6, 26] (fun c _ i wr => ∃ (k : Nat) (s2 : List Int × Nat) (vs : Value), k ≤ t.ls.length ∧ i = .int .i64 (k : Int) ∧ c = .int .i64 (s2.2 : Int) ∧ Hid (s2 = ((List.range t.ls.length).take k).foldl (oneS t) s) ∧
        Hid (Bk wr w0.heap.size 58 #[.pointer (some ⟨gt, 0, none⟩)] ∧ Bk wr w1.heap.size 82 #[vs] ∧ wr.ownsRow w0.heap.size 3 1 vs s2.1.length (itC s2.1) ∧ vs.ownBlock ≠ some w1.heap.size) ∧ Hid (Below w0.heap.size w0 wr)) (fun _ _ i _ => t.ls.length - (intOf i).toNat)
      case atStart => exact ⟨0, s, _, Nat.zero_le _, rfl, rfl, rfl, HM0.out, HB.out⟩
      case round =>
        obtain ⟨k, s2, vs, hk, rfl, rfl, hS2, HM, HB⟩ := hrel
        obtain ⟨m1, m2, m3, m4⟩ := HM.out
        obtain ⟨A5, c5, rfl⟩ := own_form m3
        have x0 : wr.cell? ⟨w0.heap.size, 0, none⟩ = some (.pointer (some ⟨gt, 0, none⟩)) := m1.cell 0
        have x1 : wr.cell? ⟨w1.heap.size, 0, none⟩ = some (.slice A5 s2.1.length c5) := m2.cell 0
        have hl0 := m1.lt
        have hl1 := m2.lt
        have y2 : wr.cell? ⟨gt, 2, none⟩ = some (.slice A2 t.sets.length c2) := (HB.out.cell (p := ⟨gt, 2, none⟩) hgw).trans h3
        have hgwr : gt < wr.heap.size := by omega
        have hok2 : SOk t s2 := by rw [hS2.out]; exact pass_ok t s HSK.out k
        by_cases hlt2 : k < t.ls.length
        · have hkI : (k : Int) < (t.ls.length : Int) := by omega
          have hbk := Bk.new wr 3 #[.int .i64 (k : Int)]
          have hbb := box1 wr (.cells #[.int .i64 (k : Int)] 3)
          have n1 := m1.all hbb
          have n2 := m2.all hbb
          have n3 := Rd.own (World.ownsRow.alloc m3 (.cells #[.int .i64 (k : Int)] 3))
          have C := Lib.hid (numbered_any (q1 t s2.1 k) t.sets.length 114 #[.pointer (some ⟨w0.heap.size, 0, none⟩), .pointer (some ⟨wr.heap.size, 0, none⟩), .pointer (some ⟨w1.heap.size, 0, none⟩)] (wr.alloc (.cells #[.int .i64 (k : Int)] 3)) hnl
            ⟨entM2, fun i hi w' hb => by
              have hargs : (#[Value.int .i64 (i : Int)] ++ #[.pointer (some ⟨w0.heap.size, 0, none⟩), .pointer (some ⟨wr.heap.size, 0, none⟩), .pointer (some ⟨w1.heap.size, 0, none⟩)] : Array Value) = #[.int .i64 (i : Int), .pointer (some ⟨w0.heap.size, 0, none⟩), .pointer (some ⟨wr.heap.size, 0, none⟩), .pointer (some ⟨w1.heap.size, 0, none⟩)] := by simp
              rw [hargs]
              have hz : wr.heap.size + 1 ≤ w'.heap.size := by have := hb.size; simpa using this
              refine merged2_any t gt i k B s2.1 (.slice A5 s2.1.length c5) ⟨w0.heap.size, 0, none⟩ ⟨wr.heap.size, 0, none⟩ ⟨w1.heap.size, 0, none⟩ w' ((HH.out.below ((HB.out.trans (hbb.mono HB.out.size)).mono hB)).below (hb.mono (by simp; omega))) (by omega) HOK.out hi hlt2 (Is.mono (Is.below n3 hb) hb.size) hok2.1 ?_ ?_ ?_ ?_ ?_ ?_
              · exact (n1.all hb).cell 0
              · show w0.heap.size < _; omega
              · exact (hbk.all hb).cell 0
              · show wr.heap.size < _; omega
              · exact (n2.all hb).cell 0
              · show w1.heap.size < _; omega⟩)
          obtain ⟨⟨st1, cn1⟩, HS1⟩ : ∃ y, Hid (y = oneS t s2 k) := ⟨_, rfl⟩
          have hst : (numS (q1 t s2.1 k) t.sets.length).2 = st1 ∧ (numS (q1 t s2.1 k) t.sets.length).1.length = cn1 := by
            have := HS1.out; unfold oneS at this; simp only [Prod.mk.injEq] at this; exact ⟨this.1.symm, this.2.symm⟩
          rw [hst.1, hst.2] at C
          have HS3 : Hid ((st1, cn1) = ((List.range t.ls.length).take (k + 1)).foldl (oneS t) s) := by show _ = _; rw [range_take_succ _ _ hlt2, List.foldl_append, ← hS2.out, HS1.out]; rfl
          have HN1 := Lib.hid n1
          have HN2 := Lib.hid n2
          clear hst hok2 m1 m2 m3 m4 HM n1 n2 n3 hbk
          go_wp2_with fail
          refine C.out.mono ?_
          rintro e w2 ⟨v2, rfl, hown, hb2⟩
          have b1 := HN1.out.all hb2
          have b2 := HN2.out.all hb2
          have z0 := b2.cell 0
          have z1 := b2.frozen 0
          have hn2 : v2.ownBlock ≠ some w1.heap.size := fun e => by have := (hown.lt _ e).1; simp at this; omega
          obtain ⟨A6, c6, rfl⟩ := own_form hown
          have HMM : Hid (Bk (w2.setCell ⟨w1.heap.size, 0, none⟩ (.slice A6 st1.length c6)) w0.heap.size 58 #[.pointer (some ⟨gt, 0, none⟩)] ∧ Bk (w2.setCell ⟨w1.heap.size, 0, none⟩ (.slice A6 st1.length c6)) w1.heap.size 82 #[.slice A6 st1.length c6] ∧
              (w2.setCell ⟨w1.heap.size, 0, none⟩ (.slice A6 st1.length c6)).ownsRow w0.heap.size 3 1 (.slice A6 st1.length c6) st1.length (itC st1) ∧ (Value.slice A6 st1.length c6).ownBlock ≠ some w1.heap.size) := by
            refine ⟨b1.far (p := ⟨w1.heap.size, 0, none⟩) (by show w0.heap.size ≠ w1.heap.size; omega) _, ?_, own_cell (own_mono hown (by have := HB.out.size; simp; omega)) _ hn2, hn2⟩
            have := b2.set 0 (.slice A6 st1.length c6)
            simpa using this
          have HBB : Hid (Below w0.heap.size w0 (w2.setCell ⟨w1.heap.size, 0, none⟩ (.slice A6 st1.length c6))) := ((HB.out.trans (hbb.mono HB.out.size)).trans (hb2.mono (by simp; omega))).setCell (p := ⟨w1.heap.size, 0, none⟩) (by show _ ≤ w1.heap.size; omega) _
          clear b1 b2 hown hb2 C hn2 HB hbb
          go_wp2_with fail
          go_roundw
          case rel => exact ⟨k + 1, (st1, cn1), _, by omega, by go_num, rfl, HS3.out, HMM.out, HBB.out⟩
          case measure => simp [intOf]; omega
        · have hfin : Hid (s2 = passM t s) := by show _ = _; rw [hS2.out, List.take_of_length_le (by simp; omega)]; rfl
          have HM2 := Lib.hid (And.intro m1 (And.intro m2 (And.intro m3 m4)))
          have hok3 := Lib.hid hok2
          clear m1 m2 m3 m4 HM hok2
          go_wp2_with fail
          go_roundw
          case rel => exact ⟨f', s.2, s2, _, rfl, rfl, hs2, ⟨HFL.out, by rw [hfin.out]; exact HP.out, hok3.out⟩, HM2.out, HB.out⟩
          case measure => simp [intOf]; omega
    · have hltI : ¬ ((before : Int) < (s.2 : Int)) := by omega
      have hfin : Hid (r = s.1) := by
        show _ = _; rw [HF.out.2.1]
        cases f with
        | zero => rfl
        | succ f => rw [mergeF, if_neg hlt]
      have HIS := Lib.hid m3
      clear m1 m2 m3 m4 HM HF
      go_wp2_with fail
      go_ret
      exact ⟨_, rfl, by rw [hfin.out]; exact HIS.out, HB.out⟩
end Go.Proofs.YtkbileabkfccgaaGreatDoor

/- match: edges in order of their types. -/
namespace Go.Proofs.YtkbileabkfccgaaGreatDoor
open Go.RowKit Go.Shelf Go.Lib Go.Sort

theorem lt_of_ne {a b : ByteArray} (h : Op.bytesLess a.toList b.toList = false) (k : (!a.toList == b.toList) = true) : ltS b a = true := by
  by_cases e : ltS b a = true
  · exact e
  · have e1 := ltS_tri (a := a) (b := b) h (by simpa using e)
    subst e1
    simp at k
def cmpS (a b : ByteArray) : Int := if ltS a b then -1 else if ltS b a then 1 else 0
set_option maxRecDepth 100000 in
theorem cmpNanS_any (a : ByteArray) (w : World) : Calls Tryz.prog 121 #[.string a] w fun e w' => e = .returned (.bool false) ∧ w = w' := by
  go_enter Tryz.func121, Tryz.ntmps121
  go_wp2
  go_ret
  exact ⟨by simp, rfl⟩
set_option maxRecDepth 100000 in
theorem cmpS_any (a b : ByteArray) (w : World) : Calls Tryz.prog 120 #[.string a, .string b] w fun e w' => e = .returned (.int .i64 (cmpS a b)) ∧ w = w' := by
  go_enter Tryz.func120, Tryz.ntmps120
  go_wp2_with fail
  refine (cmpNanS_any _ _).mono ?_
  rintro e w1 ⟨rfl, rfl⟩
  go_wp2_with fail
  refine (cmpNanS_any _ _).mono ?_
  rintro e w1 ⟨rfl, rfl⟩
  go_wp2
  · rename_i h
    go_ret
    exact ⟨ret_int (by simp [cmpS, ltS, h]), rfl⟩
  · rename_i k
    have h : Op.bytesLess a.toList b.toList = false := by assumption
    go_ret
    exact ⟨ret_int (by unfold cmpS ltS; rw [if_neg (by simp [h]), if_pos]; simpa [ltS] using lt_of_ne h k), rfl⟩
  · rename_i h k
    have e : a = b := (eqS_iff a b).1 (by simpa using k)
    subst e
    go_ret
    exact ⟨ret_int (by simp [cmpS, ltS_irr]), rfl⟩

set_option maxRecDepth 100000 in
theorem byType_any (x y : ByteArray) (n m : Int) (W : World) : Calls Tryz.prog 78 #[.agg #[.string x, .int .i64 n], .agg #[.string y, .int .i64 m]] W fun e w' => e = .returned (.int .i64 (cmpS x y)) ∧ ∃ q os', w' = grow (W.drewN q) os' := by
  have hcon := fun W' => cmpS_any x y W'
  generalize cmpS x y = r at hcon ⊢
  go_enter Tryz.func78, Tryz.ntmps78
  go_wp2_with (go_at_call 120; refine (hcon _).mono ?_; rintro e w' ⟨rfl, rfl⟩)
  go_ret
  exact ⟨rfl, 0, _, by rw [alloc_eq_grow, alloc_eq_grow, grow_grow]; rfl⟩

/-! ## the order -/
instance : Inhabited ByteArray := ⟨ByteArray.empty⟩
theorem ltOf_cmpS (x y : ByteArray) : ltOf cmpS x y = ltS x y := by
  unfold ltOf cmpS
  by_cases h : ltS x y = true
  · simp [h]
  · by_cases k : ltS y x = true <;> simp [h, k]
theorem swoS : SWO (ltOf cmpS) where
  irrefl x := by rw [ltOf_cmpS]; exact ltS_irr x
  trans x y z h k := by rw [ltOf_cmpS] at *; exact ltS_trans h k
  ntrans x y z h k := by
    rw [ltOf_cmpS] at *
    rw [← Bool.not_eq_true]
    intro e
    by_cases h1 : ltS y x = true
    · rw [ltS_trans h1 e] at k; cases k
    · have := ltS_tri h (by simpa using h1); subst this; rw [e] at k; cases k
theorem totS (x y : ByteArray) (h : ltOf cmpS x y = false) (k : ltOf cmpS y x = false) : x = y := by rw [ltOf_cmpS] at *; exact ltS_tri h k

/-- the cells of an edge whose type it is, the rest by f -/
def encF (f : ByteArray → Int) (t : ByteArray) : List Value := [.string t, .int .i64 (f t)]
theorem encF_len (f : ByteArray → Int) (t : ByteArray) : (encF f t).length = 2 := rfl
theorem encF_one (f : ByteArray → Int) (t : ByteArray) : ∀ v ∈ encF f t, v.oneCell' = true := by intro v hv; simp [encF] at hv; rcases hv with rfl | rfl <;> rfl
def edF (f : ByteArray → Int) (l : List ByteArray) : List Ed := l.map fun t => ⟨t, f t⟩
theorem cmpLaysF (f : ByteArray → Int) (blk off size : Nat) (w : World) : CmpLays Tryz.prog 78 #[] (encF f) 2 cmpS blk off size w :=
  fun _ _ _ _ x y => byType_any x y _ _ _

theorem flat_edF (f : ByteArray → Int) (l : List ByteArray) : (flatK (encF f) 2 l.toArray).toList = edC (edF f l) := by
  apply List.ext_getElem?
  intro j
  have hl : (edC (edF f l)).length = l.length * 2 := by rw [edC_len]; simp [edF]
  by_cases hj : j < l.length * 2
  · have hq : j / 2 < l.length := by omega
    have hg := edC_get (edF f l) (j / 2) (by simpa [edF] using hq)
    have hx : (flatK (encF f) 2 l.toArray).toList[j]? = some ((encF f l[j / 2])[j % 2]!) := by
      simp [flatK, hj, hq]
    rw [hx]
    rcases Nat.mod_two_eq_zero_or_one j with h | h
    · have h1 := hg.1
      rw [show j / 2 * 2 = j by omega] at h1
      rw [h1]
      simp [encF, edF, h]
    · have h1 := hg.2
      rw [show j / 2 * 2 + 1 = j by omega] at h1
      rw [h1]
      simp [encF, edF, h]
  · rw [List.getElem?_eq_none (by simp; omega), List.getElem?_eq_none (by omega)]

theorem holdsK_of {w : World} {g : Nat} {cur : Array Value} {e : TypeId} {f : ByteArray → Int} {l : List ByteArray} (hb : w.heap[g]? = some (.cells cur e (0, 0))) (ht : cur.toList.take (l.length * 2) = edC (edF f l)) : HoldsK (encF f) 2 w g 0 l.toArray := by
  intro j hj
  have hj' : j < l.length * 2 := by simpa using hj
  refine ⟨?_, by simp [World.frozen?, hb]⟩
  have h1 : (cur.toList.take (l.length * 2))[j]? = (flatK (encF f) 2 l.toArray).toList[j]? := by rw [ht, flat_edF]
  rw [List.getElem?_take_of_lt hj'] at h1
  simp only [World.cell?, hb, Nat.zero_add]
  simp only [Option.isSome_none, Bool.false_eq_true, if_false]
  rw [← Array.getElem?_toList, h1, Array.getElem?_toList]
  simp only [id]
  rw [getElem!_def]
  have : j < (flatK (encF f) 2 l.toArray).size := by simpa using hj
  rw [Array.getElem?_eq_getElem this]

theorem heap_sortedK {w : World} {g n : Nat} {os : Array Obj} {cur : Array Value} {e : TypeId} {fr : Nat × Nat} (F : Array Value) (hb : w.heap[g]? = some (.cells cur e fr)) :
    (grow (putRow id (Sort.ahead w n) g 0 F) os).heap[g]? = some (.cells (putCells id 0 F cur) e fr) := by
  have hg : g < w.heap.size := (Array.getElem?_eq_some_iff.1 hb).1
  rw [heap_grow_old _ _ (by simpa using hg)]
  simp [putRow, mapBlock, Sort.ahead, Array.getElem?_modify, hb, onCells]
theorem grownBy_sortedK {w : World} {g n : Nat} {os : Array Obj} (F : Array Value) : w.grownBy (grow (putRow id (Sort.ahead w n) g 0 F) os) (some g) := by
  refine ⟨rfl, rfl, rfl, by simp, fun k hk hne => ?_⟩
  rw [heap_grow_old _ _ (by simpa using hk)]
  have : g ≠ k := fun e => hne (by rw [e])
  simp [putRow, mapBlock, Sort.ahead, Array.getElem?_modify, this]
theorem take_putCellsK (cur F : Array Value) (h : F.size ≤ cur.size) : (putCells id 0 F cur).toList.take F.size = F.toList := by
  apply List.ext_getElem?
  intro j
  by_cases hj : j < F.size
  · rw [List.getElem?_take_of_lt hj, Array.getElem?_toList]
    simp [putCells, hj, show j < cur.size by omega]
  · rw [List.getElem?_take_eq_none (by omega), List.getElem?_eq_none (by simp; omega)]

/-- types in order -/
def ordT (l : List ByteArray) : List ByteArray := l.mergeSort fun x y => !(ltS y x)
theorem ordT_len (l : List ByteArray) : (ordT l).length = l.length := by simp [ordT]

/-- slices.SortFunc on edges of the call's own, whose types tell the rest -/
theorem sortEd_any (f : ByteArray → Int) (l : List ByteArray) (e : TypeId) (base : Nat) (v : Value) (w : World) (ho : w.ownsRow base e 2 v l.length (edC (edF f l))) (hl : l.length < 4611686018427387904) :
    Calls Tryz.prog 115 #[v, .func (.func 78) #[] #[]] w fun r w' =>
      r = .returned (.tuple #[]) ∧ w'.ownsRow base e 2 v l.length (edC (edF f (ordT l))) ∧ w.grownBy w' v.ownBlock := by
  rcases ho.2 with ⟨rfl, h0⟩ | ⟨g, cap, cur, rfl, hbase, hb, h1, h2, h3, h4⟩
  · have hS := AnyF.slices_SortFunc_none (P := Tryz.prog) (ρ := Tryz.laysSf_ren) Tryz.laysSf none 0 (.func (.func 78) #[] #[]) w
    have hnil : l = [] := List.eq_nil_of_length_eq_zero h0
    subst hnil
    refine Calls.mono hS ?_
    rintro r w' ⟨rfl, rfl⟩
    exact ⟨rfl, by simpa [ordT, edF] using ho, World.grownBy.refl _ _⟩
  · have eg : ∀ args w, (callFunc 78 args).run Tryz.prog w = .ok (.enter 78 args) w := enters_of Tryz.func78 (by kernel_rfl) rfl
    have hS := AnyQ.slices_SortFunc_total Tryz.laysSf 2 Tryz.isAgg53 Tryz.sizeOf53 (encF f) (encF_len f) (encF_one f) cmpS swoS 78 #[] g 0 cap l.toArray w eg (cmpLaysF f g 0 _ w)
      (holdsK_of hb h4) (Array.getElem?_eq_some_iff.1 hb).1 (by simpa using hl) totS
    have hsz : l.toArray.size = l.length := by simp
    rw [hsz] at hS
    refine Calls.mono hS ?_
    rintro r w' ⟨rfl, n, os, rfl⟩
    have hm : (l.toArray.toList.mergeSort fun x y => !(ltOf cmpS) y x) = ordT l := by
      unfold ordT; congr 1; funext x y; rw [ltOf_cmpS]
    rw [hm]
    have hF : (flatK (encF f) 2 (ordT l).toArray).size = l.length * 2 := by simp [ordT_len]
    refine ⟨rfl, ⟨by rw [edC_len]; simp [edF, ordT_len], .inr ⟨g, cap, _, rfl, hbase, heap_sortedK _ hb, h1, h2, by simp [putCells, h3], ?_⟩⟩, grownBy_sortedK _⟩
    rw [← flat_edF, ← hF]
    exact take_putCellsK _ _ (by omega)
end Go.Proofs.YtkbileabkfccgaaGreatDoor

/- match: the edges of a state of a table. -/
namespace Go.Proofs.YtkbileabkfccgaaGreatDoor
open Go.RowKit Go.Shelf Go.Lib Go.Sort

theorem infoEdg : (Tryz.prog.info? 53).map (fun i => (i.zero, i.size, i.bytes)) = some (some (.agg #[.string ByteArray.empty, .int .i64 0]), 2, 24) := by kernel_rfl

/-- the edges by one letter -/
def pieceE (t : Tb) (i : Nat) (ss : List Int) (k : Nat) : List Ed := if 0 ≤ toM t i k then (match t.ls[k]? with | some L => L.ts.map fun x => ⟨x, ss.getD (toM t i k).toNat 0⟩ | none => []) else []
/-- the edges, letter by letter -/
def rawE (t : Tb) (i : Nat) (ss : List Int) : List Ed := (List.range t.ls.length).flatMap (pieceE t i ss)
def rawK (t : Tb) (i : Nat) (ss : List Int) (k : Nat) : List Ed := ((List.range t.ls.length).take k).flatMap (pieceE t i ss)
theorem rawK_succ (t : Tb) (i : Nat) (ss : List Int) {k : Nat} (h : k < t.ls.length) : rawK t i ss (k + 1) = rawK t i ss k ++ pieceE t i ss k := by
  unfold rawK; rw [range_take_succ _ _ h, List.flatMap_append]; simp
theorem rawK_all (t : Tb) (i : Nat) (ss : List Int) : rawK t i ss t.ls.length = rawE t i ss := by
  unfold rawK rawE; rw [List.take_of_length_le (by simp)]
theorem rawK_le (t : Tb) (i : Nat) (ss : List Int) {k : Nat} (h : k < t.ls.length) : (rawK t i ss k).length + (pieceE t i ss k).length ≤ (rawE t i ss).length := by
  rw [← List.length_append, ← rawK_succ t i ss h]
  unfold rawE rawK
  conv => rhs; rw [← List.take_append_drop (k + 1) (List.range t.ls.length), List.flatMap_append, List.length_append]
  exact Nat.le_add_right _ _
/-- where the edges of l lead, by type -/
def leadE (l : List Ed) (x : ByteArray) : Int := ((l.find? fun e => decide (e.t = x)).map Ed.n).getD 0
/-- edges in order of their types, these being all different -/
def sortE (l : List Ed) : List Ed := edF (leadE l) (ordT (l.map Ed.t))
theorem edF_lead : ∀ (l : List Ed), (l.map Ed.t).Nodup → edF (leadE l) (l.map Ed.t) = l := by
  intro l hn
  have key : ∀ e ∈ l, leadE l e.t = e.n := by
    induction l with
    | nil => simp
    | cons a l ih =>
      intro e he
      rw [List.map_cons, List.nodup_cons] at hn
      rcases List.mem_cons.1 he with rfl | he
      · unfold leadE; rw [List.find?_cons, decide_eq_true rfl]; rfl
      · have hne : decide (a.t = e.t) = false := by
          rw [decide_eq_false_iff_not]; intro h; exact hn.1 (h ▸ List.mem_map_of_mem he)
        have := ih hn.2 e he
        unfold leadE at this ⊢
        rw [List.find?_cons, hne]; exact this
  unfold edF
  rw [List.map_map]
  conv => rhs; rw [← List.map_id l]
  refine List.map_congr_left fun e he => ?_
  exact Ed.ext' rfl (key e he)

set_option maxRecDepth 100000 in
set_option maxHeartbeats 3200000 in
theorem tedges_any (t : Tb) (gt i B : Nat) (ss : List Int) (vs : Value) (w : World) (h : TbR w B gt t) (hB : B ≤ w.heap.size) (hok : t.Ok) (hi : i < t.sets.length)
    (hs : Is w B vs ss) (hsl : ss.length = t.sets.length) (hn : ((rawE t i ss).map Ed.t).Nodup) (hr : (rawE t i ss).length ≤ 1000000000000) :
    Calls Tryz.prog 70 #[.pointer (some ⟨gt, 0, none⟩), .int .i64 i, vs] w fun e w' => ∃ v, e = .returned v ∧ w'.ownsRow w.heap.size 53 2 v (sortE (rawE t i ss)).length (edC (sortE (rawE t i ss))) ∧ Below w.heap.size w w' := by
  obtain ⟨w0, rfl⟩ : ∃ w0 : World, w0 = w := ⟨_, rfl⟩
  obtain ⟨r, HRR⟩ : ∃ r, Hid (r = sortE (rawE t i ss)) := ⟨_, Lib.hid rfl⟩
  rw [← HRR.out]
  obtain ⟨h0, g, vl, vss, vt, h1, h2, h3, h4, h5, h6, h7, h8, h9⟩ := h
  obtain ⟨A1, c1, rfl⟩ := h7.form
  obtain ⟨A4, c4, rfl⟩ := h9.form
  obtain ⟨A5, c5, rfl⟩ := hs.form
  have hit : i < t.to.length := by rw [hok.2.2.1]; exact hi
  obtain ⟨bt, ot, st, rfl, hbt, hct, ht0, his⟩ := h9.at hit
  obtain ⟨A6, c6, rfl⟩ := his.form
  have hrow := hok.2.2.2.1 t.to[i] (List.getElem_mem hit)
  have hls : t.ls.length ≤ 100000000 := hok.2.2.2.2.2
  obtain ⟨row, HROW⟩ : ∃ x, Hid (x = t.to[i]) := ⟨_, Lib.hid rfl⟩
  rw [← HROW.out] at ht0 his hrow
  have HRL := Lib.hid hrow.1
  have hrx := hrow.2
  have HTO : Hid (∀ k (hk : k < row.length), toM t i k = row[k]) := by
    intro k hk
    unfold toM; rw [List.getD_eq_getElem?_getD, List.getD_eq_getElem?_getD, List.getElem?_eq_getElem hit, Option.getD_some]
    have := HROW.out
    subst this
    rw [List.getElem?_eq_getElem hk]; rfl
  have HR := Lib.hid hr
  have HN := Lib.hid hn
  have HSL := Lib.hid hsl
  have hitI : (i : Int) < (t.to.length : Int) := by omega
  have hi0 : (0 : Int) ≤ i := by omega
  have hbtw : bt < w0.heap.size := by omega
  have hgw : gt < w0.heap.size := by omega
  clear hrow hr hn hsl hok h1 h3 h5 h6 h8 h9 HROW
  go_enter Tryz.func70, Tryz.ntmps70
  go_wp2_with fail
  go_loopw [7, 20] (fun s x wr => ∃ k : Nat, k ≤ row.length ∧ x = .int .i64 (k : Int) ∧ Hid (wr.ownsRow w0.heap.size 53 2 s (rawK t i ss k).length (edC (rawK t i ss k))) ∧ Hid (Below w0.heap.size w0 wr)) (fun _ x _ => row.length - (intOf x).toNat)
  case atStart => exact ⟨0, Nat.zero_le _, rfl, by show World.ownsRow _ _ _ _ _ _ _; exact World.ownsRow_nil _ _ _ _, Below.refl _ _⟩
  case round =>
    obtain ⟨k, hk, rfl, HO, HB⟩ := hrel
    have hsz := HB.out.size
    by_cases hlt : k < row.length
    · have hltI : (k : Int) < (row.length : Int) := by omega
      obtain ⟨br, or_, hA6, hbr, hcr, hr0⟩ := (his.below (HB.out.mono hB)).at hlt
      have hxb := hrx _ (List.getElem_mem hlt)
      have htk := HTO.out k hlt
      obtain ⟨x, HX⟩ : ∃ x, Hid (x = row[k]) := ⟨_, Lib.hid rfl⟩
      rw [← HX.out] at hr0 hxb htk
      have hkl : k < t.ls.length := by have := HRL.out; omega
      have HS := Lib.hid (rawK_succ t i ss hkl)
      have HLE := Lib.hid (rawK_le t i ss hkl)
      have HP : Hid (pieceE t i ss k = if 0 ≤ x then t.ls[k].ts.map fun y => ⟨y, ss.getD x.toNat 0⟩ else []) := by
        show _ = _
        unfold pieceE; rw [htk, List.getElem?_eq_getElem hkl]
      clear htk HX
      by_cases hx0 : 0 ≤ x
      · have HPP : Hid (pieceE t i ss k = t.ls[k].ts.map fun y => ⟨y, ss.getD x.toNat 0⟩) := by show _ = _; rw [HP.out, if_pos hx0]
        obtain ⟨m, rfl⟩ : ∃ m : Nat, x = m := ⟨x.toNat, by omega⟩
        have hxn : ¬ ((m : Int) < 0) := by omega
        have hm : m < ss.length := by have := HSL.out; omega
        obtain ⟨bl, ol, sl, hA1, hbl, hcl, htx, _, hl1⟩ := (h7.below (HB.out.mono hB)).at hkl
        obtain ⟨Al, cl, rfl⟩ := htx.form
        obtain ⟨bs, os, hA5, hbs, hcs, hs0⟩ := (hs.below (HB.out.mono hB)).at hm
        subst hA6 hA1 hA5
        clear HP hx0 hs0 hxb
        have y1 : wr.cell? ⟨gt, 1, none⟩ = _ := (HB.out.cell (p := ⟨gt, 1, none⟩) hgw).trans h2
        have hklI : (k : Int) < (t.ls.length : Int) := by omega
        have hmI : (m : Int) < (ss.length : Int) := by omega
        have hgwr : gt < wr.heap.size := by omega
        have hbrw : br < wr.heap.size := by omega
        have hblw : bl < wr.heap.size := by omega
        have hbsw : bs < wr.heap.size := by omega
        obtain ⟨ts, HTS⟩ : ∃ x, Hid (x = t.ls[k].ts) := ⟨_, Lib.hid rfl⟩
        rw [← HTS.out] at htx HPP hl1
        obtain ⟨y, HY⟩ : ∃ y, Hid (y = ss[m]) := ⟨_, Lib.hid rfl⟩
        have HPY : Hid (pieceE t i ss k = edF (fun _ => y) ts) := by
          show _ = _; rw [HPP.out, Int.toNat_natCast, List.getD_eq_getElem?_getD, List.getElem?_eq_getElem hm, Option.getD_some, HY.out]; rfl
        obtain ⟨pre, HPR⟩ : ∃ x, Hid (x = rawK t i ss k) := ⟨_, Lib.hid rfl⟩
        rw [← HPR.out] at HO HS HLE
        rw [HPY.out] at HS HLE
        have hcnt : pre.length + ts.length ≤ 1000000000000 := by
          have h1 := HLE.out
          have h2 := HR.out
          have h3 : (edF (fun _ => y) ts).length = ts.length := by simp [edF]
          omega
        clear HPP HPY HLE HTS
        obtain ⟨wo, rfl⟩ : ∃ wo : World, wo = wr := ⟨_, rfl⟩
        have HTX := Lib.hid htx
        go_wp2_with fail
        go_loopw [7, 36] (fun s x wr => ∃ j : Nat, j ≤ ts.length ∧ x = .int .i64 (j : Int) ∧ Hid (wr.ownsRow w0.heap.size 53 2 s (pre.length + j) (edC (pre ++ edF (fun _ => y) (ts.take j)))) ∧ Hid (Below w0.heap.size w0 wr) ∧ Hid (Tx wr B (Value.slice Al ts.length cl) ts)) (fun _ x _ => ts.length - (intOf x).toNat)
        case atStart => exact ⟨0, Nat.zero_le _, rfl, by show World.ownsRow _ _ _ _ _ _ _; simpa [edF] using HO.out, HB, HTX⟩
        case round =>
          obtain ⟨j, hj, rfl, HO, HB, HTX⟩ := hrel
          have hsz := HB.out.size
          by_cases hlt2 : j < ts.length
          · obtain ⟨b2, o2, hAl, hb2, hc2, ht2⟩ := HTX.out.at hlt2
            obtain ⟨bs', os', hA5, hbs', hcs', hs0⟩ := (hs.below (HB.out.mono hB)).at hm
            simp only [Option.some.injEq, Addr.mk.injEq, and_true] at hA5
            obtain ⟨rfl, rfl⟩ := hA5
            subst hAl
            rw [← HY.out] at hs0
            obtain ⟨z, HZ⟩ : ∃ z, Hid (z = ts[j]) := ⟨_, Lib.hid rfl⟩
            rw [← HZ.out] at ht2
            have hjI : (j : Int) < (ts.length : Int) := by omega
            have hb2w : b2 < wr.heap.size := by omega
            have hbsw2 : bs < wr.heap.size := by omega
            have hrd := Rd.lit wr 53 2 1 #[.string z, .int .i64 y] (0, 0) rfl (by omega)
            have HRD := Lib.hid hrd
            clear hrd
            go_wp2_with (at_builtin; refine wpList_appR _ rfl (.tmp 40) (.tmp 47) 36 53 rfl _ 2 24 Tryz.underlying36 infoEdg rfl (by decide) w0.heap.size rfl rfl (World.ownsRow.alloc HO.out _) HRD.out ?_ ?_ ?_ ?_ ?_)
            · exact ⟨rfl, rfl⟩
            · unfold maxLen; omega
            · omega
            · first | omega | (simp; omega)
            intro v' w2 ho2 hg2 hat
            have hb3 : Below w0.heap.size w0 w2 := (HB.out.alloc hsz _).grown hg2 (by simp; omega) fun j hj => (HO.out.lt j hj).1
            have htx2 : Tx w2 B _ ts := HTX.out.below (((Below.refl B wr).alloc (by omega) _).grown hg2 (by simp; omega) fun j hj => by have := (HO.out.lt j hj).1; omega)
            have ho3 : Hid (w2.ownsRow w0.heap.size 53 2 v' (pre.length + (j + 1)) (edC (pre ++ edF (fun _ => y) (ts.take (j + 1))))) := by
              show World.ownsRow _ _ _ _ _ _ _
              rw [List.take_succ_eq_append_getElem hlt2]
              have : edC (pre ++ edF (fun _ => y) (ts.take j ++ [ts[j]])) = edC (pre ++ edF (fun _ => y) (ts.take j)) ++ [.string z, .int .i64 y] := by
                rw [← HZ.out]; simp [edC, edF]
              rw [this]; exact ho2
            have HTX2 := Lib.hid htx2
            have HB3 := Lib.hid hb3
            clear ho2 hg2 hat htx2 hb3
            go_wp2
            go_roundw
            case rel => exact ⟨j + 1, by omega, by go_num, ho3, HB3, HTX2⟩
            case measure => simp [intOf]; omega
          · obtain rfl : j = ts.length := by omega
            have HO2 : Hid (wr.ownsRow w0.heap.size 53 2 u7 (rawK t i ss (k + 1)).length (edC (rawK t i ss (k + 1)))) := by
              show World.ownsRow _ _ _ _ _ _ _
              rw [HS.out, List.length_append]
              have e1 := HO.out
              rw [List.take_of_length_le (Nat.le_refl _)] at e1
              simpa [edF] using e1
            clear HO HS
            go_wp2
            go_roundw
            case rel => exact ⟨k + 1, by omega, by go_num, HO2, HB⟩
            case measure => simp [intOf]; omega
      · have HPP : Hid (pieceE t i ss k = []) := by show _ = _; rw [HP.out, if_neg hx0]
        have hxn : x < 0 := by omega
        have HO2 : Hid (wr.ownsRow w0.heap.size 53 2 u7 (rawK t i ss (k + 1)).length (edC (rawK t i ss (k + 1)))) := by
          show World.ownsRow _ _ _ _ _ _ _
          rw [HS.out, HPP.out, List.append_nil]; exact HO.out
        subst hA6
        clear HS HPP HP HLE HO hx0 hxb
        go_wp2
        go_roundw
        case rel => exact ⟨k + 1, by omega, by go_num, HO2, HB⟩
        case measure => simp [intOf]; omega
    · obtain rfl : k = row.length := by omega
      have HOO : Hid (wr.ownsRow w0.heap.size 53 2 u7 ((rawE t i ss).map Ed.t).length (edC (edF (leadE (rawE t i ss)) ((rawE t i ss).map Ed.t)))) := by
        show World.ownsRow _ _ _ _ _ _ _
        rw [edF_lead _ HN.out, List.length_map]
        have e1 := HO.out
        rw [HRL.out, rawK_all] at e1
        exact e1
      have HC := Lib.hid (sortEd_any (leadE (rawE t i ss)) ((rawE t i ss).map Ed.t) 53 w0.heap.size u7 wr HOO.out (by have := HR.out; rw [List.length_map]; omega))
      have hl0 := Lib.hid HO.out.lt
      have hnn : Hid (((rawE t i ss).map Ed.t).length = (sortE (rawE t i ss)).length) := by show _ = _; simp [sortE, edF, ordT_len]
      rw [hnn.out] at HC
      have hse : Hid (edC (edF (leadE (rawE t i ss)) (ordT ((rawE t i ss).map Ed.t))) = edC (sortE (rawE t i ss))) := rfl
      rw [hse.out] at HC
      clear HOO HO hnn hse
      rw [← HRR.out] at HC
      go_wp2_with fail
      refine HC.out.mono ?_
      rintro e w2 ⟨rfl, ho3, hg3⟩
      have hb3 : Below w0.heap.size w0 w2 := HB.out.grown hg3 hsz fun j hj => (hl0.out j hj).1
      have HO3 := Lib.hid ho3
      clear ho3 hg3 HC
      go_wp2_with fail
      go_ret
      exact ⟨_, rfl, HO3.out, hb3⟩
end Go.Proofs.YtkbileabkfccgaaGreatDoor
