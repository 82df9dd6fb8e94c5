/- match: the machine of a table, auto: states under construction. -/
import Derived.Test.YtkbileabkfccgaaGreatDoorCz14
import Derived.Deep.RegionLaw

namespace Go.Proofs.YtkbileabkfccgaaGreatDoor
open Go.RowKit

theorem bkNew1 (w : World) (o : Obj) (t : TypeId) (cs : Array Value) : Bk ((w.alloc o).alloc (.cells cs t)) (w.heap.size + 1) t cs := by
  have := Bk.new (w.alloc o) t cs
  rwa [World.size_alloc] at this
theorem infoSta : (Tryz.prog.info? 38).map (fun i => (i.zero, i.size, i.bytes)) = some (some (.agg #[.bool false, .slice none 0 0]), 2, 32) := by kernel_rfl
def stC (x : St) : Value := .bool x.b
/-- slice v, of a call's own from block lo on, holds the states l; their edges lie from lo on, and elsewhere -/
def Sw (w : World) (lo : Nat) (v : Value) (l : List St) : Prop :=
  ∃ (ss : List Value) (h : ss.length = l.length), w.ownsRow lo 38 2 v l.length (neC stC l ss) ∧ ∀ i (hi : i < l.length), RdS w (fun b => lo ≤ b ∧ v.ownBlock ≠ some b) (ss[i]'(by omega)) 2 l[i].es.length (edC l[i].es)
section
variable {w w' : World} {lo : Nat} {v v' s : Value} {l : List St} {x : St}
theorem Sw.nil (w : World) (lo : Nat) : Sw w lo (.slice none 0 0) [] := ⟨[], rfl, World.ownsRow_nil w lo _ 2, fun i hi => by simp at hi⟩
theorem Sw.form (h : Sw w lo v l) : ∃ A cap, v = .slice A l.length cap := by obtain ⟨ss, _, ho, _⟩ := h; exact own_form ho
theorem Sw.lt (h : Sw w lo v l) : ∀ k, v.ownBlock = some k → lo ≤ k ∧ k < w.heap.size := by obtain ⟨ss, _, ho, _⟩ := h; exact ho.lt
theorem Sw.all (h : Sw w lo v l) (hb : Below w.heap.size w w') : Sw w' lo v l := by
  obtain ⟨ss, hl, ho, hk⟩ := h
  exact ⟨ss, hl, own_all ho hb, fun i hi => (((hk i hi).inb (by omega)).keep fun b o hb2 => hb.cell (p := ⟨b, o, none⟩) hb2.2).mono fun b hb2 => hb2.1⟩
theorem Sw.far (h : Sw w lo v l) {p : Addr} (hp : p.block < lo) (u : Value) : Sw (w.setCell p u) lo v l := by
  obtain ⟨ss, hl, ho, hk⟩ := h
  refine ⟨ss, hl, own_cell ho u (fun e => by have := (ho.lt _ e).1; omega), fun i hi => (hk i hi).keep fun b o hb2 => ?_⟩
  exact World.cell?_of_block (w := w) (a := ⟨b, o, none⟩) (Below.heap_setCell w p u b (fun e => by have := hb2.1; omega))
theorem Sw.app (ss : List Value) (hs : ss.length = l.length) (hk : ∀ i (hi : i < l.length), RdS w (fun b => lo ≤ b ∧ v.ownBlock ≠ some b) (ss[i]'(by omega)) 2 l[i].es.length (edC l[i].es))
    (ht : RdS w (fun b => lo ≤ b ∧ v.ownBlock ≠ some b) s 2 x.es.length (edC x.es))
    (ho : w'.ownsRow lo 38 2 v' (l.length + 1) (neC stC l ss ++ [.bool x.b, s])) (hg : w.grownBy w' v.ownBlock)
    (hat : v'.ownBlock = v.ownBlock ∨ v'.ownBlock = some w.heap.size) : Sw w' lo v' (l ++ [x]) := by
  have keep : ∀ {s : Value} {n : Nat} {cs : List Value}, RdS w (fun b => lo ≤ b ∧ v.ownBlock ≠ some b) s 2 n cs → RdS w' (fun b => lo ≤ b ∧ v'.ownBlock ≠ some b) s 2 n cs := by
    intro s n cs hh
    refine ((hh.inb (by omega)).keep fun b o hb => ?_).mono fun b hb => ⟨hb.1.1, ?_⟩
    · exact hg.cell_far ⟨b, o, none⟩ hb.2 (fun e => hb.1.2 e.symm)
    · rcases hat with e | e
      · rw [e]; exact hb.1.2
      · rw [e]; intro e2; have := hb.2; simp at e2; omega
  refine ⟨ss ++ [s], by simp [hs], ?_, fun i hi => ?_⟩
  · rw [List.length_append, neC_app _ l ss [x] [s] hs]; exact ho
  · by_cases hik : i < l.length
    · have e1 : (ss ++ [s])[i]'(by simp [hs]; omega) = ss[i]'(by omega) := List.getElem_append_left _
      have e2 : (l ++ [x])[i]'hi = l[i] := List.getElem_append_left _
      rw [e1, e2]
      exact keep (hk i hik)
    · obtain rfl : i = l.length := by simp at hi; omega
      have e1 : (ss ++ [s])[l.length]'(by simp [hs]) = s := by rw [List.getElem_append_right (by omega)]; simp [hs]
      have e2 : (l ++ [x])[l.length]'hi = x := by rw [List.getElem_append_right (by omega)]; simp
      rw [e1, e2]
      exact keep ht
theorem Sw.down {lo2 : Nat} (h : Sw w lo v l) (hl : lo2 ≤ lo) : Sw w lo2 v l := by
  obtain ⟨ss, hs, ho, hk⟩ := h
  exact ⟨ss, hs, own_mono ho hl, fun i hi => (hk i hi).mono fun b hb => ⟨Nat.le_trans hl hb.1, hb.2⟩⟩
/-- read as states -/
theorem Sw.sts (h : Sw w lo v l) : Sts w w.heap.size v l := by
  obtain ⟨ss, hl, ho, hk⟩ := h
  exact ⟨ss, hl, RdS.of (Rd.own ho), fun i hi => RdS.rd ((hk i hi).inb (by omega)) fun b hb => hb.2⟩
end

/-! ## the mathematics -/
theorem mergeF_len (t : Tb) : ∀ (f b : Nat) (s : List Int × Nat), SOk t s → (mergeF t f b s).length = t.sets.length
  | 0, _, s, h => h.1
  | f + 1, b, s, h => by
    rw [mergeF]
    split
    · refine mergeF_len t f _ _ ?_
      have := pass_ok t s h t.ls.length
      rw [List.take_of_length_le (by simp)] at this
      exact this
    · exact h.1
theorem mergeM_len (t : Tb) : (mergeM t).length = t.sets.length := mergeF_len t _ _ _ (startS_ok t)
def stateM (t : Tb) (ms : List Int) (i : Nat) : St := ⟨endM t i == 1, sortE (rawE t i ms)⟩
def autoS (t : Tb) (ms : List Int) (acc : List St) (i : Nat) : List St := if ms.getD i 0 = (acc.length : Int) then acc ++ [stateM t ms i] else acc
def autoK (t : Tb) (ms : List Int) (k : Nat) : List St := (List.range k).foldl (autoS t ms) []
def autoM (t : Tb) : List St := autoK t (mergeM t) (mergeM t).length
theorem autoK_succ (t : Tb) (ms : List Int) (k : Nat) : autoK t ms (k + 1) = autoS t ms (autoK t ms k) k := by unfold autoK; rw [List.range_succ, List.foldl_append]; rfl
theorem autoK_le (t : Tb) (ms : List Int) : ∀ k, (autoK t ms k).length ≤ k
  | 0 => by simp [autoK]
  | k + 1 => by
    have := autoK_le t ms k
    rw [autoK_succ, autoS]
    split
    · simp; omega
    · omega

/-- the edges of each state are good -/
def Tb.Fine (t : Tb) : Prop := ∀ i, i < t.sets.length → ((rawE t i (mergeM t)).map Ed.t).Nodup ∧ (rawE t i (mergeM t)).length ≤ 1000000000000

/-- a machine that is handed back: new -/
def AutR (w : World) (l : List St) (x : Ending) (w' : World) : Prop := ∃ v, x = .returned (auV v) ∧ Sw w' (w.heap.size + 2) v l ∧ Below w.heap.size w w'

set_option maxRecDepth 100000 in
theorem au_ret {W : World} {b : Nat} {v : Value} {fn : Func} {a : Act} {R : Ending → World → Prop} (s : Nat) (hf : fn.results = #[.cell s 29]) (h2 : a.tmps.getD s undef = .pointer (some ⟨b, 0, none⟩)) (hd : a.defers = [])
    (hk : Bk W b 29 #[v]) (hR : R (.returned (auV v)) W) : bodyPost Tryz.prog fn R .ret a W := by
  have x0 := hk.cell 0
  simp at x0
  refine bodyPost_ret (v := .agg #[v]) ?_ hd hR
  obtain ⟨tmps, defers⟩ := a
  have e2 : tmps[s]?.getD undef = .pointer (some ⟨b, 0, none⟩) := by simpa using h2
  simp [results, hf, e2, go_sem, x0]

set_option maxRecDepth 100000 in
set_option maxHeartbeats 3200000 in
theorem auto_any (t : Tb) (gt B : Nat) (w : World) (h : TbR w B gt t) (hB : B ≤ w.heap.size) (hok : t.Ok) (hfi : t.Fine) :
    Calls Tryz.prog 32 #[.pointer (some ⟨gt, 0, none⟩)] w (AutR w (autoM t)) := by
  obtain ⟨w0, rfl⟩ : ∃ w0 : World, w0 = w := ⟨_, rfl⟩
  obtain ⟨r, HR⟩ : ∃ r, Hid (r = autoM t) := ⟨_, Lib.hid rfl⟩
  rw [← HR.out]
  have HB2 := Lib.hid (box2 w0 (.cells #[.slice none 0 0] 29) (.cells #[.slice none 0 0] 29))
  have HA := Lib.hid ((Bk.new w0 29 #[.slice none 0 0]).alloc (.cells #[.slice none 0 0] 29))
  have HA1 := Lib.hid (bkNew1 w0 (.cells #[.slice none 0 0] 29) 29 #[.slice none 0 0])
  have CM := Lib.hid (merged_any t gt B ((w0.alloc (.cells #[.slice none 0 0] 29)).alloc (.cells #[.slice none 0 0] 29)) (h.below (HB2.out.mono hB)) (by simp; omega) hok)
  have HH := Lib.hid h
  have hml := mergeM_len t
  obtain ⟨ms, HMS⟩ : ∃ x, Hid (x = mergeM t) := ⟨_, Lib.hid rfl⟩
  rw [← HMS.out] at CM hml
  have HML := Lib.hid hml
  have HF : Hid (∀ i, i < t.sets.length → ((rawE t i ms).map Ed.t).Nodup ∧ (rawE t i ms).length ≤ 1000000000000) := by show ∀ _, _; rw [HMS.out]; exact hfi
  have HOK := Lib.hid hok
  have HRK : Hid (r = autoK t ms ms.length) := by show _ = _; rw [HR.out, HMS.out]; rfl
  have hnl : ms.length ≤ 100000000 := by rw [hml]; exact hok.2.2.2.2.1
  clear h hok hfi hml HR HMS
  go_enter Tryz.func32, Tryz.ntmps32
  go_wp2_with fail
  refine CM.out.mono ?_
  rintro e w1 ⟨vm, rfl, hio, hb1⟩
  have his : Is w1 w1.heap.size vm ms := Is.own hio
  have hiS : RdS w1 (fun b => w0.heap.size + 2 ≤ b ∧ b < w1.heap.size) vm 1 ms.length (itC ms) := (RdS.own hio).mono fun b hb => by have := hio.lt b hb; simp at this; omega
  clear hio
  have HBW := Lib.hid (HB2.out.trans (hb1.mono (by simp; omega)))
  have HA2 := Lib.hid (HA.out.all hb1)
  have HA3 := Lib.hid (HA1.out.all hb1)
  have hs1 : w0.heap.size + 2 ≤ w1.heap.size := by have := hb1.size; simpa using this
  obtain ⟨Am, cm, rfl⟩ := his.form
  clear CM HA HA1 HB2 hb1
  go_wp2_with fail
  go_loopw [11] (fun x wr => ∃ (k : Nat) (v : Value), k ≤ ms.length ∧ x = .int .i64 (k : Int) ∧ Hid (Sw wr w1.heap.size v (autoK t ms k)) ∧ Hid (Bk wr w0.heap.size 29 #[.slice none 0 0]) ∧ Hid (Bk wr (w0.heap.size + 1) 29 #[v]) ∧ Hid (Below w0.heap.size w0 wr) ∧ w1.heap.size ≤ wr.heap.size ∧ Hid (RdS wr (fun b => w0.heap.size + 2 ≤ b ∧ b < w1.heap.size) (.slice Am ms.length cm) 1 ms.length (itC ms))) (fun x _ => ms.length - (intOf x).toNat)
  case atStart => exact ⟨0, _, Nat.zero_le _, rfl, Sw.nil _ _, HA2, HA3, HBW, Nat.le_refl _, hiS⟩
  case round =>
    obtain ⟨k, v, hk, rfl, HS, HA, HA1, HB, hsz1, HIS⟩ := hrel
    have HI : Hid (Is wr w1.heap.size (.slice Am ms.length cm) ms) := RdS.rd HIS.out fun b hb => hb.2
    obtain ⟨Av, cv, rfl⟩ := HS.out.form
    have hsz := HB.out.size
    have x1 : wr.cell? ⟨w0.heap.size + 1, 0, none⟩ = some (.slice Av (autoK t ms k).length cv) := HA1.out.cell 0
    have x1f : wr.frozen? ⟨w0.heap.size + 1, 0, none⟩ = false := HA1.out.frozen 0
    have hl1 : w0.heap.size + 1 < wr.heap.size := by omega
    by_cases hlt : k < ms.length
    · have hkI : (k : Int) < (ms.length : Int) := by omega
      obtain ⟨bm, om, rfl, hbm, hcm, hm0⟩ := HI.out.at hlt
      obtain ⟨x, HX⟩ : ∃ x, Hid (x = ms[k]) := ⟨_, Lib.hid rfl⟩
      rw [← HX.out] at hm0
      have HGD : Hid (ms.getD k 0 = x) := by show _ = _; rw [List.getD_eq_getElem?_getD, List.getElem?_eq_getElem hlt, HX.out]; rfl
      have hbmw : bm < wr.heap.size := by omega
      have hks : k < t.sets.length := by have := HML.out; omega
      obtain ⟨acc, HAC⟩ : ∃ x, Hid (x = autoK t ms k) := ⟨_, Lib.hid rfl⟩
      have HSU : Hid (autoK t ms (k + 1) = if x = (acc.length : Int) then acc ++ [stateM t ms k] else acc) := by show _ = _; rw [autoK_succ, autoS, HGD.out, HAC.out]
      have hacl : acc.length ≤ k := by rw [HAC.out]; exact autoK_le t ms k
      rw [← HAC.out] at HS HA1 x1
      clear HX HAC HGD
      by_cases hxe : x = (acc.length : Int)
      · subst hxe
        have HSV : Hid (autoK t ms (k + 1) = acc ++ [stateM t ms k]) := by show _ = _; rw [HSU.out, if_pos rfl]
        clear HSU
        obtain ⟨ss, hss, ho, hkk⟩ := HS.out
        have HO := Lib.hid ho
        have HKK := Lib.hid hkk
        have CE := Lib.hid (end_any t gt k B wr.drew (((HH.out.below (HB.out.mono hB))).below (beN (Below.refl _ _) 1)) hks HOK.out.1 HOK.out.2.1)
        obtain ⟨q, HQ⟩ : ∃ q, Hid (q = endM t k) := ⟨_, Lib.hid rfl⟩
        rw [← HQ.out] at CE
        obtain ⟨es, HES⟩ : ∃ q, Hid (q = sortE (rawE t k ms)) := ⟨_, Lib.hid rfl⟩
        have hbs : B ≤ wr.heap.size := by omega
        have CD : Hid (∀ n, Calls Tryz.prog 70 #[.pointer (some ⟨gt, 0, none⟩), .int .i64 k, .slice (some ⟨bm, om, none⟩) ms.length cm] (wr.drewN n) fun e w' => ∃ v, e = .returned v ∧ w'.ownsRow wr.heap.size 53 2 v es.length (edC es) ∧ Below wr.heap.size wr w') := by
          intro n
          have h1 : Below wr.heap.size wr (wr.drewN n) := beN (Below.refl _ wr) n
          have h2 : TbR (wr.drewN n) wr.heap.size gt t := ((HH.out.below (HB.out.mono hB)).mono hbs).below h1
          have h3 : Is (wr.drewN n) wr.heap.size (.slice (some ⟨bm, om, none⟩) ms.length cm) ms := (HI.out.mono hsz1).below h1
          refine (tedges_any t gt k wr.heap.size ms _ (wr.drewN n) h2 (Nat.le_refl _) HOK.out hks h3 HML.out (HF.out k hks).1 (HF.out k hks).2).mono ?_
          rintro e w' ⟨v, he, hv, hb⟩
          rw [← HES.out] at hv
          exact ⟨v, he, hv, h1.trans hb⟩
        have HSV2 : Hid (autoK t ms (k + 1) = acc ++ [⟨q == 1, es⟩]) := by show _ = _; rw [HSV.out, HQ.out, HES.out]; rfl
        clear HSV ho hkk HS HQ HES
        have hl0 : w0.heap.size < wr.heap.size := by omega
        have hvn : Hid (some (w0.heap.size + 1) ≠ (Value.slice Av acc.length cv).ownBlock) := by
          intro e; have := (HO.out.lt _ e.symm).1; omega
        have HC4 : Hid (∀ (wa wb : World), Below wr.heap.size wr wa → wa.grownBy wb (Value.slice Av acc.length cv).ownBlock → wb.cell? ⟨w0.heap.size + 1, 0, none⟩ = some (.slice Av acc.length cv) ∧ wb.frozen? ⟨w0.heap.size + 1, 0, none⟩ = false) := by
          intro wa wb ha hg
          have hlt2 : w0.heap.size + 1 < wa.heap.size := Nat.lt_of_lt_of_le hl1 ha.size
          have e1 := hg.block _ hlt2 hvn.out
          exact ⟨((World.cell?_of_block (w := wa) (a := ⟨w0.heap.size + 1, 0, none⟩) e1).trans (ha.cell (p := ⟨w0.heap.size + 1, 0, none⟩) hl1)).trans x1, ((World.frozen?_of_block (w := wa) (a := ⟨w0.heap.size + 1, 0, none⟩) e1).trans (ha.frozen (p := ⟨w0.heap.size + 1, 0, none⟩) hl1)).trans x1f⟩
        go_wp2_with fail
        go_region_law (first
          | (go_simp; go_at_call 69; refine CE.out.mono ?_; rintro e w2 ⟨rfl, n, rfl⟩)
          | (go_simp; go_at_call 70; refine (CD.out _).mono ?_; rintro e w2 ⟨ve, rfl, hoe, hbe⟩; obtain ⟨Ae, ce, rfl⟩ := own_form hoe; have c1 := (hbe.cell (p := ⟨w0.heap.size + 1, 0, none⟩) hl1).trans x1; have HOE := Lib.hid hoe; have HBE := Lib.hid hbe; have hbe2 : Below wr.heap.size wr (w2.alloc (.cells #[.bool (q == 1), .slice Ae es.length ce] 38)) := hbe.alloc hbe.size _; have HO2 := Lib.hid (World.ownsRow.alloc (own_all HO.out hbe) (.cells #[.bool (q == 1), .slice Ae es.length ce] 38)); have hz := hbe.size; have hlz : w0.heap.size + 1 < w2.heap.size := Nat.lt_of_lt_of_le hl1 hz; have c1f := (hbe.frozen (p := ⟨w0.heap.size + 1, 0, none⟩) hl1).trans x1f; clear hoe hbe)
          | (refine step_appR _ (by rfl) (.tmp 22) (.tmp 32) 27 38 (by rfl) _ 2 32 Tryz.underlying27 infoSta (by rfl) (by decide) w1.heap.size (by rfl) (by rfl) HO2.out (Rd.lit w2 38 2 1 #[.bool (q == 1), .slice Ae es.length ce] (0, 0) rfl (by omega)) (by simp [Value.oneCell']) (by unfold maxLen; omega) (by omega) (by simp; omega) ?_; intro v' w4 ho4 hg4 hat; obtain ⟨c4, c4f⟩ := HC4.out _ _ hbe2 hg4; obtain ⟨A', c', rfl⟩ := own_form ho4; have HO4 := Lib.hid ho4; have HG4 := Lib.hid hg4; have HAT := Lib.hid hat; clear ho4 hg4 hat))
        all_goals
          have hS4 : Hid (Sw (w4.setCell ⟨w0.heap.size + 1, 0, none⟩ (.slice A' (acc.length + 1) c')) w1.heap.size (.slice A' (acc.length + 1) c') (autoK t ms (k + 1))) := by
            show Sw _ _ _ _
            rw [HSV2.out]
            refine Sw.far (lo := w1.heap.size) ?_ (p := ⟨w0.heap.size + 1, 0, none⟩) (by show w0.heap.size + 1 < _; omega) _
            refine Sw.app (w := w2.alloc (.cells #[.bool (q == 1), .slice Ae es.length ce] 38)) (s := .slice Ae es.length ce) (x := ⟨q == 1, es⟩) ss hss ?_ ?_ HO4.out HG4.out HAT.out
            · intro i hi
              exact (((HKK.out i hi).inb (by omega)).keep fun b o hb2 => hbe2.cell (p := ⟨b, o, none⟩) hb2.2).mono fun b hb2 => hb2.1
            · refine (((RdS.own HOE.out).inb (by omega)).keep fun b o hb2 => (box1 w2 _).cell (p := ⟨b, o, none⟩) hb2.2).mono fun b hb2 => ?_
              have h1 := HOE.out.lt b hb2.1
              refine ⟨by omega, fun e => ?_⟩
              have h2 := HO.out.lt b e
              omega
          have hnn : some w0.heap.size ≠ (Value.slice Av acc.length cv).ownBlock := fun e => by have := (HO.out.lt _ e.symm).1; omega
          have hA4 : Hid (Bk (w4.setCell ⟨w0.heap.size + 1, 0, none⟩ (.slice A' (acc.length + 1) c')) w0.heap.size 29 #[.slice none 0 0]) := ((HA.out.all hbe2).grown HG4.out hnn).far (p := ⟨w0.heap.size + 1, 0, none⟩) (by simp) _
          have hA5 : Hid (Bk (w4.setCell ⟨w0.heap.size + 1, 0, none⟩ (.slice A' (acc.length + 1) c')) (w0.heap.size + 1) 29 #[.slice A' (acc.length + 1) c']) := by
            have := ((HA1.out.all hbe2).grown HG4.out hvn.out).set 0 (.slice A' (acc.length + 1) c')
            show Bk _ _ _ _
            simpa using this
          have hb6 : Hid (Below w0.heap.size w0 (w4.setCell ⟨w0.heap.size + 1, 0, none⟩ (.slice A' (acc.length + 1) c'))) :=
            ((HB.out.trans (hbe2.mono hsz)).grown HG4.out (Nat.le_trans hsz hbe2.size) fun j hj => by have := (HO.out.lt j hj).1; omega).setCell (p := ⟨w0.heap.size + 1, 0, none⟩) (by show w0.heap.size ≤ w0.heap.size + 1; omega) _
          have hz4 : w1.heap.size ≤ (w4.setCell ⟨w0.heap.size + 1, 0, none⟩ (.slice A' (acc.length + 1) c')).heap.size := by
            have h1 := HG4.out.size
            have h2 := hbe2.size
            have h3 : (w4.setCell ⟨w0.heap.size + 1, 0, none⟩ (.slice A' (acc.length + 1) c')).heap.size = w4.heap.size := by simp
            omega
          have hIs : RdS (w4.setCell ⟨w0.heap.size + 1, 0, none⟩ (.slice A' (acc.length + 1) c')) (fun b => w0.heap.size + 2 ≤ b ∧ b < w1.heap.size) (.slice (some ⟨bm, om, none⟩) ms.length cm) 1 ms.length (itC ms) := by
            have hg : Below w1.heap.size wr w4 := (hbe2.mono hsz1).grown HG4.out (Nat.le_trans hsz1 hbe2.size) fun j hj => (HO.out.lt j hj).1
            refine HIS.out.keep fun b o hb => ?_
            refine Eq.trans ?_ (hg.cell (p := ⟨b, o, none⟩) hb.2)
            exact World.cell?_of_block (w := w4) (a := ⟨b, o, none⟩) (Below.heap_setCell w4 ⟨w0.heap.size + 1, 0, none⟩ _ b fun e => by have := hb.1; simp at e; omega)
          clear CE CD HO HKK HOE HBE hbe2 HO2 HO4 HG4 HAT HC4 hvn hnn HA HA1 HB HSV2 c1 c1f c4 c4f x1 x1f hz hlz
          have hI6 := Lib.hid hIs
          clear hIs
          go_wp2
          go_roundw
          case rel => exact ⟨k + 1, _, by omega, by go_num, hS4, hA4, hA5, hb6, hz4, hI6⟩
          case measure => simp [intOf]; omega
      · have hxb : (x == (acc.length : Int)) = false := by simpa using hxe
        have HSV : Hid (Sw wr w1.heap.size (.slice Av acc.length cv) (autoK t ms (k + 1))) := by show Sw _ _ _ _; rw [HSU.out, if_neg hxe]; exact HS.out
        clear HSU HS hxe
        go_wp2
        go_roundw
        case rel => exact ⟨k + 1, _, by omega, by go_num, HSV, HA, HA1, HB, hsz1, HIS⟩
        case measure => simp [intOf]; omega
    · obtain rfl : k = ms.length := by omega
      have hfin : Hid (r = autoK t ms ms.length) := HRK.out
      rw [← hfin.out] at HS HA1 x1
      have x0 : wr.cell? ⟨w0.heap.size, 0, none⟩ = some (.slice none 0 0) := HA.out.cell 0
      have x0f := HA.out.frozen 0
      have hl0 := HA.out.lt
      clear HRK hfin
      go_wp2_with fail
      refine au_ret 2 Tryz.results32 rfl rfl (b := w0.heap.size) (v := .slice Av r.length cv) ?_ ?_
      · have := HA.out.set 0 (.slice Av r.length cv); simpa using this
      · exact ⟨_, rfl, (HS.out.far (p := ⟨w0.heap.size, 0, none⟩) (by show w0.heap.size < _; omega) _).down hs1, HB.out.setCell (p := ⟨w0.heap.size, 0, none⟩) (Nat.le_refl _) _⟩
end Go.Proofs.YtkbileabkfccgaaGreatDoor
