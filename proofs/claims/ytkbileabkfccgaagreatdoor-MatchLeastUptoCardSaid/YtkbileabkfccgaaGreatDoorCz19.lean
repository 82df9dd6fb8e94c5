/- match: letters. -/
import Derived.Test.YtkbileabkfccgaaGreatDoorCz18
import Derived.IntWalk

namespace Go.Proofs.YtkbileabkfccgaaGreatDoor
open Go.RowKit

/-- what is read lies in no map -/
theorem Rd.offMap {w : World} {B sz n mb : Nat} {v : Value} {cs : List Value} {κ ν : Type} {ek : κ → Value} {ev : ν → Value} {l : List (κ × ν)} (h : Rd w B v sz n cs) (hm : Mp ek ev w mb l) (hsz : 0 < sz) : RdS w (fun b => b < B ∧ b ≠ mb) v sz n cs := by
  obtain ⟨A, cap, rfl, h0, h1, h2, h3⟩ := RdS.of h
  refine ⟨A, cap, rfl, h0, h1, h2, ?_⟩
  by_cases hn : n = 0
  · exact .inl hn
  · rcases h3 with h3 | ⟨b, off, hA, hb, hc⟩
    · exact absurd h3 hn
    · refine .inr ⟨b, off, hA, ⟨hb, ?_⟩, hc⟩
      rintro rfl
      have hpos : 0 < n * sz := Nat.mul_pos (by omega) hsz
      have hg := hc 0 _ (List.getElem?_eq_getElem (by omega))
      obtain ⟨es, c, hh, _⟩ := hm
      simp [World.cell?, hh] at hg
def atK (ns : List ByteArray) (gs : List Gr) (k : Nat) : List (ByteArray × Nat) := ((List.range (ns.length - 1)).take k).foldl (atRow gs ns) []
theorem atK_succ (ns : List ByteArray) (gs : List Gr) {k : Nat} (h : k < ns.length - 1) : atK ns gs (k + 1) = (standsM (ns.getD (k + 1) .empty) gs).foldl (atStep k) (atK ns gs k) := by
  unfold atK; rw [range_take_succ _ _ h, List.foldl_append]; rfl
theorem atK_all (ns : List ByteArray) (gs : List Gr) : atK ns gs (ns.length - 1) = atM ns gs := by
  unfold atK atM; rw [List.take_of_length_le (by simp)]

theorem look_zipN (ks : List Nat) (p : Nat) (n : Nat) : lookA (ks.zipIdx n) p = if p ∈ ks then some (n + ks.idxOf p) else none := by
  induction ks generalizing n with
  | nil => rfl
  | cons x ks ih =>
    rw [List.zipIdx_cons]
    by_cases h : x = p
    · subst h; simp [lookA]
    · have e : lookA ((x, n) :: ks.zipIdx (n + 1)) p = lookA (ks.zipIdx (n + 1)) p := by unfold lookA; rw [List.find?_cons_of_neg (by simpa using h)]
      rw [e, ih]
      have h' : ¬ p = x := fun e => h e.symm
      simp only [List.mem_cons, h', false_or]
      split
      · have e2 : (x == p) = false := by simpa using h
        rw [List.idxOf_cons, e2]; simp; omega
      · rfl
theorem put_zipN (ks : List Nat) (p : Nat) (h : p ∉ ks) : putA (ks.zipIdx) p ks.length = (ks ++ [p]).zipIdx := by
  have hany : (ks.zipIdx.any fun x => decide (x.1 = p)) = false := by
    rw [List.any_eq_false]
    intro x hx
    simp only [decide_eq_true_eq]
    intro e
    exact h (e ▸ List.fst_mem_of_mem_zipIdx hx)
  unfold putA
  rw [hany, List.zipIdx_append]
  simp
/-- what the last loop keeps -/
def LetI (w : World) (lo mb wi : Nat) (v : Value) (a : List Lt) (ss : List Value) (m : List (ByteArray × Nat)) (vk : Value) (ks : List ByteArray) : Prop :=
  Lw w lo v a ss ∧ Mp ekU evN w wi ((a.map Lt.at_).zipIdx) ∧ Mp Value.string ekU w mb m ∧ RdS w (fun b => b < lo ∧ b ≠ wi) vk 1 ks.length (txC ks)
theorem modify_at (t : ByteArray) : ∀ (a : List Lt) (i : Nat), (a.modify i fun L => ⟨L.at_, L.ts ++ [t]⟩).map Lt.at_ = a.map Lt.at_
  | [], i => by cases i <;> rfl
  | L :: a, 0 => by simp
  | L :: a, i + 1 => by rw [List.modify_succ_cons, List.map_cons, List.map_cons, modify_at t a i]
theorem modify_last (f : Lt → Lt) (L : Lt) : ∀ a : List Lt, (a ++ [L]).modify a.length f = a ++ [f L]
  | [] => by simp
  | x :: a => by rw [List.cons_append, List.length_cons, List.modify_succ_cons, modify_last f L a]; rfl
theorem ts_le : ∀ (a : List Lt) (i : Nat) (h : i < a.length), a[i].ts.length ≤ (a.flatMap Lt.ts).length
  | L :: a, 0, _ => by simp
  | L :: a, i + 1, h => by
    have := ts_le a i (by simpa using h)
    rw [List.flatMap_cons, List.length_append, List.getElem_cons_succ]; omega
theorem LetI.more {w w' : World} {lo mb wi : Nat} {a : List Lt} {ss : List Value} {m : List (ByteArray × Nat)} {vk : Value} {ks : List ByteArray} {gv cv i : Nat} {t : ByteArray} {o : Obj} {s : Value}
    (h : LetI w lo mb wi (.slice (some ⟨gv, 0, none⟩) a.length cv) a ss m vk ks) (hmb : mb < lo) (hwi : wi < lo) (hlo : lo ≤ w.heap.size) (hi : i < a.length) (hi2 : i < ss.length)
    (ho : w'.ownsRow lo 9 1 s (a[i].ts.length + 1) (txC a[i].ts ++ [.string t])) (hg : (w.alloc o).grownBy w' ss[i].ownBlock) (hat : s.ownBlock = ss[i].ownBlock ∨ s.ownBlock = some (w.heap.size + 1)) :
    LetI (w'.setCell ⟨gv, i * 2 + 1, none⟩ s) lo mb wi (.slice (some ⟨gv, 0, none⟩) a.length cv) (a.modify i fun L => ⟨L.at_, L.ts ++ [t]⟩) (ss.set i s) m vk ks ∧ Below lo w (w'.setCell ⟨gv, i * 2 + 1, none⟩ s) := by
  obtain ⟨h1, h2, h3, h4⟩ := h
  have hgv := (h1.2.1.lt gv rfl).1
  have hss := (h1.2.2.1 i hi hi2).lt
  have hb := box1 w o
  have hbl : Below lo w w' := (hb.mono hlo).grown hg (Nat.le_trans hlo hb.size) fun k hk => (hss k hk).1
  refine ⟨⟨h1.more hi hi2 ho hg hat, ?_, ?_, ?_⟩, hbl.setCell (p := ⟨gv, i * 2 + 1, none⟩) hgv _⟩
  · rw [modify_at]
    exact ((h2.all hb).grown hg fun e => by have := (hss wi e.symm).1; omega).far (p := ⟨gv, i * 2 + 1, none⟩) _ (by show wi ≠ gv; omega)
  · exact ((h3.all hb).grown hg fun e => by have := (hss mb e.symm).1; omega).far (p := ⟨gv, i * 2 + 1, none⟩) _ (by show mb ≠ gv; omega)
  · refine h4.keep fun b q hq => ?_
    refine Eq.trans ?_ (hbl.cell (p := ⟨b, q, none⟩) hq.1)
    exact World.cell?_of_block (w := w') (a := ⟨b, q, none⟩) (Below.heap_setCell w' ⟨gv, i * 2 + 1, none⟩ _ b fun e => by have := hq.1; simp at e; omega)
/-- letters that are handed back: new -/
def LeR (w : World) (l : List Lt) (x : Ending) (w' : World) : Prop := ∃ v ss, x = .returned v ∧ Lw w' w.heap.size v l ss ∧ Below w.heap.size w w'

set_option maxRecDepth 100000 in
set_option maxHeartbeats 3200000 in
theorem letters_any (g : Nat) (f : Fm) (ends : Nat) (vg : Value) (gs : List Gr) (S0 : Nat → Prop) (w : World) (h : Fr w S0 g f ends) (hg : Grs w w.heap.size vg gs) (hn : 0 < f.ns.length) (h25 : f.ns.length ≤ 25)
    (hsz : ∀ n ∈ f.ns, ∀ t ∈ standsM n gs, t.size ≤ maxLen) (hll : (atM f.ns gs).length ≤ 100000000) :
    Calls Tryz.prog 31 #[.pointer (some ⟨g, 0, none⟩), vg] w (LeR w (lettersM f.ns gs)) := by
  have hmm := @run_makeMap Tryz.prog
  obtain ⟨w0, rfl⟩ : ∃ w0 : World, w0 = w := ⟨_, rfl⟩
  obtain ⟨r, HR⟩ : ∃ r, Hid (r = lettersM f.ns gs) := ⟨_, rfl⟩
  rw [← HR.out]
  obtain ⟨vn, vb, hv⟩ := h
  have HOK := Lib.hid (atM_ok (ns := f.ns) (gs := gs) (G := fun t => t.size ≤ maxLen) hsz)
  have HB1 := Lib.hid (box1 w0 (.map #[] 0))
  have HM1 : Hid (Mp Value.string ekU (w0.alloc (.map #[] 0)) w0.heap.size ([] : List (ByteArray × Nat))) := Mp.new w0 Value.string ekU
  have HG := Lib.hid hg
  obtain ⟨Ag, cg, rfl⟩ := hg.form
  have HO := Lib.hid (own_all hv.o1 HB1.out)
  obtain ⟨gn, cn, rfl, hgn, hcn⟩ : ∃ gn cn, vn = .slice (some ⟨gn, 0, none⟩) f.ns.length cn ∧ gn < w0.heap.size ∧ f.ns.length ≤ cn := by
    rcases hv.o1.2 with ⟨_, h0⟩ | ⟨gn, cn, _, he, _, hb, hc, _⟩
    · omega
    · exact ⟨gn, cn, he, (Array.getElem?_eq_some_iff.1 hb).1, hc⟩
  have k0 : w0.cell? ⟨g, 0, none⟩ = some (.slice (some ⟨gn, 0, none⟩) f.ns.length cn) := (Bk.three hv.k).1.1
  have hgl := hv.k.lt
  have HC : Hid (∀ k (hk : k < f.ns.length), w0.cell? ⟨gn, k, none⟩ = some (.string f.ns[k])) := by
    intro k hk
    rw [hv.o1.cellAt k (by omega)]; exact txC_get _ _ hk
  clear hg hv
  have h1n : (1 : Int) ≤ f.ns.length := by omega
  have h1c : (1 : Int) ≤ cn := by omega
  have hnc : f.ns.length ≤ cn := hcn
  obtain ⟨A1, hA1⟩ : ∃ A1 : Option Addr, (if cn = 1 then some (⟨gn, 0, none⟩ : Addr) else some ⟨gn, 1, none⟩) = A1 := ⟨_, rfl⟩
  go_enter Tryz.func31, Tryz.ntmps31
  go_wp2_with fail
  go_loopw [23] (fun x wr => ∃ k : Nat, k ≤ f.ns.length - 1 ∧ x = .int .i64 (k : Int) ∧ Hid (Mp Value.string ekU wr w0.heap.size (atK f.ns gs k)) ∧ Hid (Below w0.heap.size w0 wr) ∧ Hid (AtOk (2 ^ f.ns.length) (fun t => t.size ≤ maxLen) (atK f.ns gs k))) (fun x _ => f.ns.length - 1 - (intOf x).toNat)
  case atStart => exact ⟨0, Nat.zero_le _, rfl, HM1.out, HB1.out, ⟨by simp [atK], by simp [atK]⟩⟩
  case round =>
    obtain ⟨k, hk, rfl, HM, HB, HAK⟩ := hrel
    have hml := HM.out.lt
    by_cases hlt : k < f.ns.length - 1
    · have hkI : (k : Int) < ((f.ns.length - 1 : Nat) : Int) := by omega
      have hk0 : (0 : Int) ≤ k := by omega
      have hc1 : cn ≠ 1 := by omega
      rw [if_neg hc1] at hA1
      subst hA1
      have hkn : k + 1 < f.ns.length := by omega
      have x0 : wr.cell? ⟨gn, 1 + k, none⟩ = some (.string f.ns[k + 1]) := by
        rw [Nat.add_comm]; exact (HB.out.cell (p := ⟨gn, k + 1, none⟩) hgn).trans (HC.out (k + 1) hkn)
      have hgnw : gn < wr.heap.size := by have := HB.out.size; omega
      have CS := Lib.hid (stands_any f.ns[k + 1] _ gs w0.heap.size wr (HG.out.below HB.out) HB.out.size)
      have HST : Hid (atK f.ns gs (k + 1) = (standsM f.ns[k + 1] gs).foldl (atStep k) (atK f.ns gs k)) := by
        show _ = _
        rw [atK_succ _ _ hlt, List.getD_eq_getElem?_getD, List.getElem?_eq_getElem hkn]; rfl
      go_wp2_with fail
      refine CS.out.mono ?_
      rintro e w1 ⟨v, rfl, htx, hb1⟩
      obtain ⟨ts, HTS⟩ : ∃ x, Hid (x = standsM f.ns[k + 1] gs) := ⟨_, Lib.hid rfl⟩
      rw [← HTS.out] at htx HST
      have HGT : Hid (∀ t ∈ ts, t.size ≤ maxLen) := by show ∀ t ∈ ts, _; rw [HTS.out]; exact hsz _ (List.getElem_mem hkn)
      have HM2 := Lib.hid (HM.out.all hb1)
      have HB2 := Lib.hid (HB.out.trans (hb1.mono HB.out.size))
      have HTX := Lib.hid (Rd.offMap htx HM2.out (by omega))
      obtain ⟨At, ct, rfl⟩ := htx.form
      have htm := htx.max
      unfold maxLen at htm
      clear CS htx hb1 HM HB HTS
      go_wp2_with fail
      obtain ⟨wo, rfl⟩ : ∃ wo : World, wo = w1 := ⟨_, rfl⟩
      go_loopw [32] (fun x wr => ∃ j : Nat, j ≤ ts.length ∧ x = .int .i64 (j : Int) ∧ Hid (Mp Value.string ekU wr w0.heap.size ((ts.take j).foldl (atStep k) (atK f.ns gs k))) ∧ Hid (Below w0.heap.size w0 wr) ∧ Hid (RdS wr (fun b => b < wo.heap.size ∧ b ≠ w0.heap.size) (.slice At ts.length ct) 1 ts.length (txC ts)) ∧ wo.heap.size ≤ wr.heap.size ∧ Hid (AtOk (2 ^ f.ns.length) (fun t => t.size ≤ maxLen) ((ts.take j).foldl (atStep k) (atK f.ns gs k)))) (fun x _ => ts.length - (intOf x).toNat)
      case atStart => exact ⟨0, Nat.zero_le _, rfl, HM2, HB2, HTX, Nat.le_refl _, HAK⟩
      case round =>
        obtain ⟨j, hj, rfl, HM, HB, HTX, hszw, HAJ⟩ := hrel
        by_cases hlt2 : j < ts.length
        · have hjI : (j : Int) < (ts.length : Int) := by omega
          have hj0 : (0 : Int) ≤ j := by omega
          obtain ⟨bt, ot, rfl, hbt, hct, ht0⟩ : ∃ bt ot, At = some ⟨bt, ot, none⟩ ∧ bt < wo.heap.size ∧ ts.length ≤ ct ∧ wr.cell? ⟨bt, ot + j, none⟩ = some (.string ts[j]) := by
            obtain ⟨A, cap, he, _, h1, _, h3⟩ := HTX.out
            simp only [Value.slice.injEq, true_and] at he
            obtain ⟨rfl, rfl⟩ := he
            rcases h3 with h3 | ⟨b, off, hA, hb, hc⟩
            · omega
            · exact ⟨b, off, hA, hb.1, h1, hc _ _ (txC_get _ _ hlt2)⟩
          have hbtw : bt < wr.heap.size := by omega
          have hst : Hid ((ts.take (j + 1)).foldl (atStep k) (atK f.ns gs k) = atStep k ((ts.take j).foldl (atStep k) (atK f.ns gs k)) ts[j]) := by
            show _ = _; rw [List.take_succ_eq_append_getElem hlt2, List.foldl_append]; rfl
          obtain ⟨m, HMM⟩ : ∃ x, Hid (x = (ts.take j).foldl (atStep k) (atK f.ns gs k)) := ⟨_, Lib.hid rfl⟩
          obtain ⟨ty, HTY⟩ : ∃ x, Hid (x = ts[j]) := ⟨_, Lib.hid rfl⟩
          have HAJ2 : Hid (AtOk (2 ^ f.ns.length) (fun t => t.size ≤ maxLen) ((ts.take (j + 1)).foldl (atStep k) (atK f.ns gs k))) := by show AtOk _ _ _; rw [hst.out]; exact HAJ.out.step (by omega) (HGT.out _ (List.getElem_mem hlt2))
          rw [← HMM.out] at HM hst HAJ
          rw [← HTY.out] at ht0 hst
          have hz3 : ∀ w : World, (zeroValue 96).run Tryz.prog w = .ok (.int .u64 0) w := fun w => by kernel_rfl
          have hlk := Mp.look (w := wr.drew) (P := Tryz.prog) (mty := 114) HM.out keyTx Tryz.underlying114 ty (hz3 _)
          have hlk2 : ((lookA m ty).map ekU).getD (.int .u64 0) = .int .u64 (((lookA m ty).getD 0 : Nat) : Int) := by cases lookA m ty <;> rfl
          rw [hlk2] at hlk
          obtain ⟨c, HCC⟩ : ∃ c, Hid (c = (lookA m ty).getD 0) := ⟨_, Lib.hid rfl⟩
          rw [← HCC.out] at hlk
          have hmv : c < 33554432 := by
            rw [HCC.out]; exact pow_25 (HAJ.out.look (Nat.two_pow_pos _) ty) h25
          have hk25 : k + 1 < 25 := by omega
          have hsh := u64_pow (k + 1) hk25
          obtain ⟨P, HP⟩ : ∃ P : Nat, Hid (P = 2 ^ (k + 1)) := ⟨_, rfl⟩
          have hPl : P < 33554432 := by rw [HP.out]; exact Nat.pow_lt_pow_right (by decide) (show k + 1 < 25 from hk25)
          rw [← HP.out] at hsh
          have hor := bits_or_u64_nat c P (by omega) (by omega)
          obtain ⟨y, HY⟩ : ∃ y, Hid (y = c ||| P) := ⟨_, rfl⟩
          rw [← HY.out] at hor
          have hst2 : Hid (atStep k m ty = putA m ty y) := by show _ = _; rw [atStep, HY.out, HP.out, HCC.out]
          have ha1 : IntKind.i64.wrap ((k : Int) + 1) = (k : Int) + 1 := IntWalk.i64_in _ (by omega)
          have ha2 : (0 : Int) ≤ (k : Int) + 1 := by omega
          have ha3 : ((k : Int) + 1).toNat = k + 1 := by omega
          obtain ⟨w4, hrun, hm4, hg4, hz4⟩ := Mp.put (w := wr.drew) (P := Tryz.prog) (mty := 114) HM.out keyTx Tryz.underlying114 ty y
          unfold ekU at hrun
          have hm5 : Hid (Mp Value.string ekU w4 w0.heap.size ((ts.take (j + 1)).foldl (atStep k) (atK f.ns gs k))) := by show Mp _ _ _ _ _; rw [hst.out, hst2.out]; exact hm4
          have HB4 : Hid (Below w0.heap.size w0 w4) := (HB.out.drew).grown hg4 HB.out.size (by simp)
          have HTX4 : Hid (RdS w4 (fun b => b < wo.heap.size ∧ b ≠ w0.heap.size) (.slice (some ⟨bt, ot, none⟩) ts.length ct) 1 ts.length (txC ts)) :=
            HTX.out.keep fun b o hb => (hg4.cell_far ⟨b, o, none⟩ (by show b < wr.heap.size; omega) (by intro e; simp at e; exact hb.2 e))
          have hsz4 : wo.heap.size ≤ w4.heap.size := by have := hg4.size; have h2 : wr.drew.heap.size = wr.heap.size := rfl; omega
          clear HM HB HTX hm4 hg4 hz4 hst hst2 HMM HCC HY HP HTY hmv hPl
          go_wp2_with fail
          go_region
          all_goals
            go_wp2
            go_roundw
            case rel => exact ⟨j + 1, by omega, by go_num, hm5, HB4, HTX4, hsz4, HAJ2⟩
            case measure => simp [intOf]; omega
        · obtain rfl : j = ts.length := by omega
          have hm := HM.out
          rw [List.take_of_length_le (Nat.le_refl _), ← HST.out] at hm
          have ha := HAJ.out
          rw [List.take_of_length_le (Nat.le_refl _), ← HST.out] at ha
          have HMF := Lib.hid hm
          have HAF := Lib.hid ha
          clear HM HAJ hm ha HTX
          go_wp2
          go_roundw
          case rel => exact ⟨k + 1, by omega, by go_num, HMF, HB, HAF⟩
          case measure => simp [intOf]; omega
    · obtain rfl : k = f.ns.length - 1 := by omega
      rw [atK_all] at HM HAK
      obtain ⟨m, HMM⟩ : ∃ m, Hid (m = atM f.ns gs) := ⟨_, Lib.hid rfl⟩
      rw [← HMM.out] at HM HAK hll
      have HRR : Hid (r = (sortTx (m.map Prod.fst)).foldl (letS m) []) := by show _ = _; rw [HR.out, HMM.out]; rfl
      have hbz := HB.out.size
      have HMa := Lib.hid ((HM.out.all (box1 wr (.map #[] 0))).all (box1 _ (.cells #[.map (some w0.heap.size)] 114)))
      have HIx : Hid (Mp ekU evN ((wr.alloc (.map #[] 0)).alloc (.cells #[.map (some w0.heap.size)] 114)) wr.heap.size (([] : List Nat).zipIdx)) := (Mp.new wr ekU evN).all (box1 _ _)
      have HBa : Hid (Below w0.heap.size w0 ((wr.alloc (.map #[] 0)).alloc (.cells #[.map (some w0.heap.size)] 114))) := HB.out.trans ((box2 wr _ _).mono hbz)
      have CK := Lib.hid (keys_any w0.heap.size (wr.alloc (.map #[] 0)))
      have CS := Lib.hid (sortedKeys_any m w0.heap.size (wr.heap.size + 1) _ HMa.out (by simp) (by have := (bkNew1 wr (.map #[] 0) 114 #[.map (some w0.heap.size)]).cell 0; simp) (fun p hp => (HAK.out.v p hp).2) (by omega))
      have hkl : Hid (m.length = (sortTx (m.map Prod.fst)).length) := by show _ = _; rw [sortTx_len, List.length_map]
      obtain ⟨ks, HKS⟩ : ∃ ks, Hid (ks = sortTx (m.map Prod.fst)) := ⟨_, Lib.hid rfl⟩
      rw [← HKS.out] at CS HRR hkl
      rw [hkl.out] at CS
      have hkl2 : ks.length ≤ 100000000 := by rw [← hkl.out]; exact hll
      clear HM HB HKS
      go_wp2_with (first
        | (go_at_call 67; refine CK.out.mono ?_; rintro e w' ⟨rfl, rfl⟩)
        | (go_at_call 42; refine CS.out.mono ?_; rintro e w3 ⟨vk, rfl, hok, hb3⟩; obtain ⟨Ak, ck, rfl⟩ := own_form hok))
      have HM3 := Lib.hid (HMa.out.all hb3)
      have HI3 : Hid (Mp ekU evN w3 wr.heap.size ((([] : List Lt).map Lt.at_).zipIdx)) := HIx.out.all hb3
      have HB3 : Hid (Below w0.heap.size w0 w3) := HBa.out.trans (hb3.mono (by simp; omega))
      have hs3 : wr.heap.size + 1 + 1 ≤ w3.heap.size := by have := hb3.size; simpa using this
      have HK3 := Lib.hid (Rd.offMap (Rd.own hok) HI3.out (by omega))
      have hmb : w0.heap.size ≠ wr.heap.size := by omega
      obtain ⟨wi, HWI⟩ : ∃ x, Hid (x = wr.heap.size) := ⟨_, Lib.hid rfl⟩
      rw [← HWI.out] at HI3 HK3 hs3 hmb
      have hwi : Hid (w0.heap.size < wi) := by show _ < _; rw [HWI.out]; exact hml
      clear hok hb3 HMa HIx HBa CK CS
      rw [← HWI.out]
      go_loopw [10, 50] (fun v x wr => ∃ (k : Nat) (a : List Lt) (ss : List Value), k ≤ ks.length ∧ x = .int .i64 (k : Int) ∧ Hid (a = (ks.take k).foldl (letS m) []) ∧ a.length ≤ k ∧ Hid (Lw wr w3.heap.size v a ss) ∧ Hid (Mp ekU evN wr wi ((a.map Lt.at_).zipIdx)) ∧ Hid (Mp Value.string ekU wr w0.heap.size m) ∧
        Hid (RdS wr (fun b => b < w3.heap.size ∧ b ≠ wi) (.slice Ak ks.length ck) 1 ks.length (txC ks)) ∧ Hid (Below w0.heap.size w0 wr) ∧ w3.heap.size ≤ wr.heap.size) (fun _ x _ => ks.length - (intOf x).toNat)
      case atStart => exact ⟨0, [], [], Nat.zero_le _, rfl, rfl, Nat.le_refl _, Lw.nil _ _, HI3, HM3, HK3, HB3, Nat.le_refl _⟩
      case round =>
        obtain ⟨k, a, ss, hk, rfl, HAA, hal, HLW, HIX, HM, HKR, HB, hszw⟩ := hrel
        by_cases hlt : k < ks.length
        · have hkI : (k : Int) < (ks.length : Int) := by omega
          have hfl : (a.flatMap Lt.ts).length = k := by
            have hlo := letters_ok (2 ^ f.ns.length) m (fun t => HAK.out.look (Nat.two_pow_pos _) t) (ks.take k) [] [] ⟨by simp, by simp, by simp⟩
            rw [← HAA.out] at hlo
            have := hlo.p.length_eq
            rw [List.nil_append, List.length_take] at this; omega
          have hk0 : (0 : Int) ≤ k := by omega
          obtain ⟨bt, ot, rfl, hbt, hct, ht0⟩ : ∃ bt ot, Ak = some ⟨bt, ot, none⟩ ∧ bt < w3.heap.size ∧ ks.length ≤ ck ∧ wr.cell? ⟨bt, ot + k, none⟩ = some (.string ks[k]) := by
            obtain ⟨A, cap, he, _, h1, _, h3⟩ := HKR.out
            simp only [Value.slice.injEq, true_and] at he
            obtain ⟨rfl, rfl⟩ := he
            rcases h3 with h3 | ⟨b, off, hA, hb, hc⟩
            · omega
            · exact ⟨b, off, hA, hb.1, h1, hc _ _ (txC_get _ _ hlt)⟩
          have hbtw : bt < wr.heap.size := by omega
          have hst : Hid ((ks.take (k + 1)).foldl (letS m) [] = letS m a ks[k]) := by
            show _ = _; rw [List.take_succ_eq_append_getElem hlt, List.foldl_append, ← HAA.out]; rfl
          obtain ⟨ty, HTY⟩ : ∃ x, Hid (x = ks[k]) := ⟨_, Lib.hid rfl⟩
          rw [← HTY.out] at ht0 hst
          have hz3 : ∀ w : World, (zeroValue 96).run Tryz.prog w = .ok (.int .u64 0) w := fun w => by kernel_rfl
          have hz4 : ∀ w : World, (zeroValue 3).run Tryz.prog w = .ok (.int .i64 0) w := fun w => by kernel_rfl
          have hlk := Mp.look (w := wr) (P := Tryz.prog) (mty := 114) HM.out keyTx Tryz.underlying114 ty (hz3 _)
          have hlk2 : ((lookA m ty).map ekU).getD (.int .u64 0) = .int .u64 (((lookA m ty).getD 0 : Nat) : Int) := by cases lookA m ty <;> rfl
          rw [hlk2] at hlk
          obtain ⟨c, HCC⟩ : ∃ c, Hid (c = (lookA m ty).getD 0) := ⟨_, Lib.hid rfl⟩
          rw [← HCC.out] at hlk
          have hix := Mp.lookOk (w := wr) (P := Tryz.prog) (mty := 116) HIX.out keySe Tryz.underlying116 c (hz4 _)
          rw [look_zipN] at hix
          unfold ekU at hix
          by_cases hin : c ∈ a.map Lt.at_
          · rw [if_pos hin] at hix
            obtain ⟨i, HII⟩ : ∃ i, Hid (i = (a.map Lt.at_).idxOf c) := ⟨_, Lib.hid rfl⟩
            have hia : i < a.length := by rw [HII.out]; have := List.idxOf_lt_length_iff.2 hin; simpa using this
            rw [← HII.out] at hix
            simp only [Nat.zero_add, Option.map_some, Option.getD_some, Option.isSome_some, evN] at hix
            have hst2 : Hid (letS m a ty = a.modify i fun L => ⟨L.at_, L.ts ++ [ty]⟩) := by
              show _ = _; unfold letS; rw [← HCC.out, if_pos (List.contains_iff_mem.2 hin), HII.out]
            have hi2 : i < ss.length := by rw [HLW.out.1]; exact hia
            obtain ⟨gv, cv, rfl⟩ : ∃ gv cv, u10 = .slice (some ⟨gv, 0, none⟩) a.length cv := by
              rcases HLW.out.2.1.2 with ⟨_, h0⟩ | ⟨gv, cv, _, he, _⟩
              · omega
              · exact ⟨gv, cv, he⟩
            have hgv := HLW.out.2.1.lt gv rfl
            have hcv : a.length ≤ cv := by
              rcases HLW.out.2.1.2 with ⟨h0, _⟩ | ⟨_, _, _, he, _, _, hc, _⟩
              · simp at h0
              · simp at he; omega
            obtain ⟨c0, c1, c2⟩ := HLW.out.at hia
            have horow := HLW.out.2.2.1 i hia hi2
            obtain ⟨sv, HSV⟩ : ∃ x, Hid (x = ss[i]) := ⟨_, Lib.hid rfl⟩
            rw [← HSV.out] at c1 horow
            obtain ⟨Ai, ci, rfl⟩ := own_form horow
            have HOW := Lib.hid (World.ownsRow.alloc horow (.cells #[.string ty] 9))
            have HRD := Lib.hid (Rd.lit wr 9 1 1 #[.string ty] (0, 0) rfl (by omega))
            have hiaI : (i : Int) < (a.length : Int) := by omega
            have hi0 : (0 : Int) ≤ i := by omega
            have htl : a[i].ts.length ≤ 100000000 := by have := ts_le a i hia; omega
            clear horow hin
            go_wp2_with (at_builtin; refine wpList_appR _ rfl (.tmp 84) (.tmp 86) 41 9 rfl _ 1 16 Tryz.underlying41 infoTx rfl (by decide) w3.heap.size rfl rfl HOW.out HRD.out ?_ ?_ ?_ ?_ ?_)
            · first | rfl | (intro u hu; simp at hu; subst hu; rfl)
            · unfold maxLen; omega
            · omega
            · first | omega | (simp; omega)
            intro v' w5 ho5 hg5 hat5
            have hmore := LetI.more (w := wr) (w' := w5) (lo := w3.heap.size) (mb := w0.heap.size) (wi := wi) (m := m) (vk := .slice (some ⟨bt, ot, none⟩) ks.length ck) (ks := ks) (t := ty) (s := v') ⟨HLW.out, HIX.out, HM.out, HKR.out⟩ (by have := hwi.out; omega) (by omega) hszw hia hi2 ho5 (by rw [← HSV.out]; exact hg5) (by rw [← HSV.out]; exact hat5)
            have hg6 := hg5
            have hbx := box1 wr (.cells #[.string ty] 9)
            have hng : some gv ≠ (Value.slice Ai a[i].ts.length ci).ownBlock := by
              have h := HLW.out.2.2.2.2 i hi2
              rw [← HSV.out] at h
              rcases h with e | e
              · rw [e]; simp
              · intro e2; exact e (by rw [← e2]; rfl)
            obtain ⟨A5, c5, rfl⟩ := own_form ho5
            have z1 : w5.cell? ⟨gv, i * 2 + 1, none⟩ = some (.slice Ai a[i].ts.length ci) := ((hg5.cell_far ⟨gv, i * 2 + 1, none⟩ (by simp; omega) hng).trans (hbx.cell (p := ⟨gv, i * 2 + 1, none⟩) hgv.2)).trans c1
            have z1f : w5.frozen? ⟨gv, i * 2 + 1, none⟩ = false := ((hg5.frozen_far ⟨gv, i * 2 + 1, none⟩ (by simp; omega) hng).trans (hbx.frozen (p := ⟨gv, i * 2 + 1, none⟩) hgv.2)).trans c2
            have hgw5 : gv < w5.heap.size := by have := hg5.size; simp at this; omega
            have HMO := Lib.hid hmore
            have HAA6 : Hid (a.modify i (fun L => ⟨L.at_, L.ts ++ [ty]⟩) = (ks.take (k + 1)).foldl (letS m) []) := by show _ = _; rw [hst.out, hst2.out]
            have HB6 : Hid (Below w0.heap.size w0 (w5.setCell ⟨gv, i * 2 + 1, none⟩ (.slice A5 (a[i].ts.length + 1) c5))) := HB.out.trans (hmore.2.mono (by have := hwi.out; omega))
            have hsz6 : w3.heap.size ≤ (w5.setCell ⟨gv, i * 2 + 1, none⟩ (.slice A5 (a[i].ts.length + 1) c5)).heap.size := Nat.le_trans hszw hmore.2.size
            clear hmore hg5 hg6 ho5 hat5 hbx hng HLW HIX HM HKR HB HOW HRD HAA hst hst2 c0 c1 c2 hlk hix
            go_wp2_with fail
            go_roundw
            case rel => exact ⟨k + 1, _, _, by omega, by go_num, HAA6, by rw [List.length_modify]; omega, HMO.out.1.1, HMO.out.1.2.1, HMO.out.1.2.2.1, HMO.out.1.2.2.2, HB6, hsz6⟩
            case measure => simp [intOf]; omega
          · have hst2 : Hid (letS m a ty = a ++ [⟨c, []⟩] ∨ True) := .inr trivial
            rw [if_neg hin] at hix
            simp only [Option.map_none, Option.getD_none, Option.isSome_none] at hix
            have hst3 : Hid (letS m a ty = (a ++ [(⟨c, []⟩ : Lt)]).modify a.length fun L => ⟨L.at_, L.ts ++ [ty]⟩) := by
              show _ = _; unfold letS; rw [← HCC.out, if_neg (fun h => hin (List.contains_iff_mem.1 h))]
              rw [modify_last]; simp
            obtain ⟨Av, cv, rfl⟩ := HLW.out.form
            have hnz : (a.map Lt.at_).length = a.length := by simp
            obtain ⟨w4, hrun, hm4, hg4, hz5⟩ := Mp.put (w := wr) (P := Tryz.prog) (mty := 116) HIX.out keySe Tryz.underlying116 c (a.map Lt.at_).length
            rw [put_zipN _ _ hin] at hm4
            rw [hnz] at hrun
            simp only [ekU, evN] at hrun
            have hM4 : Mp Value.string ekU w4 w0.heap.size m := HM.out.grown hg4 (by intro e; simp at e; exact hmb e)
            have hlk4 := Mp.look (w := w4) (P := Tryz.prog) (mty := 114) hM4 keyTx Tryz.underlying114 ty (hz3 _)
            rw [hlk2, ← HCC.out] at hlk4
            have hwlo : ∀ b, (Value.slice Av a.length cv).ownBlock = some b → w3.heap.size ≤ b := fun b hb => (HLW.out.2.1.lt b hb).1
            have hL4 : Lw w4 w3.heap.size (.slice Av a.length cv) a ss := HLW.out.grown hg4 (by
              rcases Option.eq_none_or_eq_some (Value.slice Av a.length cv).ownBlock with e | ⟨b, e⟩
              · exact .inl e
              · refine .inr fun e2 => ?_
                rw [e] at e2; simp at e2; have := hwlo b e; omega) (fun i hi => by
              rcases Option.eq_none_or_eq_some ss[i].ownBlock with e | ⟨b, e⟩
              · exact .inl e
              · refine .inr fun e2 => ?_
                rw [e] at e2; simp at e2; have := ((HLW.out.2.2.1 i (by have := HLW.out.1; omega) hi).lt b e).1; omega)
            have HL4 := Lib.hid hL4
            have HOW := Lib.hid (World.ownsRow.alloc hL4.2.1 (.cells #[.int .u64 (c : Int), .slice none 0 0] 112))
            have HRD := Lib.hid (Rd.lit w4 112 2 1 #[.int .u64 (c : Int), .slice none 0 0] (0, 0) rfl (by omega))
            have HM4 := Lib.hid hM4
            have HI4 := Lib.hid hm4
            have HG4 := Lib.hid hg4
            have hs4 : w3.heap.size ≤ w4.heap.size := by omega
            have HZ5 := Lib.hid hz5
            clear hL4 hM4 hm4 hg4 hst2 hz5
            go_wp2_with (at_builtin; go_loud (refine wpList_appR _ rfl (.tmp 71) (.tmp 76) 60 112 rfl _ 2 32 Tryz.underlying60 infoLt rfl (by decide) w3.heap.size rfl rfl HOW.out HRD.out ?_ ?_ ?_ ?_ ?_))
            · first | exact ⟨rfl, rfl⟩ | rfl | (intro u hu; simp at hu; rcases hu with rfl | rfl <;> rfl)
            · unfold maxLen; omega
            · omega
            · first | omega | (simp; omega)
            intro v6 w6 ho6 hg6 hat6
            have hls : ss.length = a.length := HLW.out.1
            have hbx4 := Lib.hid (box1 w4 (.cells #[.int .u64 (c : Int), .slice none 0 0] 112))
            have hL6 := Lw.new (x := c) (HL4.out.all hbx4.out) ho6 hg6 (by simpa using hat6)
            obtain ⟨g6, c6, rfl⟩ : ∃ g6 c6, v6 = .slice (some ⟨g6, 0, none⟩) (a.length + 1) c6 := by
              rcases ho6.2 with ⟨_, h0⟩ | ⟨g6, c6, _, he, _⟩
              · omega
              · exact ⟨g6, c6, he⟩
            have hc6 : a.length + 1 ≤ c6 := by
              rcases ho6.2 with ⟨h0, _⟩ | ⟨_, _, _, he, _, _, hc, _⟩
              · simp at h0
              · simp at he; omega
            have hg6l := ho6.lt g6 rfl
            have hsz6 : w4.heap.size + 1 ≤ w6.heap.size := by have := hg6.size; simpa using this
            have hnw : ∀ b, b < w3.heap.size → some b ≠ (Value.slice Av a.length cv).ownBlock := fun b hb e => by have := hwlo b e.symm; omega
            have hI6 : Mp ekU evN w6 wi ((a ++ [(⟨c, []⟩ : Lt)]).map Lt.at_).zipIdx := by
              rw [List.map_append]
              exact (HI4.out.all hbx4.out).grown hg6 (hnw wi (by omega))
            have hM6 : Mp Value.string ekU w6 w0.heap.size m := (HM4.out.all hbx4.out).grown hg6 (hnw _ (by have := hwi.out; omega))
            have hK6 : RdS w6 (fun b => b < w3.heap.size ∧ b ≠ wi) (.slice (some ⟨bt, ot, none⟩) ks.length ck) 1 ks.length (txC ks) := HKR.out.keep fun b o hb => by
              have h1 := hg6.cell_far ⟨b, o, none⟩ (by have := hb.1; simp; omega) (hnw b hb.1)
              have h2 := hbx4.out.cell (p := ⟨b, o, none⟩) (by have := hb.1; show b < _; omega)
              have h3 := HG4.out.cell_far ⟨b, o, none⟩ (by have := hb.1; show b < _; omega) (by intro e; simp at e; exact hb.2 e)
              exact h1.trans (h2.trans h3)
            have z0 := HB.out.size
            have z4 := HG4.out.size
            have zw := hwi.out
            have hB6 : Hid (Below w0.heap.size w0 w6) := by
              have h1 : Below w0.heap.size w0 w4 := HB.out.grown HG4.out (by omega) (fun k hk => by simp at hk; have := hwi.out; omega)
              exact (h1.alloc (by omega) _).grown hg6 (by simp; omega) fun k hk => by have := hwlo k hk; have := hwi.out; omega
            obtain ⟨a', HAP⟩ : ∃ x, Hid (x = a ++ [(⟨c, []⟩ : Lt)]) := ⟨_, Lib.hid rfl⟩
            obtain ⟨ss', HSP⟩ : ∃ x, Hid (x = ss ++ [Value.slice none 0 0]) := ⟨_, Lib.hid rfl⟩
            rw [← HAP.out] at hI6
            rw [← HAP.out, ← HSP.out] at hL6
            have hal' : a'.length = a.length + 1 := by rw [HAP.out]; simp
            have hss' : ss'.length = a.length + 1 := by rw [HSP.out]; simp [hls]
            have hia : a.length < a'.length := by omega
            have hi2 : a.length < ss'.length := by omega
            have hai : Hid (a'[a.length].ts = []) := by show _ = _; simp [HAP.out]
            have hsi : Hid (ss'[a.length] = .slice none 0 0) := by show _ = _; simp [HSP.out, ← hls]
            rw [← hal'] at hL6
            obtain ⟨c0, c1, c2⟩ := hL6.at hia
            have horow := hL6.2.2.1 a.length hia hi2
            have hngf := hL6.2.2.2.2 a.length hi2
            rw [hal'] at hL6
            obtain ⟨sv, HSV⟩ : ∃ x, Hid (x = ss'[a.length]) := ⟨_, Lib.hid rfl⟩
            rw [← HSV.out] at c1 horow hngf
            obtain ⟨Ai, ci, rfl⟩ := own_form horow
            have htl : a'[a.length].ts.length ≤ 100000000 := by rw [hai.out]; simp
            have HLE := Lib.hid (show LetI w6 w3.heap.size w0.heap.size wi (.slice (some ⟨g6, 0, none⟩) a'.length c6) a' ss' m (.slice (some ⟨bt, ot, none⟩) ks.length ck) ks from by rw [hal']; exact ⟨hL6, hI6, hM6, hK6⟩)
            have HAA6 : Hid (a'.modify a.length (fun L => ⟨L.at_, L.ts ++ [ty]⟩) = (ks.take (k + 1)).foldl (letS m) []) := by show _ = _; rw [hst.out, hst3.out, HAP.out]
            have hw36 : w3.heap.size ≤ w6.heap.size := by omega
            have HOW6 := Lib.hid (World.ownsRow.alloc horow (.cells #[.string ty] 9))
            have HRD6 := Lib.hid (Rd.lit w6 9 1 1 #[.string ty] (0, 0) rfl (by omega))
            have hiaI : (a.length : Int) < ((a.length + 1 : Nat) : Int) := by omega
            have hi0 : (0 : Int) ≤ (a.length : Int) := by omega
            clear HOW HRD HM4 HI4 HG4 HL4 HIX HM HKR HB HLW ho6 hg6 hat6 hbx4 hI6 hM6 hK6 hL6 hlk hlk4 hix hrun hst3 hst horow hin c0 HAA hwlo hnw
            go_wp2_with (at_builtin; refine wpList_appR _ rfl (.tmp 84) (.tmp 86) 41 9 rfl _ 1 16 Tryz.underlying41 infoTx rfl (by decide) w3.heap.size rfl rfl HOW6.out HRD6.out ?_ ?_ ?_ ?_ ?_)
            · first | rfl | (intro u hu; simp at hu; subst hu; rfl)
            · unfold maxLen; omega
            · omega
            · first | omega | (simp; omega)
            intro v' w5 ho5 hg5 hat5
            have hmore := LetI.more (w' := w5) (t := ty) (s := v') HLE.out (by omega) (by omega) hw36 hia hi2 ho5 (by rw [← HSV.out]; exact hg5) (by rw [← HSV.out]; exact hat5)
            have hbx := box1 w6 (.cells #[.string ty] 9)
            have hng : some g6 ≠ (Value.slice Ai a'[a.length].ts.length ci).ownBlock := by
              rcases hngf with e | e
              · rw [e]; simp
              · intro e2; exact e (by rw [← e2]; rfl)
            obtain ⟨A5, c5, rfl⟩ := own_form ho5
            have z1 : w5.cell? ⟨g6, a.length * 2 + 1, none⟩ = some (.slice Ai a'[a.length].ts.length ci) := ((hg5.cell_far ⟨g6, a.length * 2 + 1, none⟩ (by simp; omega) hng).trans (hbx.cell (p := ⟨g6, a.length * 2 + 1, none⟩) hg6l.2)).trans c1
            have z1f : w5.frozen? ⟨g6, a.length * 2 + 1, none⟩ = false := ((hg5.frozen_far ⟨g6, a.length * 2 + 1, none⟩ (by simp; omega) hng).trans (hbx.frozen (p := ⟨g6, a.length * 2 + 1, none⟩) hg6l.2)).trans c2
            have hgw5 : g6 < w5.heap.size := by have := hg5.size; simp at this; omega
            have HMO := Lib.hid hmore
            have HB7 : Hid (Below w0.heap.size w0 (w5.setCell ⟨g6, a.length * 2 + 1, none⟩ (.slice A5 (a'[a.length].ts.length + 1) c5))) := hB6.out.trans (hmore.2.mono (by omega))
            have hsz7 : w3.heap.size ≤ (w5.setCell ⟨g6, a.length * 2 + 1, none⟩ (.slice A5 (a'[a.length].ts.length + 1) c5)).heap.size := Nat.le_trans hw36 hmore.2.size
            clear hmore hg5 ho5 hat5 hbx hng HOW6 HRD6 hngf c1 c2
            rw [hal'] at HMO
            go_wp2_with fail
            go_roundw
            case rel => exact ⟨k + 1, _, _, by omega, by go_num, HAA6, by rw [List.length_modify]; omega, HMO.out.1.1, HMO.out.1.2.1, HMO.out.1.2.2.1, HMO.out.1.2.2.2, HB7, hsz7⟩
            case measure => simp [intOf]; omega
        · obtain rfl : k = ks.length := by omega
          have hfin : Hid (r = a) := by show _ = _; rw [HRR.out, HAA.out, List.take_of_length_le (Nat.le_refl _)]
          obtain ⟨Av, cv, rfl⟩ := HLW.out.form
          clear HR HRR HAA
          go_wp2
          go_ret
          refine ⟨_, ss, rfl, ?_, HB.out⟩
          rw [hfin.out]
          exact HLW.out.down (by have := hwi.out; omega)
end Go.Proofs.YtkbileabkfccgaaGreatDoor
