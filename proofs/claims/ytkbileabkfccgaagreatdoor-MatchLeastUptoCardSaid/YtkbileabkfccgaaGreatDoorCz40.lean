/- MatchLeast: the walk. -/
import Derived.Test.YtkbileabkfccgaaGreatDoorCz20
import Derived.Test.YtkbileabkfccgaaGreatDoorCz21
import Derived.Test.YtkbileabkfccgaaGreatDoorCz05
import Derived.Test.YtkbileabkfccgaaGreatDoorCz37
import Derived.Test.YtkbileabkfccgaaGreatDoorCz39
import Derived.Deep.DeepCutAuto
import Derived.Deep.RegionHeld3

namespace Go.Proofs.YtkbileabkfccgaaGreatDoor
open Go.RowKit

def exD (e : Ex) (s : Value) : Array Value := #[.int .i64 e.k, .string e.n, .int .i64 e.a, .int .i64 e.b, s]
/-- what the law holds on to -/
structure Ml (w0 w : World) (b0 : Nat) (e : Ex) (s vg : Value) (gs : List Gr) : Prop where
  bl : Below w0.heap.size w0 w
  k : Bk w b0 24 (exD e s)
  s : Kb w w0.heap.size s e.l
  g : Grs w w0.heap.size vg gs
  t : Tab w
structure Au (w : World) (b : Nat) (v : Value) (l : List St) : Prop where
  k : Bk w b 29 #[v]
  s : Sts w w.heap.size v l
section
variable {w0 w w' : World} {b0 b : Nat} {e : Ex} {s vg v : Value} {gs : List Gr} {l : List St}
theorem Ml.all (h : Ml w0 w b0 e s vg gs) (hb : Below w.heap.size w w') : Ml w0 w' b0 e s vg gs :=
  ⟨h.bl.trans (hb.mono h.bl.size), h.k.all hb, h.s.below (hb.mono h.bl.size), h.g.below (hb.mono h.bl.size), h.t.all hb⟩
theorem Au.all (h : Au w b v l) (hb : Below w.heap.size w w') : Au w' b v l := ⟨h.k.all hb, (h.s.below hb).mono hb.size⟩
theorem Ml.cells (h : Ml w0 w b0 e s vg gs) : w.cell? ⟨b0, 0, none⟩ = some (.int .i64 e.k) ∧ w.cell? ⟨b0, 1, none⟩ = some (.string e.n) ∧ w.cell? ⟨b0, 2, none⟩ = some (.int .i64 e.a) ∧ w.cell? ⟨b0, 3, none⟩ = some (.int .i64 e.b) ∧ w.cell? ⟨b0, 4, none⟩ = some s :=
  ⟨h.k.cell 0, h.k.cell 1, h.k.cell 2, h.k.cell 3, h.k.cell 4⟩
structure Tw (w : World) (b : Nat) (x : Ex) (s : Value) : Prop where
  k : Bk w b 24 (exD x s)
  s : Kb w w.heap.size s x.l
theorem Tw.all {x : Ex} (h : Tw w b x s) (hb : Below w.heap.size w w') : Tw w' b x s := ⟨h.k.all hb, (h.s.below hb).bmono hb.size⟩
theorem Tw.cells {x : Ex} (h : Tw w b x s) : w.cell? ⟨b, 0, none⟩ = some (.int .i64 x.k) ∧ w.cell? ⟨b, 1, none⟩ = some (.string x.n) ∧ w.cell? ⟨b, 2, none⟩ = some (.int .i64 x.a) ∧ w.cell? ⟨b, 3, none⟩ = some (.int .i64 x.b) ∧ w.cell? ⟨b, 4, none⟩ = some s :=
  ⟨h.k.cell 0, h.k.cell 1, h.k.cell 2, h.k.cell 3, h.k.cell 4⟩
theorem kids_one (h : Kb w b s e.l) (hB : b ≤ w.heap.size) : Kb (w.alloc (.cells (exD e s) 24)) (w.heap.size + 1) (.slice (some ⟨w.heap.size, 0, none⟩) 1 1) [e] := by
  have hr := Rd.lit w 24 5 1 (exD e s) (0, 0) rfl (by omega)
  refine .mk [e] _ [s] rfl ?_ fun i hi => ?_
  · exact RdS.of hr
  · obtain rfl : i = 0 := by simpa using hi
    exact (Kb.alloc h hB _).mono fun k hk => by omega
theorem kids_two (h : Kb w b s e.l) (hB : b ≤ w.heap.size) : Kb (w.alloc (.cells (exD e s ++ exD e s) 24)) (w.heap.size + 1) (.slice (some ⟨w.heap.size, 0, none⟩) 2 2) [e, e] := by
  have hr := Rd.lit w 24 5 2 (exD e s ++ exD e s) (0, 0) rfl (by omega)
  refine .mk [e, e] _ [s, s] rfl ?_ fun i hi => ?_
  · exact RdS.of hr
  · have h0 : Kd (w.alloc (.cells (exD e s ++ exD e s) 24)) (fun k => k < w.heap.size + 1) s e.l := (Kb.alloc h hB _).mono fun k hk => by omega
    match i, hi with
    | 0, _ => exact h0
    | 1, _ => exact h0
end
def twoE (e : Ex) : Ex := .mk 3 emS 0 0 [e, e]
def maybeE (e : Ex) : Ex := .mk 4 emS 0 1 [e]
theorem Tw.two {w : World} {b : Nat} {s : Value} {e : Ex} (h : Kb w b s e.l) (hB : b ≤ w.heap.size) :
    Tw ((w.alloc (.cells (exD e s ++ exD e s) 24)).alloc (.cells (exD (twoE e) (.slice (some ⟨w.heap.size, 0, none⟩) 2 2)) 24)) (w.heap.size + 1) (twoE e) (.slice (some ⟨w.heap.size, 0, none⟩) 2 2) :=
  ⟨bkNew1 w _ _ _, ((kids_two h hB).alloc (by simp) _).bmono (by simp)⟩
theorem Tw.maybe {w : World} {b : Nat} {s : Value} {e : Ex} (h : Kb w b s e.l) (hB : b ≤ w.heap.size) :
    Tw ((w.alloc (.cells (exD e s) 24)).alloc (.cells (exD (maybeE e) (.slice (some ⟨w.heap.size, 0, none⟩) 1 1)) 24)) (w.heap.size + 1) (maybeE e) (.slice (some ⟨w.heap.size, 0, none⟩) 1 1) :=
  ⟨bkNew1 w _ _ _, ((kids_one h hB).alloc (by simp) _).bmono (by simp)⟩
theorem makeC_of {e : Ex} {gs : List Gr} (h1 : checkE e = 0) (h2 : groupsE gs = 0) : makeC e gs = 0 := by unfold makeC orM; simp [h1, h2]
theorem makeL_two {e : Ex} {gs : List Gr} (hc : makeC e gs = 0) (h2 : checkE (twoE e) = 0) : makeC (twoE e) gs = 0 ∧ makeL (twoE e) gs = makeL e gs := by
  have hc2 := makeC_of h2 (makeC_zero hc).2
  refine ⟨hc2, ?_⟩
  unfold makeL
  rw [if_pos hc, if_pos hc2]
  have hp := (check_pos h2).2
  have e2 : posE (twoE e) = posE e + posE e := by show posL [e, e] = _; rw [posL, posL, posL]; rfl
  exact make_two emS 0 0 e gs (by omega)
theorem makeL_maybe {e : Ex} {gs : List Gr} (hg : groupsE gs = 0) (h2 : checkE (maybeE e) = 0) (h3 : checkE (maybeE (maybeE e)) = 0) :
    makeC (maybeE (maybeE e)) gs = 0 ∧ makeL (maybeE (maybeE e)) gs = makeL (maybeE e) gs := by
  have hc2 := makeC_of h2 hg
  have hc3 := makeC_of h3 hg
  refine ⟨hc3, ?_⟩
  unfold makeL
  rw [if_pos hc2, if_pos hc3]
  exact make_maybe emS emS e gs
/-- the table of an expression is good -/
theorem make_table {e : Ex} {gs : List Gr} (h : checkE e = 0) (hG : GFine gs) : (foundT (writeM e).1.bh (writeM e).2 (lettersM (writeM e).1.ns gs)).Ok ∧ (foundT (writeM e).1.bh (writeM e).2 (lettersM (writeM e).1.ns gs)).Fine ∧
    ((lettersM (writeM e).1.ns gs).flatMap Lt.ts).Nodup ∧ ∀ L ∈ lettersM (writeM e).1.ns gs, L.ts ≠ [] := by
  obtain ⟨hwf, hpos⟩ := check_pos h
  obtain ⟨hok, hnl, hend⟩ := write_ok e
  have hnm := write_names (check_parts h).2.1
  have hsz : ∀ n ∈ (writeM e).1.ns, ∀ t ∈ standsM n gs, t.size ≤ maxLen := fun n hn => stands_sizes (by have := hnm n hn; unfold maxLen; omega) hG.s
  have hlen : (atM (writeM e).1.ns gs).length ≤ 100000000 := by
    have := atM_len (M := 1048576) (by omega) hG.n (writeM e).1.ns
    have h2 : ((writeM e).1.ns.length - 1) * 1048576 ≤ 24 * 1048576 := Nat.mul_le_mul_right _ (by omega)
    omega
  obtain ⟨l1, l2, l3, _⟩ := lettersM_ok (G := fun t => t.size ≤ maxLen) hsz
  have hlo := letters_ok (2 ^ (writeM e).1.ns.length) (atM (writeM e).1.ns gs) (fun t => (atM_ok (G := fun _ => True) (fun _ _ _ _ => trivial)).look (Nat.two_pow_pos _) t) (sortTx ((atM (writeM e).1.ns gs).map Prod.fst)) [] [] ⟨by simp, by simp, by simp⟩
  have hfl : ((lettersM (writeM e).1.ns gs).flatMap Lt.ts).length ≤ 1000000000000 := by
    have h1 := hlo.p.length_eq
    rw [List.nil_append, sortTx_len, List.length_map] at h1
    show (((sortTx ((atM (writeM e).1.ns gs).map Prod.fst)).foldl (letS (atM (writeM e).1.ns gs)) []).flatMap Lt.ts).length ≤ _
    omega
  have hbh : ∀ x ∈ (writeM e).1.bh, x < 33554432 := fun x hx => pow_25 (hok.2 x hx) (by omega)
  exact ⟨foundT_ok hbh (pow_25 hend (by omega)) (by omega), fine_of l2 hfl, l2, hlo.e⟩
/-- no two states of a machine end alike and lead to the same -/
theorem makeL_least {e : Ex} {gs : List Gr} (hc : makeC e gs = 0) (hG : GFine gs) {i j : Nat} (hi : i < (makeL e gs).length) (hj : j < (makeL e gs).length) (hij : i ≠ j) (hb : (makeL e gs)[i].b = (makeL e gs)[j].b) : decide ((makeL e gs)[i].es = (makeL e gs)[j].es) = false := by
  rw [decide_eq_false_iff_not]
  intro he
  obtain ⟨t1, t2, t3, t4⟩ := make_table (makeC_zero hc).1 hG
  have hm : makeL e gs = makeM e gs := by unfold makeL; rw [if_pos hc]
  generalize makeL e gs = M at *
  subst hm
  unfold makeM at hi hj hb he
  refine auto_least _ ?_ t3 t4 (fun i hi => (t2 i hi).1) (mergeM_len _) hi hj hij hb he
  intro i k hi hk
  obtain ⟨_, _, h3, h4, _⟩ := t1
  unfold toM
  have hi' : i < (foundT (writeM e).1.bh (writeM e).2 (lettersM (writeM e).1.ns gs)).to.length := by omega
  obtain ⟨r1, r2⟩ := h4 _ (List.getElem_mem hi')
  have e1 : (foundT (writeM e).1.bh (writeM e).2 (lettersM (writeM e).1.ns gs)).to.getD i [] = (foundT (writeM e).1.bh (writeM e).2 (lettersM (writeM e).1.ns gs)).to[i] := by
    rw [List.getD_eq_getElem?_getD, List.getElem?_eq_getElem hi']; rfl
  rw [e1, List.getD_eq_getElem?_getD, List.getElem?_eq_getElem (by omega), Option.getD_some]
  exact (r2 _ (List.getElem_mem _)).2
theorem tabAt_of {w : World} {g : Nat} {tab : List Nat} {et : TypeId} {fz : Nat × Nat} (hT : w.heap[g]? = some (.cells (tab.map fun (n : Nat) => Value.int .u8 n).toArray et fz)) : TabAt g tab w := fun j hj => by
  rw [cell_of_row w g j _ _ _ hT]
  simp [hj]

set_option maxRecDepth 100000 in
set_option maxHeartbeats 3200000 in
theorem matchLeast_walk (e : Ex) (s vg : Value) (gs : List Gr) (w0 : World) (hs : Kb w0 w0.heap.size s e.l) (hg : Grs w0 w0.heap.size vg gs) (hG : GFine gs) {et : TypeId} {fz : Nat × Nat}
    (hT : w0.heap[0]? = some (.cells (Lib.deBruijn64tab.map fun (n : Nat) => Value.int .u8 n).toArray et fz)) :
    Calls Tryz.prog 3 #[exV e s, vg] w0 fun x w' => x = .returned (.bool true) ∧ Below w0.heap.size w0 w' := by
  obtain ⟨A, cap, rfl⟩ := hs.form
  have htab : Tab w0 := ⟨tabAt_of hT, (Array.getElem?_eq_some_iff.1 hT).1⟩
  have hpos : 0 < w0.heap.size := htab.2
  have HM0 : Hid (Ml w0 (w0.alloc (.cells (exD e (.slice A e.l.length cap)) 24)) w0.heap.size e (.slice A e.l.length cap) vg gs) :=
    ⟨box1 w0 _, Bk.new w0 _ _, hs.below (box1 w0 _), hg.below (box1 w0 _), htab.all (box1 w0 _)⟩
  have LV := Lib.hid (matchLives_walk (w0.alloc (.cells (exD e (.slice A e.l.length cap)) 24)) (e := et) (fz := fz) (by rw [(box1 w0 _).block _ hpos]; exact hT))
  clear hs hg hT htab
  unfold exD at LV
  unfold exV
  go_enter Tryz.func3, Tryz.ntmps3
  go_wp2_with fail
  refine LV.out.mono ?_
  rintro x w1 ⟨rfl, hb1⟩
  have HM1 := Lib.hid (HM0.out.all hb1)
  clear LV hb1 HM0
  have hlt1 : w0.heap.size < w1.heap.size := HM1.out.k.lt
  obtain ⟨q0, q1, q2, q3, q4⟩ := HM1.out.cells
  have CM := Lib.hid (Make_any e (.slice A e.l.length cap) vg gs w0.heap.size w1 HM1.out.s HM1.out.g HM1.out.bl.size hpos HM1.out.t hG)
  unfold exV at CM
  go_wp2_with fail
  refine CM.out.mono ?_
  rintro x w2 ⟨va, rfl, hsa, hb2⟩
  obtain ⟨c, HC⟩ : ∃ c, Hid (c = makeC e gs) := ⟨makeC e gs, Lib.hid rfl⟩
  rw [← HC.out]
  obtain ⟨la, HL⟩ : ∃ la, Hid (la = makeL e gs) := ⟨makeL e gs, Lib.hid rfl⟩
  rw [← HL.out] at hsa
  obtain ⟨Av, cv, rfl⟩ := hsa.form
  have HM2 := Lib.hid ((HM1.out.all hb2).all (box1 w2 (.cells #[.slice Av la.length cv] 29)))
  have HA2 : Hid (Au (w2.alloc (.cells #[.slice Av la.length cv] 29)) w2.heap.size (.slice Av la.length cv) la) := ⟨Bk.new w2 _ _, (hsa.below (box1 w2 _)).mono (box1 w2 _).size⟩
  have hml := hsa.max
  unfold maxLen at hml
  clear CM hb2 HM1 q0 q1 q2 q3 q4 hlt1 hsa
  unfold auV
  obtain ⟨W2, HW2⟩ : ∃ W2 : World, Hid (W2 = w2.alloc (.cells #[.slice Av la.length cv] 29)) := ⟨_, Lib.hid rfl⟩
  rw [← HW2.out] at HM2 HA2
  obtain ⟨ab, HAB⟩ : ∃ ab, Hid (ab = w2.heap.size) := ⟨_, Lib.hid rfl⟩
  rw [← HAB.out] at HA2
  by_cases hc : c = 0
  · subst hc
    have hcz := makeC_zero HC.out.symm
    have SZ := Lib.hid (RSize_any e (.slice A e.l.length cap) w0.heap.size W2 HM2.out.s HM2.out.bl.size)
    obtain ⟨z, HZ⟩ : ∃ z, Hid (z = sizeN e) := ⟨sizeN e, Lib.hid rfl⟩
    rw [← HZ.out] at SZ
    unfold exV at SZ
    go_upto_region 4 with fail
    rw [← HW2.out, ← HAB.out]
    obtain ⟨q0, q1, q2, q3, q4⟩ := HM2.out.cells
    have hlt2 : w0.heap.size < W2.heap.size := HM2.out.k.lt
    clear HW2 HAB
    go_wp2_with fail
    refine SZ.out.mono ?_
    rintro x w3 ⟨rfl, hb3⟩
    have HM3 := Lib.hid (HM2.out.all hb3)
    have HA3 := Lib.hid (HA2.out.all hb3)
    clear SZ hb3 HM2 HA2 q0 q1 q2 q3 q4 hlt2
    by_cases hz : 12 < z
    · go_wp2_with fail
      go_ret
      exact ⟨rfl, HM3.out.bl⟩
    · obtain ⟨q0, q1, q2, q3, q4⟩ := HM3.out.cells
      have hlt3 : w0.heap.size < w3.heap.size := HM3.out.k.lt
      go_upto_region 7 with fail
      have HTW : Hid (Tw _ (w3.heap.size + 1) (twoE e) (.slice (some ⟨w3.heap.size, 0, none⟩) 2 2)) := Tw.two HM3.out.s HM3.out.bl.size
      have HM4 := Lib.hid ((HM3.out.all (box1 w3 (.cells (exD e (.slice A e.l.length cap) ++ exD e (.slice A e.l.length cap)) 24))).all (box1 _ (.cells (exD (twoE e) (.slice (some ⟨w3.heap.size, 0, none⟩) 2 2)) 24)))
      have HA4 := Lib.hid ((HA3.out.all (box1 w3 (.cells (exD e (.slice A e.l.length cap) ++ exD e (.slice A e.l.length cap)) 24))).all (box1 _ (.cells (exD (twoE e) (.slice (some ⟨w3.heap.size, 0, none⟩) 2 2)) 24)))
      obtain ⟨W4, HW4⟩ : ∃ W4 : World, Hid (W4 = (w3.alloc (.cells (exD e (.slice A e.l.length cap) ++ exD e (.slice A e.l.length cap)) 24)).alloc (.cells (exD (twoE e) (.slice (some ⟨w3.heap.size, 0, none⟩) 2 2)) 24)) := ⟨_, Lib.hid rfl⟩
      have hw4 : (w3.alloc (.cells #[.int .i64 e.k, .string e.n, .int .i64 e.a, .int .i64 e.b, .slice A e.l.length cap, .int .i64 e.k, .string e.n, .int .i64 e.a, .int .i64 e.b, .slice A e.l.length cap] 24)).alloc (.cells #[.int .i64 3, .string ⟨#[]⟩, .int .i64 0, .int .i64 0, .slice (some ⟨w3.heap.size, 0, none⟩) 2 2] 24) = W4 := HW4.out.symm
      rw [← HW4.out] at HTW HM4 HA4
      rw [hw4]
      obtain ⟨tb, HTB⟩ : ∃ tb, Hid (tb = w3.heap.size + 1) := ⟨_, Lib.hid rfl⟩
      obtain ⟨s2, HS2⟩ : ∃ s2, Hid (s2 = Value.slice (some ⟨w3.heap.size, 0, none⟩) 2 2) := ⟨_, Lib.hid rfl⟩
      rw [← HTB.out, ← HS2.out] at HTW
      rw [← HTB.out]
      clear hw4 HW4 HM3 HA3 q0 q1 q2 q3 q4 hlt3
      obtain ⟨dd, HDD⟩ : ∃ d : Bool, Hid (d = (decide (e.k ≠ 3) && decide (checkE (twoE e) = 0))) := ⟨_, Lib.hid rfl⟩
      go_cut [52] (fun x wx => x = .bool dd ∧ Hid (Ml w0 wx w0.heap.size e (.slice A e.l.length cap) vg gs) ∧ Hid (Au wx ab (.slice Av la.length cv) la) ∧ Hid (Tw wx tb (twoE e) s2))
      case first =>
        obtain ⟨q0, q1, q2, q3, q4⟩ := HM4.out.cells
        have hlt4 : w0.heap.size < W4.heap.size := HM4.out.k.lt
        by_cases h3 : e.k = 3
        · have h3b : (e.k != 3) = false := by simp [h3]
          have hd : Hid (Value.bool false = .bool dd) := by show _ = _; rw [HDD.out]; simp [h3]
          clear h3 HDD
          go_wp2_with fail
          go_meet
          exact ⟨hd.out, HM4, HA4, HTW⟩
        · have h3b : (e.k != 3) = true := by simpa using h3
          have hd : Hid (dd = decide (checkE (twoE e) = 0)) := by show _ = _; rw [HDD.out]; simp [h3]
          obtain ⟨p0, p1, p2, p3, p4⟩ := HTW.out.cells
          have hltb : tb < W4.heap.size := HTW.out.k.lt
          have RC := Lib.hid (RCheck_any (twoE e) s2 W4.heap.size W4 HTW.out.s (Nat.le_refl _))
          obtain ⟨y, HY⟩ : ∃ y, Hid (y = checkE (twoE e)) := ⟨checkE (twoE e), Lib.hid rfl⟩
          rw [← HY.out] at RC hd
          unfold exV at RC
          unfold twoE at RC p0 p1 p2 p3
          simp only [Ex.k, Ex.n, Ex.a, Ex.b] at RC p0 p1 p2 p3
          clear h3 HDD
          go_wp2_with fail
          refine RC.out.mono ?_
          rintro x w5 ⟨rfl, hb5⟩
          have HM5 := Lib.hid (HM4.out.all hb5)
          have HA5 := Lib.hid (HA4.out.all hb5)
          have HT5 := Lib.hid (HTW.out.all hb5)
          clear RC hb5
          go_wp2_with fail
          go_meet
          exact ⟨by rw [hd.out, Bool.beq_eq_decide_eq], HM5, HA5, HT5⟩
      case rest =>
        obtain ⟨rfl, HM5, HA5, HT5⟩ := hcut
        clear HM4 HA4 HTW HTB HS2
        go_upto_if 52 with fail
        go_cut [8, 9] (fun _ _ wx => Hid (Ml w0 wx w0.heap.size e (.slice A e.l.length cap) vg gs) ∧ Hid (Au wx ab (.slice Av la.length cv) la))
        case first =>
          cases dd
          · go_wp2_with fail
            go_meet
            exact ⟨HM5, HA5⟩
          · have hch : checkE (twoE e) = 0 := by have := HDD.out; simp at this; exact this.2
            obtain ⟨hm2, hl2⟩ := makeL_two HC.out.symm hch
            obtain ⟨p0, p1, p2, p3, p4⟩ := HT5.out.cells
            have hltb : tb < wc.heap.size := HT5.out.k.lt
            have CM := Lib.hid (Make_any (twoE e) s2 vg gs wc.heap.size wc HT5.out.s (HM5.out.g.mono HM5.out.bl.size) (Nat.le_refl _) (by omega) HM5.out.t hG)
            unfold MkR at CM
            rw [hm2, hl2, ← HL.out] at CM
            unfold exV at CM
            unfold twoE at CM p0 p1 p2 p3
            simp only [Ex.k, Ex.n, Ex.a, Ex.b] at CM p0 p1 p2 p3
            clear HDD hch hm2 hl2
            go_wp2_with fail
            refine CM.out.mono ?_
            rintro x w6 ⟨vb, rfl, hsb, hb6⟩
            obtain ⟨Ab, cb, rfl⟩ := hsb.form
            have HM6 := Lib.hid ((HM5.out.all hb6).all (box1 w6 (.cells #[.slice Ab la.length cb] 29)))
            have HA6 := Lib.hid ((HA5.out.all hb6).all (box1 w6 (.cells #[.slice Ab la.length cb] 29)))
            have HB6 : Hid (Au (w6.alloc (.cells #[.slice Ab la.length cb] 29)) w6.heap.size (.slice Ab la.length cb) la) := ⟨Bk.new w6 _ _, (hsb.below (box1 w6 _)).mono (box1 w6 _).size⟩
            have SM := Lib.hid (SameA_any la la _ _ _ (w6.alloc (.cells #[.slice Ab la.length cb] 29)) HA6.out.s HB6.out.s (Nat.le_refl _))
            have a0 : (w6.alloc (.cells #[.slice Ab la.length cb] 29)).cell? ⟨ab, 0, none⟩ = some (.slice Av la.length cv) := HA6.out.k.cell 0
            have hlab : ab < (w6.alloc (.cells #[.slice Ab la.length cb] 29)).heap.size := HA6.out.k.lt
            have hdt : decide (la = la) = true := by simp
            rw [hdt] at SM
            unfold auV at SM ⊢
            clear CM hsb hb6 HM5 HA5 HT5 p0 p1 p2 p3 p4 hltb hdt
            go_wp2_with fail
            refine SM.out.mono ?_
            rintro x w7 ⟨rfl, hb7⟩
            have HM7 := Lib.hid (HM6.out.all hb7)
            have HA7 := Lib.hid (HA6.out.all hb7)
            clear SM hb7 HM6 HA6 HB6 a0 hlab
            go_wp2_with fail
            go_meet
            exact ⟨HM7, HA7⟩
        case rest =>
          obtain ⟨HM7, HA7⟩ := hcut
          clear HM5 HA5 HT5 HDD
          obtain ⟨q0, q1, q2, q3, q4⟩ := HM7.out.cells
          have hlt7 : w0.heap.size < wc.heap.size := HM7.out.k.lt
          go_upto_region 12 with fail
          have HTW : Hid (Tw _ (wc.heap.size + 1) (maybeE e) (.slice (some ⟨wc.heap.size, 0, none⟩) 1 1)) := Tw.maybe HM7.out.s HM7.out.bl.size
          have HM8 := Lib.hid ((HM7.out.all (box1 wc (.cells (exD e (.slice A e.l.length cap)) 24))).all (box1 _ (.cells (exD (maybeE e) (.slice (some ⟨wc.heap.size, 0, none⟩) 1 1)) 24)))
          have HA8 := Lib.hid ((HA7.out.all (box1 wc (.cells (exD e (.slice A e.l.length cap)) 24))).all (box1 _ (.cells (exD (maybeE e) (.slice (some ⟨wc.heap.size, 0, none⟩) 1 1)) 24)))
          obtain ⟨W8, HW8⟩ : ∃ W8 : World, Hid (W8 = (wc.alloc (.cells (exD e (.slice A e.l.length cap)) 24)).alloc (.cells (exD (maybeE e) (.slice (some ⟨wc.heap.size, 0, none⟩) 1 1)) 24)) := ⟨_, Lib.hid rfl⟩
          have hw8 : (wc.alloc (.cells #[.int .i64 e.k, .string e.n, .int .i64 e.a, .int .i64 e.b, .slice A e.l.length cap] 24)).alloc (.cells #[.int .i64 4, .string ⟨#[]⟩, .int .i64 0, .int .i64 1, .slice (some ⟨wc.heap.size, 0, none⟩) 1 1] 24) = W8 := HW8.out.symm
          rw [← HW8.out] at HTW HM8 HA8
          rw [hw8]
          obtain ⟨mb, HMB⟩ : ∃ tb, Hid (tb = wc.heap.size + 1) := ⟨_, Lib.hid rfl⟩
          obtain ⟨s3, HS3⟩ : ∃ s2, Hid (s2 = Value.slice (some ⟨wc.heap.size, 0, none⟩) 1 1) := ⟨_, Lib.hid rfl⟩
          rw [← HMB.out, ← HS3.out] at HTW
          rw [← HMB.out]
          obtain ⟨A3, c3, hs3⟩ : ∃ A3 c3, s3 = .slice A3 1 c3 := ⟨_, _, HS3.out⟩
          subst hs3
          clear hw8 HW8 HM7 HA7 q0 q1 q2 q3 q4 hlt7
          obtain ⟨d2, HD2⟩ : ∃ d : Bool, Hid (d = decide (checkE (maybeE e) = 0)) := ⟨_, Lib.hid rfl⟩
          go_cut [72] (fun x wx => x = .bool d2 ∧ Hid (Ml w0 wx w0.heap.size e (.slice A e.l.length cap) vg gs) ∧ Hid (Au wx ab (.slice Av la.length cv) la) ∧ Hid (Tw wx mb (maybeE e) (.slice A3 1 c3)))
          case first =>
            obtain ⟨p0, p1, p2, p3, p4⟩ := HTW.out.cells
            have hltb : mb < W8.heap.size := HTW.out.k.lt
            have RC := Lib.hid (RCheck_any (maybeE e) (.slice A3 1 c3) W8.heap.size W8 HTW.out.s (Nat.le_refl _))
            obtain ⟨y, HY⟩ : ∃ y, Hid (y = checkE (maybeE e)) := ⟨checkE (maybeE e), Lib.hid rfl⟩
            rw [← HY.out] at RC HD2
            unfold exV at RC
            unfold maybeE at RC p0 p1 p2 p3
            simp only [Ex.k, Ex.n, Ex.a, Ex.b] at RC p0 p1 p2 p3
            go_wp2_with fail
            refine RC.out.mono ?_
            rintro x w9 ⟨rfl, hb9⟩
            have HM9 := Lib.hid (HM8.out.all hb9)
            have HA9 := Lib.hid (HA8.out.all hb9)
            have HT9 := Lib.hid (HTW.out.all hb9)
            clear RC hb9
            go_wp2_with fail
            go_meet
            exact ⟨by rw [HD2.out, Bool.beq_eq_decide_eq], HM9, HA9, HT9⟩
          case rest =>
            obtain ⟨rfl, HM9, HA9, HT9⟩ := hcut
            clear HM8 HA8 HTW HMB HS3
            go_upto_if 72 with fail
            go_cut [11, 12, 13, 14, 15] (fun _ _ _ _ _ wx => Hid (Ml w0 wx w0.heap.size e (.slice A e.l.length cap) vg gs) ∧ Hid (Au wx ab (.slice Av la.length cv) la))
            case first =>
              cases d2
              · go_wp2_with fail
                go_meet
                exact ⟨HM9, HA9⟩
              · have hch : checkE (maybeE e) = 0 := by have := HD2.out; simpa using this
                have hm2 := makeC_of hch hcz.2
                obtain ⟨p0, p1, p2, p3, p4⟩ := HT9.out.cells
                have hltb : mb < wc.heap.size := HT9.out.k.lt
                have CM := Lib.hid (Make_any (maybeE e) (.slice A3 1 c3) vg gs wc.heap.size wc HT9.out.s (HM9.out.g.mono HM9.out.bl.size) (Nat.le_refl _) (by omega) HM9.out.t hG)
                unfold MkR at CM
                obtain ⟨lb, HLB⟩ : ∃ lb, Hid (lb = makeL (maybeE e) gs) := ⟨_, Lib.hid rfl⟩
                rw [hm2, ← HLB.out] at CM
                have HHC := Lib.hid hch
                unfold exV at CM
                unfold maybeE at CM p0 p1 p2 p3
                simp only [Ex.k, Ex.n, Ex.a, Ex.b] at CM p0 p1 p2 p3
                clear HD2 hch hm2
                go_wp2_with fail
                refine CM.out.mono ?_
                rintro x w10 ⟨vb, rfl, hsb, hb10⟩
                obtain ⟨Ab, cb, rfl⟩ := hsb.form
                have HMx := Lib.hid ((HM9.out.all hb10).all (box1 w10 (.cells #[.slice Ab lb.length cb] 29)))
                have HAx := Lib.hid ((HA9.out.all hb10).all (box1 w10 (.cells #[.slice Ab lb.length cb] 29)))
                have HTx := Lib.hid ((HT9.out.all hb10).all (box1 w10 (.cells #[.slice Ab lb.length cb] 29)))
                have HBx : Hid (Au (w10.alloc (.cells #[.slice Ab lb.length cb] 29)) w10.heap.size (.slice Ab lb.length cb) lb) := ⟨Bk.new w10 _ _, (hsb.below (box1 w10 _)).mono (box1 w10 _).size⟩
                obtain ⟨W10, HW10⟩ : ∃ W10 : World, Hid (W10 = w10.alloc (.cells #[.slice Ab lb.length cb] 29)) := ⟨_, Lib.hid rfl⟩
                rw [← HW10.out] at HMx HAx HTx HBx
                obtain ⟨bb, HBB⟩ : ∃ ab, Hid (ab = w10.heap.size) := ⟨_, Lib.hid rfl⟩
                rw [← HBB.out] at HBx
                unfold auV
                clear CM hsb hb10 HM9 HA9 HT9 p0 p1 p2 p3 p4 hltb
                go_upto_region 14 with fail
                rw [← HW10.out, ← HBB.out]
                clear HW10 HBB
                obtain ⟨p0, p1, p2, p3, p4⟩ := HTx.out.cells
                have hltb : mb < W10.heap.size := HTx.out.k.lt
                have HT2 : Hid (Tw _ (W10.heap.size + 1) (maybeE (maybeE e)) (.slice (some ⟨W10.heap.size, 0, none⟩) 1 1)) := Tw.maybe HTx.out.s (Nat.le_refl _)
                have HMy := Lib.hid ((HMx.out.all (box1 W10 (.cells (exD (maybeE e) (.slice A3 1 c3)) 24))).all (box1 _ (.cells (exD (maybeE (maybeE e)) (.slice (some ⟨W10.heap.size, 0, none⟩) 1 1)) 24)))
                have HAy := Lib.hid ((HAx.out.all (box1 W10 (.cells (exD (maybeE e) (.slice A3 1 c3)) 24))).all (box1 _ (.cells (exD (maybeE (maybeE e)) (.slice (some ⟨W10.heap.size, 0, none⟩) 1 1)) 24)))
                have HBy := Lib.hid ((HBx.out.all (box1 W10 (.cells (exD (maybeE e) (.slice A3 1 c3)) 24))).all (box1 _ (.cells (exD (maybeE (maybeE e)) (.slice (some ⟨W10.heap.size, 0, none⟩) 1 1)) 24)))
                obtain ⟨W11, HW11⟩ : ∃ W11 : World, Hid (W11 = (W10.alloc (.cells (exD (maybeE e) (.slice A3 1 c3)) 24)).alloc (.cells (exD (maybeE (maybeE e)) (.slice (some ⟨W10.heap.size, 0, none⟩) 1 1)) 24)) := ⟨_, Lib.hid rfl⟩
                have hw11 : (W10.alloc (.cells #[.int .i64 4, .string ⟨#[]⟩, .int .i64 0, .int .i64 1, .slice A3 1 c3] 24)).alloc (.cells #[.int .i64 4, .string ⟨#[]⟩, .int .i64 0, .int .i64 1, .slice (some ⟨W10.heap.size, 0, none⟩) 1 1] 24) = W11 := HW11.out.symm
                rw [← HW11.out] at HT2 HMy HAy HBy
                have HWW := Lib.hid hw11
                simp only [maybeE, Ex.k, Ex.n, Ex.a, Ex.b, emS] at p0 p1 p2 p3
                clear hw11 HW11 HMx HAx HBx HTx
                go_upto_region 15 with fail
                rw [HWW.out]
                obtain ⟨nb, HNB⟩ : ∃ tb, Hid (tb = W10.heap.size + 1) := ⟨_, Lib.hid rfl⟩
                obtain ⟨s4, HS4⟩ : ∃ s2, Hid (s2 = Value.slice (some ⟨W10.heap.size, 0, none⟩) 1 1) := ⟨_, Lib.hid rfl⟩
                rw [← HNB.out, ← HS4.out] at HT2
                rw [← HNB.out]
                obtain ⟨A4, c4, hs4⟩ : ∃ A4 c4, s4 = .slice A4 1 c4 := ⟨_, _, HS4.out⟩
                subst hs4
                clear HWW HNB HS4 p0 p1 p2 p3 p4 hltb
                obtain ⟨p0, p1, p2, p3, p4⟩ := HT2.out.cells
                have hltb : nb < W11.heap.size := HT2.out.k.lt
                have CM := Lib.hid (Make_any (maybeE (maybeE e)) (.slice A4 1 c4) vg gs W11.heap.size W11 HT2.out.s (HMy.out.g.mono HMy.out.bl.size) (Nat.le_refl _) (by omega) HMy.out.t hG)
                unfold MkR at CM
                obtain ⟨lc, HLC⟩ : ∃ lb, Hid (lb = makeL (maybeE (maybeE e)) gs) := ⟨_, Lib.hid rfl⟩
                obtain ⟨mc, HMC⟩ : ∃ lb, Hid (lb = makeC (maybeE (maybeE e)) gs) := ⟨_, Lib.hid rfl⟩
                rw [← HLC.out, ← HMC.out] at CM
                have HAG : Hid (checkE (maybeE (maybeE e)) = 0 → mc = 0 ∧ lc = lb) := fun h => by
                  have := makeL_maybe hcz.2 HHC.out h
                  exact ⟨HMC.out.trans this.1, by rw [HLC.out, HLB.out, this.2]⟩
                obtain ⟨y, HY⟩ : ∃ y, Hid (y = checkE (maybeE (maybeE e))) := ⟨_, Lib.hid rfl⟩
                rw [← HY.out] at HAG
                have HRC := Lib.hid fun (w : World) (h : Tw w nb (maybeE (maybeE e)) (.slice A4 1 c4)) => RCheck_any (maybeE (maybeE e)) (.slice A4 1 c4) w.heap.size w h.s (Nat.le_refl _)
                rw [← HY.out] at HRC
                unfold exV at CM HRC
                simp only [maybeE, Ex.k, Ex.n, Ex.a, Ex.b] at CM p0 p1 p2 p3 HRC
                clear HLC HMC HHC HLB HY
                go_wp2_with fail
                refine CM.out.mono ?_
                rintro x w12 ⟨vc, rfl, hsc, hb12⟩
                obtain ⟨Ac, cc, rfl⟩ := hsc.form
                have HM3 := Lib.hid ((HMy.out.all hb12).all (box1 w12 (.cells #[.slice Ac lc.length cc] 29)))
                have HA3 := Lib.hid ((HAy.out.all hb12).all (box1 w12 (.cells #[.slice Ac lc.length cc] 29)))
                have HB3 := Lib.hid ((HBy.out.all hb12).all (box1 w12 (.cells #[.slice Ac lc.length cc] 29)))
                have HT3 := Lib.hid ((HT2.out.all hb12).all (box1 w12 (.cells #[.slice Ac lc.length cc] 29)))
                have HC3 : Hid (Au (w12.alloc (.cells #[.slice Ac lc.length cc] 29)) w12.heap.size (.slice Ac lc.length cc) lc) := ⟨Bk.new w12 _ _, (hsc.below (box1 w12 _)).mono (box1 w12 _).size⟩
                obtain ⟨W12, HW12⟩ : ∃ W12 : World, Hid (W12 = w12.alloc (.cells #[.slice Ac lc.length cc] 29)) := ⟨_, Lib.hid rfl⟩
                rw [← HW12.out] at HM3 HA3 HB3 HT3 HC3
                obtain ⟨cb3, HCB⟩ : ∃ ab, Hid (ab = w12.heap.size) := ⟨_, Lib.hid rfl⟩
                rw [← HCB.out] at HC3
                unfold auV
                clear CM hsc hb12 HMy HAy HBy HT2 p0 p1 p2 p3 p4 hltb
                go_upto_region 16 with fail
                rw [← HW12.out, ← HCB.out]
                clear HW12 HCB
                obtain ⟨p0, p1, p2, p3, p4⟩ := HT3.out.cells
                have hltb : nb < W12.heap.size := HT3.out.k.lt
                have RC := Lib.hid (HRC.out W12 HT3.out)
                simp only [maybeE, Ex.k, Ex.n, Ex.a, Ex.b] at p0 p1 p2 p3
                clear HRC
                by_cases hy : y = 0
                · subst hy
                  obtain ⟨rfl, rfl⟩ := HAG.out rfl
                  clear HAG
                  go_wp2_with fail
                  refine RC.out.mono ?_
                  rintro x w13 ⟨rfl, hb13⟩
                  have HM4 := Lib.hid (HM3.out.all hb13)
                  have HA4 := Lib.hid (HA3.out.all hb13)
                  have HB4 := Lib.hid (HB3.out.all hb13)
                  have HC4 := Lib.hid (HC3.out.all hb13)
                  have SM := Lib.hid (SameA_any lc lc _ _ _ w13 HB4.out.s HC4.out.s (Nat.le_refl _))
                  have hdt : decide (lc = lc) = true := by simp
                  rw [hdt] at SM
                  have a0 : w13.cell? ⟨bb, 0, none⟩ = some (.slice Ab lc.length cb) := HB4.out.k.cell 0
                  have hlab : bb < w13.heap.size := HB4.out.k.lt
                  have a1 : w13.cell? ⟨cb3, 0, none⟩ = some (.slice Ac lc.length cc) := HC4.out.k.cell 0
                  have hlac : cb3 < w13.heap.size := HC4.out.k.lt
                  unfold auV at SM
                  clear RC hb13 HM3 HA3 HB3 HC3 HT3 p0 p1 p2 p3 p4 hltb hdt
                  go_wp2_with fail
                  refine SM.out.mono ?_
                  rintro x w14 ⟨rfl, hb14⟩
                  have HM5 := Lib.hid (HM4.out.all hb14)
                  have HA5 := Lib.hid (HA4.out.all hb14)
                  clear SM hb14 HM4 HA4 HB4 HC4 a0 a1 hlab hlac
                  go_wp2_with fail
                  go_meet
                  exact ⟨HM5, HA5⟩
                · have hyb : (y == 0) = false := by simpa using hy
                  clear HAG
                  go_wp2_with fail
                  refine RC.out.mono ?_
                  rintro x w13 ⟨rfl, hb13⟩
                  have HM4 := Lib.hid (HM3.out.all hb13)
                  have HA4 := Lib.hid (HA3.out.all hb13)
                  clear RC hb13 HM3 HA3 HB3 HC3 HT3 p0 p1 p2 p3 p4 hltb
                  go_wp2_with fail
                  go_meet
                  exact ⟨HM4, HA4⟩
            case rest =>
              obtain ⟨HMz, HAz⟩ := hcut
              clear HM9 HA9 HT9 HD2
              go_wp2_with fail
              go_loopw [16, 17] (fun x _ wr => ∃ n : Nat, n ≤ la.length ∧ x = .int .i64 (n : Int) ∧ Hid (Ml w0 wr w0.heap.size e (.slice A e.l.length cap) vg gs) ∧ Hid (Au wr ab (.slice Av la.length cv) la)) (fun x _ _ => la.length - (intOf x).toNat)
              case atStart => exact ⟨0, Nat.zero_le _, rfl, HMz, HAz⟩
              case round =>
                obtain ⟨n, hn, rfl, HM1, HA1⟩ := hrel
                have a0 : wr.cell? ⟨ab, 0, none⟩ = some (.slice Av la.length cv) := HA1.out.k.cell 0
                have hlab : ab < wr.heap.size := HA1.out.k.lt
                by_cases hlt : n < la.length
                · have hnI : (n : Int) < (la.length : Int) := by omega
                  clear HMz HAz
                  go_wp2_with fail
                  clear a0 hlab
                  go_loopw [17] (fun x wr => ∃ m : Nat, m ≤ n ∧ x = .int .i64 (m : Int) ∧ Hid (Ml w0 wr w0.heap.size e (.slice A e.l.length cap) vg gs) ∧ Hid (Au wr ab (.slice Av la.length cv) la)) (fun x _ => n - (intOf x).toNat)
                  case atStart => exact ⟨0, Nat.zero_le _, rfl, HM1, HA1⟩
                  case round =>
                    obtain ⟨m, hm, rfl, HM2, HA2⟩ := hrel
                    have a0 : wr.cell? ⟨ab, 0, none⟩ = some (.slice Av la.length cv) := HA2.out.k.cell 0
                    have hlab : ab < wr.heap.size := HA2.out.k.lt
                    by_cases hlm : m < n
                    · have hmI : (m : Int) < (n : Int) := by omega
                      have hm0 : (0 : Int) ≤ (m : Int) := by omega
                      have hn0 : (0 : Int) ≤ (n : Int) := by omega
                      have hmL : (m : Int) < (la.length : Int) := by omega
                      clear HM1 HA1
                      obtain ⟨bs, os, x1, hAv, hb1, hcap, hes1, h10, h11⟩ := HA2.out.s.at hlt
                      obtain ⟨bs2, os2, x2, hAv2, _, _, hes2, h20, h21⟩ := HA2.out.s.at (show m < la.length by omega)
                      rw [hAv] at hAv2
                      simp only [Option.some.injEq, Addr.mk.injEq, and_true] at hAv2
                      obtain ⟨rfl, rfl⟩ := hAv2
                      subst hAv
                      have hls := Lib.hid fun (h : la[n].b = la[m].b) => (show decide (la[n].es = la[m].es) = false by
                        have hnm : n ≠ m := by omega
                        have e1 := HL.out
                        subst e1
                        exact makeL_least HC.out.symm hG hlt (by omega) hnm h)
                      obtain ⟨y1, HY1⟩ : ∃ y, Hid (y = la[n].b) := ⟨_, Lib.hid rfl⟩
                      obtain ⟨y2, HY2⟩ : ∃ y, Hid (y = la[m].b) := ⟨_, Lib.hid rfl⟩
                      rw [← HY1.out] at h10
                      rw [← HY2.out] at h20
                      by_cases hyy : y1 = y2
                      · have hd := hls.out (by rw [← HY1.out, ← HY2.out, hyy])
                        have CE := Lib.hid fun (w' : World) (hb : Below wr.heap.size wr w') => sameEdges_any x1 x2 la[n].es la[m].es wr.heap.size w' (hes1.below hb) (hes2.below hb) hb.size
                        rw [hd] at CE
                        subst hyy
                        obtain ⟨B1, cc1, rfl⟩ := hes1.form
                        obtain ⟨B2, cc2, rfl⟩ := hes2.form
                        have hbs : bs < wr.heap.size := hb1
                        have hq : (y1 == y1) = true := by simp
                        clear hls HY1 HY2 hd
                        go_wp2_with fail
                        go_region_held3 (fun w' => w'.cell? ⟨ab, 0, none⟩ = some (.slice (some ⟨bs, os, none⟩) la.length cv) ∧ w'.cell? ⟨bs, os + n * 2, none⟩ = some (.bool y1) ∧ w'.cell? ⟨bs, os + n * 2 + 1, none⟩ = some (.slice B1 la[n].es.length cc1) ∧ w'.cell? ⟨bs, os + m * 2, none⟩ = some (.bool y1) ∧ w'.cell? ⟨bs, os + m * 2 + 1, none⟩ = some (.slice B2 la[m].es.length cc2))
                          (first
                            | exact ⟨a0, h10, h11, h20, h21⟩
                            | exact ⟨(hbc.cell (p := ⟨ab, 0, none⟩) hlab).trans a0, (hbc.cell (p := ⟨bs, os + n * 2, none⟩) hbs).trans h10, (hbc.cell (p := ⟨bs, os + n * 2 + 1, none⟩) hbs).trans h11, (hbc.cell (p := ⟨bs, os + m * 2, none⟩) hbs).trans h20, (hbc.cell (p := ⟨bs, os + m * 2 + 1, none⟩) hbs).trans h21⟩)
                          (first | (go_at_call 10; refine (CE.out _ ((Below.refl _ _).drew)).mono ?_; rintro e w' ⟨rfl, hbc⟩))
                        have hbw : Below wr.heap.size wr w' := ((Below.refl _ _).drew).trans hbc
                        clear a0 h10 h11 h20 h21 CE hbc
                        go_wp2_with fail
                        go_roundw
                        case rel => exact ⟨m + 1, by omega, by go_num, HM2.out.all hbw, HA2.out.all hbw⟩
                        case measure => simp [intOf]; omega
                      · have hyb : (y1 == y2) = false := by simpa using hyy
                        go_wp2_with fail
                        go_quiet (fail)
                        go_wp2_with fail
                        go_roundw
                        case rel => exact ⟨m + 1, by omega, by go_num, HM2.out.all (beN (Below.refl _ _) _), HA2.out.all (beN (Below.refl _ _) _)⟩
                        case measure => simp [intOf]; omega
                    · obtain rfl : m = n := by omega
                      go_wp2_with fail
                      go_roundw
                      case rel => exact ⟨m + 1, by omega, by go_num, HM2, HA2⟩
                      case measure => simp [intOf]; omega
                · obtain rfl : n = la.length := by omega
                  go_wp2_with fail
                  go_ret
                  exact ⟨rfl, HM1.out.bl⟩
  · have hcb : (c != 0) = true := by simpa using hc
    have hl0 : la = [] := by rw [HL.out]; unfold makeL; rw [if_neg (fun h => hc (HC.out.trans h))]
    subst hl0
    have a0 : W2.cell? ⟨ab, 0, none⟩ = some (.slice Av (List.length ([] : List St)) cv) := HA2.out.k.cell 0
    simp only [List.length_nil] at a0 HW2
    have hlab : ab < W2.heap.size := HA2.out.k.lt
    have hcq : (c == 0) = false := by simpa using hc
    go_upto_region 4 with fail
    rw [← HW2.out, ← HAB.out]
    clear HW2 HAB
    go_wp2_with fail
    go_ret
    exact ⟨rfl, HM2.out.bl⟩
end Go.Proofs.YtkbileabkfccgaaGreatDoor
