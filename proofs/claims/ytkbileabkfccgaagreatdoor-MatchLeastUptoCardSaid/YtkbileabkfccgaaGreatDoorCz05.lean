/- R3C, R3D, merged. -/
import Derived.Test.YtkbileabkfccgaaGreatDoorCz04
import Derived.Deep.DeepCutAuto

/- The reference's expr: right, Check. -/
namespace Go.Proofs.YtkbileabkfccgaaGreatDoor
open Go.RowKit

theorem ba_get (s : ByteArray) (k : Nat) (hk : k < s.size) : s.data.toList.getD k 0 = s[k] := by
  rw [ba_getD s k (by rw [ba_len]; exact hk)]; rfl

set_option maxRecDepth 100000 in
theorem refName_any (s : ByteArray) (w : World) (hs : s.size ≤ maxLen) :
    Calls Tryz.prog 71 #[.string s] w fun e w' => e = .returned (.bool (nameB s)) ∧ w = w' := by
  unfold maxLen at hs
  go_enter Tryz.func71, Tryz.ntmps71
  go_wp2
  go_loop [3] (fun i => ∃ k : Nat, k ≤ s.size ∧ i = .int .i64 k ∧ Hid (∀ j, j < k → inC 97 122 (s.data.toList.getD j 0) = true)) (fun i => s.size - (intOf i).toNat)
  case atStart => exact ⟨0, Nat.zero_le _, rfl, fun j hj => by omega⟩
  case round =>
    obtain ⟨k, hk, rfl, hall⟩ := hrel
    by_cases hlt : k < s.size
    · have hcd := Lib.hid (ba_get s k hlt)
      by_cases hin : 97 ≤ s[k].toNat ∧ s[k].toNat ≤ 122
      · have hall' : Hid (∀ j, j < k + 1 → inC 97 122 (s.data.toList.getD j 0) = true) := by
          show ∀ j, _
          intro j hj
          by_cases e : j = k
          · subst e; rw [hcd.out]; simp [inC, UInt8.le_iff_toNat_le, hin]
          · exact hall.out j (by omega)
        have h1 : ¬ s[k].toNat < 97 := by omega
        have h2 : ¬ 122 < s[k].toNat := by omega
        clear hin
        go_wp2
        go_round
        case rel => exact ⟨k + 1, by omega, by go_num, hall'⟩
        case measure => simp [intOf]; omega
      · have hno : Hid (nameB s = false) := by
          show _ = _
          have : inB 97 122 s.data.toList = false := by
            refine inB_no k hlt ?_
            rw [hcd.out]
            simp [inC, UInt8.le_iff_toNat_le]
            omega
          unfold nameB
          rw [this, Bool.and_false]
        by_cases h1 : s[k].toNat < 97
        · clear hin
          go_wp2
          go_ret
          exact ⟨ret_bool hno.out.symm, rfl⟩
        · have h2 : 122 < s[k].toNat := by omega
          clear hin
          go_wp2
          go_ret
          exact ⟨ret_bool hno.out.symm, rfl⟩
    · have hyes : inB 97 122 s.data.toList = true := inB_yes fun j hj => hall.out j (by omega)
      by_cases h1 : 1 ≤ s.size
      · have hfin : Hid (nameB s = decide (s.size ≤ 16)) := by show _ = _; unfold nameB; rw [hyes]; simp [h1]
        clear hyes
        by_cases h2 : s.size ≤ 16
        · go_wp2
          go_ret
          exact ⟨ret_bool (by rw [hfin.out]; simp [h2]; omega), rfl⟩
        · go_wp2
          go_ret
          exact ⟨ret_bool (by rw [hfin.out]; simp [h2]; omega), rfl⟩
      · have hfin : Hid (nameB s = false) := by show _ = _; unfold nameB; simp [h1]
        clear hyes
        go_wp2
        go_ret
        exact ⟨ret_bool hfin.out.symm, rfl⟩

/-- what is amiss with a kid of one of kind k -/
def badKid (k : Int) (x : Ex) : Bool := x.anyE wrongB || ((decide (k = 2) && isB 2 x) || (decide (k = 3) && noChB x))
/-- what is amiss with one itself, its kids aside -/
def badSelf (e : Ex) : Bool :=
  if e.k = 1 then !nameB e.n || (!bareB e || decide (0 < e.l.length))
  else if e.k = 2 then !emptyB e.n || (!bareB e || decide (e.l.length = 1))
  else if e.k = 3 then !emptyB e.n || (!bareB e || decide (e.l.length < 2))
  else if e.k = 4 then !emptyB e.n || (!timesB e.a e.b || (!decide (e.l.length = 1) || e.l.any nilB))
  else true
theorem any_or {p q : Ex → Bool} : ∀ l : List Ex, (l.any fun x => p x || q x) = (l.any p || l.any q)
  | [] => rfl
  | x :: l => by
    rw [List.any_cons, List.any_cons, List.any_cons, any_or l]
    cases p x <;> cases q x <;> cases l.any p <;> simp
theorem any_no (l : List Ex) : (l.any fun _ => false) = false := by
  rw [List.any_eq_false]; simp
theorem wrong_parts (e : Ex) : e.anyE wrongB = (e.l.any (badKid e.k) || badSelf e) := by
  rw [anyE_eq]
  unfold badKid
  rw [any_or, any_or]
  unfold wrongB badSelf
  generalize e.l.any (Ex.anyE wrongB) = x
  by_cases h1 : e.k = 1
  · simp only [h1, if_pos]
    simp [any_no, Bool.or_comm]
  by_cases h2 : e.k = 2
  · simp only [h2, if_pos]
    simp [any_no, Bool.or_comm, Bool.or_left_comm, Bool.or_assoc]
  by_cases h3 : e.k = 3
  · simp only [h3, if_pos]
    simp [any_no, Bool.or_comm, Bool.or_left_comm, Bool.or_assoc]
  by_cases h4 : e.k = 4
  · simp only [h4, if_pos]
    simp [any_no, Bool.or_comm]
  · simp only [if_neg h1, if_neg h2, if_neg h3, if_neg h4]
    simp
theorem long_kid {e : Ex} (h : e.anyE longE = false) : ∀ x ∈ e.l, x.anyE longE = false := by
  rw [anyE_eq, Bool.or_eq_false_iff, List.any_eq_false] at h
  intro x hx
  simpa using h.2 x hx
theorem long_self {e : Ex} (h : e.anyE longE = false) : e.n.size ≤ 16 := by
  rw [anyE_eq, Bool.or_eq_false_iff] at h
  have h1 : (decide (16 < e.n.size) || decide (16 < e.a) || decide (16 < e.b)) = false := h.1
  simp at h1; omega

set_option maxRecDepth 100000 in
set_option maxHeartbeats 3200000 in
theorem rrightS_any (k : Int) (nm : ByteArray) (a b : Int) (l : List Ex) (s : Value) (B : Nat) (w : World) (hs : Kb w B s l) (hB : B ≤ w.heap.size) (hnm : nm.size ≤ 16)
    (ih : ∀ e ∈ l, ∀ (s : Value) (w : World), Kb w B s e.l → B ≤ w.heap.size → Calls Tryz.prog 37 #[exV e s] w (RetB (!(e.anyE wrongB)) w)) :
    Calls Tryz.prog 37 #[.agg #[.int .i64 k, .string nm, .int .i64 a, .int .i64 b, s]] w (RetB (!((Ex.mk k nm a b l).anyE wrongB)) w) := by
  obtain ⟨c, HC⟩ : ∃ c, Hid (c = (Ex.mk k nm a b l).anyE wrongB) := ⟨_, rfl⟩
  have HC2 : Hid (c = (l.any (badKid k) || badSelf (.mk k nm a b l))) := by show _ = _; rw [HC.out, wrong_parts]; rfl
  rw [← HC.out]
  clear HC
  have B1 : Below w.heap.size w (w.alloc (.cells #[.int .i64 k, .string nm, .int .i64 a, .int .i64 b, s] 24)) := (Below.refl _ _).alloc (Nat.le_refl _) _
  obtain ⟨A, cap, rfl⟩ := hs.form
  have hm := hs.max
  unfold maxLen at hm
  have hs1 := hs.below (B1.mono hB)
  have HI := Lib.hid ih
  clear ih hs
  have hW : Hid ((w.alloc (.cells #[.int .i64 k, .string nm, .int .i64 a, .int .i64 b, .slice A l.length cap] 24)).heap.size = w.heap.size + 1) := by show _ = _; simp
  obtain ⟨W0, hW0⟩ : ∃ W0 : World, Hid (W0 = w.alloc (.cells #[.int .i64 k, .string nm, .int .i64 a, .int .i64 b, .slice A l.length cap] 24)) := ⟨_, rfl⟩
  have hself : Hid (∀ j u, (#[Value.int .i64 k, .string nm, .int .i64 a, .int .i64 b, .slice A l.length cap] : Array Value)[j]? = some u → W0.cell? ⟨w.heap.size, j, none⟩ = some u) := by
    show ∀ j u, _
    intro j u hu; rw [hW0.out, cell_of_row _ w.heap.size j _ _ _ (heap_alloc_new w _)]; exact hu
  have hlen : Hid (W0.heap.size = w.heap.size + 1) := by show _ = _; rw [hW0.out]; exact hW.out
  obtain ⟨bare, HBR⟩ : ∃ bare : Bool, Hid (bare = (emptyB nm && bareB (.mk k nm a b l))) := ⟨_, rfl⟩
  go_enter Tryz.func37, Tryz.ntmps37
  go_upto_region 1 with fail
  go_cut [3] (fun x wx => x = .bool bare ∧ Hid (wx = W0))
  case first =>
    by_cases e0 : nm.size = 0
    · have e1 : nm.toList = [] := (empty_iff nm).2 e0
      have e1b := isEmpty_yes e1
      by_cases e2 : a = 0
      · by_cases e3 : b = 0
        · subst e2 e3
          have HBV : Hid (Value.bool true = .bool bare) := by show _ = _; rw [HBR.out]; simp [emptyB, bareB, Ex.a, Ex.b, *]
          clear HBR HC2 HI hself hs1 B1
          go_wp2_with fail
          go_meet
          exact ⟨HBV.out, Lib.hid hW0.out.symm⟩
        · have e3b : (b == 0) = false := by simpa using e3
          subst e2
          have HBV : Hid (Value.bool false = .bool bare) := by show _ = _; rw [HBR.out]; simp [emptyB, bareB, Ex.a, Ex.b, *]
          clear HBR HC2 HI hself hs1 B1
          go_wp2_with fail
          go_meet
          exact ⟨HBV.out, Lib.hid hW0.out.symm⟩
      · have e2b : (a == 0) = false := by simpa using e2
        have HBV : Hid (Value.bool false = .bool bare) := by show _ = _; rw [HBR.out]; simp [emptyB, bareB, Ex.a, Ex.b, *]
        clear HBR HC2 HI hself hs1 B1
        go_wp2_with fail
        go_meet
        exact ⟨HBV.out, Lib.hid hW0.out.symm⟩
    · have e1 : ¬ nm.toList = [] := fun e => e0 ((empty_iff nm).1 e)
      have e1b := isEmpty_no e1
      have HBV : Hid (Value.bool false = .bool bare) := by show _ = _; rw [HBR.out]; simp [emptyB, bareB, Ex.a, Ex.b, *]
      clear HBR HC2 HI hself hs1 B1
      go_wp2_with fail
      go_meet
      exact ⟨HBV.out, Lib.hid hW0.out.symm⟩
  case rest =>
    obtain ⟨rfl, hwx⟩ := hcut
    obtain rfl := hwx.out
    have hB1 : Hid (Below w.heap.size w wc) := by show Below _ _ _; rw [hW0.out]; exact B1
    have hs2 : Hid (Kb wc B (.slice A l.length cap) l) := by show Kb _ _ _ _; rw [hW0.out]; exact hs1
    clear hs1 B1 hW hW0 hwx
    go_wp2_with fail
    go_loopw [4] (fun i wr => ∃ n : Nat, n ≤ l.length ∧ i = .int .i64 n ∧ Hid ((l.take n).any (badKid k) = false) ∧ Hid (Below wc.heap.size wc wr)) (fun i _ => l.length - (intOf i).toNat)
    case atStart => exact ⟨0, Nat.zero_le _, rfl, rfl, Below.refl _ _⟩
    case round =>
      obtain ⟨n, hn, rfl, hno, hbw⟩ := hrel
      have hszW := hlen.out
      have hsz := hbw.out.size
      have hcw : Hid (∀ w', Below wc.heap.size wc w' → ∀ j u, (#[Value.int .i64 k, .string nm, .int .i64 a, .int .i64 b, .slice A l.length cap] : Array Value)[j]? = some u → w'.cell? ⟨w.heap.size, j, none⟩ = some u) := fun w' hb j u hu => (hb.cell (p := ⟨w.heap.size, j, none⟩) (by show w.heap.size < _; omega)).trans (hself.out j u hu)
      have g4 := hcw.out wr hbw.out 4 _ rfl
      have hwlt : w.heap.size < wr.heap.size := by omega
      by_cases hlt : n < l.length
      · obtain ⟨bb, off, s', rfl, hbB, hcap, hks, hc0, hc1, hc2, hc3, hc4⟩ := Kd.at (hs2.out.below (hbw.out.mono (by have := hB1.out.size; omega))) hlt
        obtain ⟨A2, cap2, rfl⟩ := hks.form
        have hmax := hks.max
        unfold maxLen at hmax
        have hcall := Lib.hid (HI.out l[n] (List.getElem_mem hlt) _ (wr.alloc (.cells #[.int .i64 l[n].k, .string l[n].n, .int .i64 l[n].a, .int .i64 l[n].b, .slice A2 l[n].l.length cap2] 24)) (Kb.below hks ((Below.refl _ _).alloc (by omega) _)) (by simp; omega))
        obtain ⟨d, HD⟩ : ∃ d, Hid (d = l[n].anyE wrongB) := ⟨l[n].anyE wrongB, Lib.hid rfl⟩
        rw [← HD.out] at hcall
        unfold exV at hcall
        have HBK : Hid (badKid k l[n] = (d || ((decide (k = 2) && decide (l[n].k = 2)) || (decide (k = 3) && (decide (l[n].k = 3) || (decide (l[n].k = 2) && decide (l[n].l.length = 0))))))) := by show _ = _; rw [HD.out]; rfl
        have hnI : (n : Int) < (l.length : Int) := by omega
        clear HD
        go_wp2_with fail
        refine (hcall.out).mono ?_
        rintro e w1 ⟨rfl, hb1⟩
        have hb1' : Below (wr.heap.size + 1) (wr.alloc (.cells #[.int .i64 l[n].k, .string l[n].n, .int .i64 l[n].a, .int .i64 l[n].b, .slice A2 l[n].l.length cap2] 24)) w1 := by simpa using hb1
        have hbf : Hid (Below wc.heap.size wc w1) := (hbw.out.alloc (by omega) _).trans (hb1'.mono (by omega))
        obtain ⟨hc, hf⟩ := bcell hb1'
        have hz1 : wr.heap.size + 1 ≤ w1.heap.size := by have := hb1'.size; simpa using this
        have g0 := hcw.out wr hbw.out 0 _ rfl
        have hgo : Hid (badKid k l[n] = false → (l.take (n + 1)).any (badKid k) = false) := any_take hlt hno.out
        have hst : Hid (badKid k l[n] = true → false = !c) := fun h => by rw [HC2.out, any_hit hlt h]; rfl
        have hbe : Hid (Below w.heap.size w w1) := hB1.out.trans (hbf.out.mono hB1.out.size)
        obtain ⟨xk, hxk⟩ : ∃ x, x = l[n].k := ⟨_, rfl⟩
        obtain ⟨xl, hxl⟩ : ∃ x, x = l[n].l.length := ⟨_, rfl⟩
        rw [← hxk, ← hxl] at HBK
        rw [← hxk, ← hxl] at hc
        clear hcall hb1 hb1' hbw HC2 HI hself hB1 hs2 hcw hc0 hc1 hc2 hc3 hc4 hks g4 hno hxk hxl
        cases d
        · by_cases h2 : k = 2
          · subst h2
            by_cases x2 : xk = 2
            · subst x2
              have hr : Hid (false = !c) := hst.out (by rw [HBK.out]; simp [*])
              clear HBK hst hgo
              go_wp2_with fail
              go_ret
              exact retB hr.out hbe.out
            · have x2b : (xk == 2) = false := by simpa using x2
              have hr : Hid ((l.take (n + 1)).any (badKid 2) = false) := hgo.out (by rw [HBK.out]; simp [*])
              clear HBK hst hgo
              go_wp2_with fail
              go_roundw
              case rel => exact ⟨n + 1, by omega, by go_num, hr, hbf⟩
              case measure => simp [intOf]; omega
          · have h2b : (k == 2) = false := by simpa using h2
            by_cases h3 : k = 3
            · subst h3
              by_cases x3 : xk = 3
              · subst x3
                have hr : Hid (false = !c) := hst.out (by rw [HBK.out]; simp [*])
                clear HBK hst hgo
                go_wp2_with fail
                go_ret
                exact retB hr.out hbe.out
              · have x3b : (xk == 3) = false := by simpa using x3
                by_cases x2 : xk = 2
                · subst x2
                  by_cases xz : xl = 0
                  · subst xz
                    have hr : Hid (false = !c) := hst.out (by rw [HBK.out]; simp [*])
                    clear HBK hst hgo
                    go_wp2_with fail
                    go_ret
                    exact retB hr.out hbe.out
                  · have xzb : ((xl : Int) == 0) = false := by simpa using xz
                    have hr : Hid ((l.take (n + 1)).any (badKid 3) = false) := hgo.out (by rw [HBK.out]; simp [*])
                    clear HBK hst hgo
                    go_wp2_with fail
                    go_roundw
                    case rel => exact ⟨n + 1, by omega, by go_num, hr, hbf⟩
                    case measure => simp [intOf]; omega
                · have x2b : (xk == 2) = false := by simpa using x2
                  have hr : Hid ((l.take (n + 1)).any (badKid 3) = false) := hgo.out (by rw [HBK.out]; simp [*])
                  clear HBK hst hgo
                  go_wp2_with fail
                  go_roundw
                  case rel => exact ⟨n + 1, by omega, by go_num, hr, hbf⟩
                  case measure => simp [intOf]; omega
            · have h3b : (k == 3) = false := by simpa using h3
              have hr : Hid ((l.take (n + 1)).any (badKid k) = false) := hgo.out (by rw [HBK.out]; simp [*])
              clear HBK hst hgo
              go_wp2_with fail
              go_roundw
              case rel => exact ⟨n + 1, by omega, by go_num, hr, hbf⟩
              case measure => simp [intOf]; omega
        · have hr : Hid (false = !c) := hst.out (by rw [HBK.out]; simp [*])
          clear HBK hst hgo
          go_wp2_with fail
          go_ret
          exact retB hr.out hbe.out
      · obtain rfl : n = l.length := by omega
        have HS : Hid (c = badSelf (.mk k nm a b l)) := by show _ = _; have h := hno.out; rw [List.take_length] at h; rw [HC2.out, h, Bool.false_or]
        have g0 := hcw.out wr hbw.out 0 _ rfl
        have g1 := hcw.out wr hbw.out 1 _ rfl
        have g2 := hcw.out wr hbw.out 2 _ rfl
        have g3 := hcw.out wr hbw.out 3 _ rfl
        have hbe : Hid (Below w.heap.size w wr) := hB1.out.trans (hbw.out.mono hB1.out.size)
        have hkid := Lib.hid fun (h : 0 < l.length) => Kd.at (hs2.out.below (hbw.out.mono (by have := hB1.out.size; omega))) h
        have HN := Lib.hid (refName_any nm wr (by unfold maxLen; omega))
        clear hcw hno hbw HC2 HI hself hB1 hs2 hlt hsz hszW hlen
        by_cases h1 : k = 1
        · subst h1
          obtain ⟨d, HD⟩ : ∃ d, Hid (d = nameB nm) := ⟨nameB nm, Lib.hid rfl⟩
          rw [← HD.out] at HN
          have hd : nameB nm = d := HD.out.symm
          cases d
          · have hr : Hid (false = !c) := by show _ = _; rw [HS.out]; simp [badSelf, bareB, Ex.k, Ex.n, Ex.a, Ex.b, Ex.l, *]
            clear HS HBR hkid
            go_wp2_with fail
            refine HN.out.mono ?_
            rintro e w1 ⟨rfl, rfl⟩
            clear HN
            go_wp2_with fail
            go_ret
            exact retB hr.out hbe.out
          · by_cases e2 : a = 0
            · subst e2
              by_cases e3 : b = 0
              · subst e3
                by_cases e4 : l.length = 0
                · have e4b : ((l.length : Int) == 0) = true := by simpa using e4
                  have hr : Hid (true = !c) := by show _ = _; rw [HS.out]; simp [badSelf, bareB, Ex.k, Ex.n, Ex.a, Ex.b, Ex.l, *]
                  clear HS HBR hkid
                  go_wp2_with fail
                  refine HN.out.mono ?_
                  rintro e w1 ⟨rfl, rfl⟩
                  clear HN
                  go_wp2_with fail
                  go_ret
                  exact retB hr.out hbe.out
                · have e4b : ((l.length : Int) == 0) = false := by simpa using e4
                  have e6 : 0 < l.length := by omega
                  have hr : Hid (false = !c) := by show _ = _; rw [HS.out]; simp [badSelf, bareB, Ex.k, Ex.n, Ex.a, Ex.b, Ex.l, *]
                  clear HS HBR hkid
                  go_wp2_with fail
                  refine HN.out.mono ?_
                  rintro e w1 ⟨rfl, rfl⟩
                  clear HN
                  go_wp2_with fail
                  go_ret
                  exact retB hr.out hbe.out
              · have e3b : (b == 0) = false := by simpa using e3
                have hr : Hid (false = !c) := by show _ = _; rw [HS.out]; simp [badSelf, bareB, Ex.k, Ex.n, Ex.a, Ex.b, Ex.l, *]
                clear HS HBR hkid
                go_wp2_with fail
                refine HN.out.mono ?_
                rintro e w1 ⟨rfl, rfl⟩
                clear HN
                go_wp2_with fail
                go_ret
                exact retB hr.out hbe.out
            · have e2b : (a == 0) = false := by simpa using e2
              have hr : Hid (false = !c) := by show _ = _; rw [HS.out]; simp [badSelf, bareB, Ex.k, Ex.n, Ex.a, Ex.b, Ex.l, *]
              clear HS HBR hkid
              go_wp2_with fail
              refine HN.out.mono ?_
              rintro e w1 ⟨rfl, rfl⟩
              clear HN
              go_wp2_with fail
              go_ret
              exact retB hr.out hbe.out
        have h1b : (k == 1) = false := by simpa using h1
        have hbr := HBR.out.symm
        clear HN
        by_cases h2 : k = 2
        · subst h2
          have hbr2 : Hid ((!emptyB nm || !bareB (.mk 2 nm a b l)) = !bare) := by show _ = _; rw [← hbr]; simp
          cases bare
          · have hr : Hid (false = !c) := by show _ = _; rw [HS.out]; show _ = !(!emptyB nm || (!bareB _ || decide (l.length = 1))); rw [← Bool.or_assoc, hbr2.out]; simp [*]
            clear HS HBR hkid hbr hbr2
            go_wp2_with fail
            go_ret
            exact retB hr.out hbe.out
          · by_cases e4 : l.length = 1
            · have e4b : ((l.length : Int) != 1) = false := by simp [e4]
              have hr : Hid (false = !c) := by show _ = _; rw [HS.out]; show _ = !(!emptyB nm || (!bareB _ || decide (l.length = 1))); rw [← Bool.or_assoc, hbr2.out]; simp [*]
              clear HS HBR hkid hbr hbr2
              go_wp2_with fail
              go_ret
              exact retB hr.out hbe.out
            · have e4b : ((l.length : Int) != 1) = true := by simp; omega
              have hr : Hid (true = !c) := by show _ = _; rw [HS.out]; show _ = !(!emptyB nm || (!bareB _ || decide (l.length = 1))); rw [← Bool.or_assoc, hbr2.out]; simp [*]
              clear HS HBR hkid hbr hbr2
              go_wp2_with fail
              go_ret
              exact retB hr.out hbe.out
        have h2b : (k == 2) = false := by simpa using h2
        by_cases h3 : k = 3
        · subst h3
          have hbr2 : Hid ((!emptyB nm || !bareB (.mk 3 nm a b l)) = !bare) := by show _ = _; rw [← hbr]; simp
          cases bare
          · have hr : Hid (false = !c) := by show _ = _; rw [HS.out]; show _ = !(!emptyB nm || (!bareB _ || decide (l.length < 2))); rw [← Bool.or_assoc, hbr2.out]; simp [*]
            clear HS HBR hkid hbr hbr2
            go_wp2_with fail
            go_ret
            exact retB hr.out hbe.out
          · by_cases e4 : l.length < 2
            · have e4b : ¬ ((l.length : Int) ≥ 2) := by omega
              have hr : Hid (false = !c) := by show _ = _; rw [HS.out]; show _ = !(!emptyB nm || (!bareB _ || decide (l.length < 2))); rw [← Bool.or_assoc, hbr2.out]; simp [*]
              clear HS HBR hkid hbr hbr2
              go_wp2_with fail
              go_ret
              exact retB hr.out hbe.out
            · have e4b : (l.length : Int) ≥ 2 := by omega
              have hr : Hid (true = !c) := by show _ = _; rw [HS.out]; show _ = !(!emptyB nm || (!bareB _ || decide (l.length < 2))); rw [← Bool.or_assoc, hbr2.out]; simp [*]
              clear HS HBR hkid hbr hbr2
              go_wp2_with fail
              go_ret
              exact retB hr.out hbe.out
        have h3b : (k == 3) = false := by simpa using h3
        clear hbr HBR
        by_cases h4 : k = 4
        · subst h4
          obtain ⟨tm, HTM⟩ : ∃ tm, Hid (tm = timesB a b) := ⟨timesB a b, Lib.hid rfl⟩
          go_upto_region 16 with fail
          go_cut [6] (fun x wx => x = .bool tm ∧ Hid (wx = wr))
          case first =>
            by_cases a0 : 0 ≤ a
            · by_cases b1 : b = -1
              · subst b1
                by_cases a1 : a = 1
                · subst a1
                  have hr : Hid (Value.bool true = .bool tm) := by show _ = _; rw [HTM.out]; congr 1
                  clear HS HTM hkid
                  go_wp2_with fail
                  go_meet
                  exact ⟨hr.out, Lib.hid rfl⟩
                · have a1b : (a == 1) = false := by simpa using a1
                  have hr : Hid (Value.bool true = .bool tm) := by show _ = _; rw [HTM.out]; congr 1; rw [Bool.eq_iff_iff]; unfold timesB; simp <;> omega
                  clear HS HTM hkid
                  go_wp2_with fail
                  go_meet
                  exact ⟨hr.out, Lib.hid rfl⟩
              · have b1b : (b == -1) = false := by simpa using b1
                by_cases bp : 1 ≤ b
                · by_cases ba : a ≤ b
                  · by_cases a1 : a = 1
                    · subst a1
                      by_cases bb1 : b = 1
                      · subst bb1
                        have hr : Hid (Value.bool false = .bool tm) := by show _ = _; rw [HTM.out]; congr 1
                        clear HS HTM hkid
                        go_wp2_with fail
                        go_meet
                        exact ⟨hr.out, Lib.hid rfl⟩
                      · have bb1b : (b == 1) = false := by simpa using bb1
                        have hr : Hid (Value.bool true = .bool tm) := by show _ = _; rw [HTM.out]; congr 1; rw [Bool.eq_iff_iff]; unfold timesB; simp <;> omega
                        clear HS HTM hkid
                        go_wp2_with fail
                        go_meet
                        exact ⟨hr.out, Lib.hid rfl⟩
                    · have a1b : (a == 1) = false := by simpa using a1
                      have hr : Hid (Value.bool true = .bool tm) := by show _ = _; rw [HTM.out]; congr 1; rw [Bool.eq_iff_iff]; unfold timesB; simp <;> omega
                      clear HS HTM hkid
                      go_wp2_with fail
                      go_meet
                      exact ⟨hr.out, Lib.hid rfl⟩
                  · have hr : Hid (Value.bool false = .bool tm) := by show _ = _; rw [HTM.out]; congr 1; rw [Bool.eq_iff_iff]; unfold timesB; simp <;> omega
                    clear HS HTM hkid
                    go_wp2_with fail
                    go_meet
                    exact ⟨hr.out, Lib.hid rfl⟩
                · have hr : Hid (Value.bool false = .bool tm) := by show _ = _; rw [HTM.out]; congr 1; rw [Bool.eq_iff_iff]; unfold timesB; simp <;> omega
                  clear HS HTM hkid
                  go_wp2_with fail
                  go_meet
                  exact ⟨hr.out, Lib.hid rfl⟩
            · have hr : Hid (Value.bool false = .bool tm) := by show _ = _; rw [HTM.out]; congr 1; rw [Bool.eq_iff_iff]; unfold timesB; simp <;> omega
              clear HS HTM hkid
              go_wp2_with fail
              go_meet
              exact ⟨hr.out, Lib.hid rfl⟩
          case rest =>
            obtain ⟨rfl, hwx⟩ := hcut
            obtain rfl := hwx.out
            clear hwx
            have htm := HTM.out.symm
            by_cases e0 : nm.size = 0
            · have e1 : nm.toList = [] := (empty_iff nm).2 e0
              have e1b := isEmpty_yes e1
              have e1c : emptyB nm = true := by simp [emptyB, e0]
              cases tm
              · have hr : Hid (false = !c) := by show _ = _; rw [HS.out]; show _ = !(!emptyB nm || (!timesB a b || (!decide (l.length = 1) || l.any nilB))); simp [*]
                clear HS HTM htm hkid
                go_wp2_with fail
                go_ret
                exact retB hr.out hbe.out
              · by_cases e4 : l.length = 1
                · obtain ⟨x, rfl⟩ : ∃ x, l = [x] := by match l, e4 with | [x], _ => exact ⟨x, rfl⟩
                  obtain ⟨bb, off, s', hsl, hbB, hcap, hks, hc0, hc1, hc2, hc3, hc4⟩ := hkid.out (by simp)
                  obtain rfl : A = some ⟨bb, off, none⟩ := by simpa using hsl
                  clear hsl
                  simp only [List.getElem_cons_zero, Nat.zero_mul, Nat.add_zero] at hks hc0 hc4
                  obtain ⟨A2, cap2, rfl⟩ := hks.form
                  clear hc1 hc2 hc3 hks
                  obtain ⟨xk, hxk⟩ : ∃ y, y = x.k := ⟨_, rfl⟩
                  obtain ⟨xl, hxl⟩ : ∃ y, y = x.l.length := ⟨_, rfl⟩
                  have hnil : [x].any nilB = (decide (xk = 2) && decide (xl = 0)) := by rw [hxk, hxl]; simp [nilB, isB]
                  rw [← hxk] at hc0
                  rw [← hxl] at hc4
                  clear hxk hxl
                  by_cases x2 : xk = 2
                  · subst x2
                    by_cases xz : xl = 0
                    · subst xz
                      have hr : Hid (false = !c) := by show _ = _; rw [HS.out]; show _ = !(!emptyB nm || (!timesB a b || (!decide ([x].length = 1) || [x].any nilB))); simp [*]
                      clear HS HTM htm hkid
                      go_wp2_with fail
                      go_ret
                      exact retB hr.out hbe.out
                    · have xzb : ((xl : Int) == 0) = false := by simpa using xz
                      have hr : Hid (true = !c) := by show _ = _; rw [HS.out]; show _ = !(!emptyB nm || (!timesB a b || (!decide ([x].length = 1) || [x].any nilB))); simp [*]
                      clear HS HTM htm hkid
                      go_wp2_with fail
                      go_ret
                      exact retB hr.out hbe.out
                  · have x2b : (xk == 2) = false := by simpa using x2
                    have hr : Hid (true = !c) := by show _ = _; rw [HS.out]; show _ = !(!emptyB nm || (!timesB a b || (!decide ([x].length = 1) || [x].any nilB))); simp [*]
                    clear HS HTM htm hkid
                    go_wp2_with fail
                    go_ret
                    exact retB hr.out hbe.out
                · have e4b : ((l.length : Int) == 1) = false := by simp; omega
                  have hr : Hid (false = !c) := by show _ = _; rw [HS.out]; show _ = !(!emptyB nm || (!timesB a b || (!decide (l.length = 1) || l.any nilB))); simp [*]
                  clear HS HTM htm hkid
                  go_wp2_with fail
                  go_ret
                  exact retB hr.out hbe.out
            · have e1 : ¬ nm.toList = [] := fun e => e0 ((empty_iff nm).1 e)
              have e1b := isEmpty_no e1
              have e1c : emptyB nm = false := by simp [emptyB, e0]
              have hr : Hid (false = !c) := by show _ = _; rw [HS.out]; show _ = !(!emptyB nm || (!timesB a b || (!decide (l.length = 1) || l.any nilB))); simp [*]
              clear HS HTM htm hkid
              go_wp2_with fail
              go_ret
              exact retB hr.out hbe.out
        have h4b : (k == 4) = false := by simpa using h4
        have hr : Hid (false = !c) := by show _ = _; rw [HS.out]; simp [badSelf, Ex.k, *]
        clear HS hkid
        go_wp2_with fail
        go_ret
        exact retB hr.out hbe.out
/-- the reference's right -/
theorem rright_any (e : Ex) : ∀ (s : Value) (B : Nat) (w : World), Kb w B s e.l → B ≤ w.heap.size → e.anyE longE = false →
    Calls Tryz.prog 37 #[exV e s] w (RetB (!(e.anyE wrongB)) w) := by
  induction e using Ex.ind with
  | h k nm a b l ih => exact fun s B w hs hB hl => rrightS_any k nm a b l s B w hs hB (long_self hl) fun e he s' w' hk hB' => ih e he s' B w' hk hB' (long_kid hl e he)
end Go.Proofs.YtkbileabkfccgaaGreatDoor

/- The reference's expr: Check. -/
namespace Go.Proofs.YtkbileabkfccgaaGreatDoor
open Go.RowKit

set_option maxRecDepth 100000 in
set_option maxHeartbeats 400000 in
/-- the reference's Check tells the same -/
theorem RCheck_any (e : Ex) (s : Value) (B : Nat) (w : World) (hs : Kb w B s e.l) (hB : B ≤ w.heap.size) :
    Calls Tryz.prog 8 #[exV e s] w fun x w' => x = .returned (.int .i64 (checkE e)) ∧ Below w.heap.size w w' := by
  obtain ⟨c, HC⟩ : ∃ c, Hid (c = checkE e) := ⟨_, rfl⟩
  rw [← HC.out]
  obtain ⟨A, cap, rfl⟩ := hs.form
  have B1 := box_below w (.cells #[.int .i64 e.k, .string e.n, .int .i64 e.a, .int .i64 e.b, .slice A e.l.length cap] 24)
  have hs1 := hs.below (B1.mono hB)
  have hlt : w.heap.size < w.heap.size + 1 := by omega
  have hd := Lib.hid (rdeep_any 16 (by omega) e _ B _ hs1 (Nat.le_trans hB B1.size))
  have mk := fun (w1 : World) (hb : Below (w.heap.size + 1) (w.alloc (.cells #[.int .i64 e.k, .string e.n, .int .i64 e.a, .int .i64 e.b, .slice A e.l.length cap] 24)) w1) =>
    (show Kb w1 B (.slice A e.l.length cap) e.l ∧ B ≤ w1.heap.size from ⟨hs1.below (hb.mono (by omega)), by have := hb.size; simp at this; omega⟩)
  have HL := Lib.hid fun w1 hb => rlong_any e _ B w1 (mk w1 hb).1 (mk w1 hb).2
  have HZ := Lib.hid fun w1 hb => RSize_any e _ B w1 (mk w1 hb).1 (mk w1 hb).2
  have HW := Lib.hid fun w1 hb (hl : e.anyE longE = false) => rright_any e _ B w1 (mk w1 hb).1 (mk w1 hb).2 hl
  clear hs1 hs mk
  obtain ⟨d, HD⟩ : ∃ d, Hid (d = deepN 16 e) := ⟨_, rfl⟩
  obtain ⟨g, HG⟩ : ∃ g, Hid (g = e.anyE longE) := ⟨_, rfl⟩
  obtain ⟨z, HZZ⟩ : ∃ z, Hid (z = sizeN e) := ⟨_, rfl⟩
  obtain ⟨q, HQ⟩ : ∃ q, Hid (q = e.anyE wrongB) := ⟨_, rfl⟩
  have hE : Hid (c = if d || (g || decide (24 < z)) then 3 else if q then 2 else 0) := by show _ = _; rw [HC.out, checkE, HD.out, HG.out, HZZ.out, HQ.out]
  rw [← HD.out] at hd
  rw [← HG.out] at HL
  rw [← HZZ.out] at HZ
  rw [← HQ.out] at HW
  clear HC HD HZZ HQ
  unfold exV at *
  have wr : ∀ (w1 : World), Below (w.heap.size + 1) (w.alloc (.cells #[.int .i64 e.k, .string e.n, .int .i64 e.a, .int .i64 e.b, .slice A e.l.length cap] 24)) w1 → Hid (∀ j u, (#[Value.int .i64 e.k, .string e.n, .int .i64 e.a, .int .i64 e.b, .slice A e.l.length cap] : Array Value)[j]? = some u → w1.cell? ⟨w.heap.size, j, none⟩ = some u) := by
    intro w1 hb j u hu
    rw [hb.cell (p := ⟨w.heap.size, j, none⟩) hlt, cell_of_row _ w.heap.size j _ _ _ (heap_alloc_new w _)]; exact hu
  have WR := Lib.hid wr
  clear wr
  go_enter Tryz.func8, Tryz.ntmps8
  go_wp2_with fail
  refine (hd.out).mono ?_
  rintro x w1 ⟨rfl, hb1⟩
  have HB := Lib.hid (show Below (w.heap.size + 1) _ w1 by simpa using hb1)
  clear hd hb1
  cases d
  · have hz := HB.out.size
    simp only [World.size_alloc] at hz
    have hcs := (WR.out w1 HB.out).out
    have g0 := hcs 0 _ rfl
    have g1 := hcs 1 _ rfl
    have g2 := hcs 2 _ rfl
    have g3 := hcs 3 _ rfl
    have g4 := hcs 4 _ rfl
    clear hcs
    have hq := Lib.hid (HL.out w1 HB.out)
    go_wp2_with fail
    refine (hq.out).mono ?_
    rintro x w2 ⟨rfl, hb2⟩
    have HB2 := Lib.hid (HB.out.trans (hb2.mono hz))
    clear hq hb2 HB g0 g1 g2 g3 g4
    cases g
    · have hz2 := HB2.out.size
      simp only [World.size_alloc] at hz2
      have hcs := (WR.out w2 HB2.out).out
      have g0 := hcs 0 _ rfl
      have g1 := hcs 1 _ rfl
      have g2 := hcs 2 _ rfl
      have g3 := hcs 3 _ rfl
      have g4 := hcs 4 _ rfl
      clear hcs
      have hq := Lib.hid (HZ.out w2 HB2.out)
      go_wp2_with fail
      refine (hq.out).mono ?_
      rintro x w3 ⟨rfl, hb3⟩
      have HB3 := Lib.hid (HB2.out.trans (hb3.mono hz2))
      clear hq hb3 HB2 g0 g1 g2 g3 g4
      by_cases h24 : 24 < z
      · have hfin : Hid (c = 3) := by show _ = _; rw [hE.out]; simp [h24]
        go_wp2_with fail
        go_ret
        exact ret_i hfin.out.symm (B1.trans (HB3.out.mono (by omega)))
      · have hz3 := HB3.out.size
        simp only [World.size_alloc] at hz3
        have hcs := (WR.out w3 HB3.out).out
        have g0 := hcs 0 _ rfl
        have g1 := hcs 1 _ rfl
        have g2 := hcs 2 _ rfl
        have g3 := hcs 3 _ rfl
        have g4 := hcs 4 _ rfl
        clear hcs
        have hE3 : Hid (c = if q then 2 else 0) := by show _ = _; rw [hE.out]; simp [h24]
        have hq := Lib.hid (HW.out w3 HB3.out HG.out.symm)
        go_wp2_with fail
        refine (hq.out).mono ?_
        rintro x w4 ⟨rfl, hb4⟩
        have HB4 := Lib.hid (HB3.out.trans (hb4.mono hz3))
        clear hq hb4 HB3 g0 g1 g2 g3 g4
        cases q
        all_goals
          go_wp2_with fail
          go_ret
          exact ret_i (by rw [hE3.out]; rfl) (B1.trans (HB4.out.mono (by omega)))
    · have hfin : Hid (c = 3) := by show _ = _; rw [hE.out]; simp
      go_wp2_with fail
      go_ret
      exact ret_i hfin.out.symm (B1.trans (HB2.out.mono (by omega)))
  · have hfin : Hid (c = 3) := by show _ = _; rw [hE.out]; simp
    go_wp2_with fail
    go_ret
    exact ret_i hfin.out.symm (B1.trans (HB.out.mono (by omega)))
end Go.Proofs.YtkbileabkfccgaaGreatDoor
