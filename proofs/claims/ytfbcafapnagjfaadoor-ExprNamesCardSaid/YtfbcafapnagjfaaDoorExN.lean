/- expr: the reader: number, upper, braces. -/
import Derived.Test.YtfbcafapnagjfaaDoorExR
namespace Go.Proofs.YtfbcafapnagjfaaDoor
open Go.RowKit

/-- two results, the place, nothing else turned -/
def Rds2 (w : World) (g : Nat) (s : ByteArray) (r : Option Int × Nat) (e : Ending) (w' : World) : Prop :=
  e = .returned (.tuple #[.int .i64 (r.1.getD 0), .bool r.1.isSome]) ∧ Rp w' g s r.2 ∧ Bg w.heap.size g w w'

theorem numF_bd : ∀ (l : List UInt8) (n : Int), 0 ≤ n → n ≤ 1048576 → (∀ c ∈ l, 48 ≤ c.toNat) → 0 ≤ numF n l ∧ numF n l ≤ 1048576
  | [], n, h0, h1, _ => ⟨h0, h1⟩
  | c :: l, n, h0, h1, h => by
    have := h c (by simp)
    rw [numF]
    exact numF_bd l _ (by omega) (by omega) fun x hx => h x (by simp [hx])
theorem baOf_len (l : List UInt8) : (baOf l).size = l.length := by simp [baOf, ByteArray.size]
theorem baOf_list (l : List UInt8) : (baOf l).data.toList = l := by simp [baOf]
theorem baOf_toList (l : List UInt8) : (baOf l).toList = l := by rw [ba_toList, baOf_list]
theorem run_in {lo hi : UInt8} {t : List UInt8} {k : Nat} : ∀ c ∈ runL lo hi t k, inC lo hi c = true := by
  intro c hc; exact List.all_eq_true.1 List.all_takeWhile c hc

set_option maxRecDepth 100000 in
set_option maxHeartbeats 800000 in
theorem numBad_any (g : Nat) (s : ByteArray) (i : Nat) (w : World) (h : Rp w g s i) (hi' : i ≤ s.size) (hs : s.size ≤ 1000000000000) (hb : numBad (runL 48 57 s.data.toList (skipN s.data.toList i)) = true) :
    Calls Tryd.prog 57 #[.pointer (some ⟨g, 0, none⟩)] w (Rds2 w g s (none, skipN s.data.toList i)) := by
  have hn := Lib.hid (run_any g s i 48 57 w h hi' hs)
  have hle : skipN s.data.toList i ≤ s.size := by have := skip_le (t := s.data.toList) (k := i) (by rw [ba_len]; exact hi'); rwa [ba_len] at this
  have hrl : skipN s.data.toList i + (runL 48 57 s.data.toList (skipN s.data.toList i)).length ≤ s.size := by have := run_len 48 57 (t := s.data.toList) (k := skipN s.data.toList i) (by rw [ba_len]; exact hle); rwa [ba_len] at this
  obtain ⟨J, HJ⟩ : ∃ J, Hid (J = skipN s.data.toList i) := ⟨_, rfl⟩
  rw [← HJ.out] at hn hle hrl hb
  rw [← HJ.out]
  obtain ⟨m, HM⟩ : ∃ m, Hid (m = runL 48 57 s.data.toList J) := ⟨_, rfl⟩
  rw [← HM.out] at hn hb hrl
  clear h HJ HM
  have hbk := fun w1 (hr : Rp w1 g s (J + m.length)) => back_any g s (J + m.length) (baOf m) w1 hr (by omega) (by rw [baOf_len]; omega)
  have hsub : J + m.length - (baOf m).size = J := by rw [baOf_len]; omega
  rw [hsub] at hbk
  have HB := Lib.hid hbk
  have hcase : (baOf m).toList = [] ∨ (¬ (baOf m).toList = [] ∧ ¬ (baOf m).toList = [48] ∧ ∃ hz : 0 < (baOf m).size, (baOf m)[0] = 48) := by
    match m, hb with
    | [], _ => exact .inl (baOf_toList [])
    | c :: m, hb =>
      have hb2 : c = 48 ∧ ¬ m = [] := by
        have h0 : c = 48 ∧ (¬ c = 48 ∨ ¬ m = []) := by simpa [numBad] using hb
        exact ⟨h0.1, h0.2.resolve_left (fun h => h h0.1)⟩
      obtain ⟨rfl, hm⟩ := hb2
      have hz : 0 < (baOf (48 :: m)).size := by rw [baOf_len]; simp
      refine .inr ⟨by rw [baOf_toList]; simp, by rw [baOf_toList]; simpa using hm, hz, ?_⟩
      rw [← peek_ba _ 0 hz, baOf_list]; rfl
  generalize hD : baOf m = D at *
  generalize m.length = ml at *
  clear hbk hsub hb hD
  rcases hcase with e1 | ⟨e1, e3, hz, e4⟩
  · have e2 : D.toList.isEmpty = true := by rw [e1]; rfl
    go_enter Tryd.func57, Tryd.ntmps57
    go_wp2_with fail
    refine (hn.out).mono ?_
    clear hn
    rintro e w1 ⟨rfl, hr1, hb1⟩
    have HR := Lib.hid (HB.out w1 hr1)
    clear hr1 HB
    go_wp2_with fail
    refine (HR.out).mono ?_
    clear HR
    rintro e w2 ⟨rfl, hr2, hb2⟩
    have Hr2 := Lib.hid hr2
    clear hr2
    go_wp2_with fail
    go_ret2
    exact ⟨rfl, Hr2.out, hb1.trans (hb2.mono hb1.size)⟩
  · have e2 : D.toList.isEmpty = false := by rw [List.isEmpty_eq_false_iff]; exact e1
    have e5 : ((D[0].toNat : Int) == 48) = true := by rw [e4]; rfl
    have e6 : (D.toList == [48]) = false := by simpa using e3
    have E4 := Lib.hid e4
    clear e4
    go_enter Tryd.func57, Tryd.ntmps57
    go_wp2_with fail
    refine (hn.out).mono ?_
    clear hn
    rintro e w1 ⟨rfl, hr1, hb1⟩
    have HR := Lib.hid (HB.out w1 hr1)
    clear hr1 HB
    go_wp2_with fail
    refine (HR.out).mono ?_
    clear HR
    rintro e w2 ⟨rfl, hr2, hb2⟩
    have Hr2 := Lib.hid hr2
    clear hr2
    go_wp2_with fail
    go_ret2
    exact ⟨rfl, Hr2.out, hb1.trans (hb2.mono hb1.size)⟩

set_option maxRecDepth 100000 in
set_option maxHeartbeats 1600000 in
theorem numGood_any (g : Nat) (s : ByteArray) (i : Nat) (w : World) (h : Rp w g s i) (hi' : i ≤ s.size) (hs : s.size ≤ 1000000000000) (hb : numBad (runL 48 57 s.data.toList (skipN s.data.toList i)) = false) :
    Calls Tryd.prog 57 #[.pointer (some ⟨g, 0, none⟩)] w
      (Rds2 w g s (some (numF 0 (runL 48 57 s.data.toList (skipN s.data.toList i))), skipN s.data.toList i + (runL 48 57 s.data.toList (skipN s.data.toList i)).length)) := by
  have hn := Lib.hid (run_any g s i 48 57 w h hi' hs)
  have hle : skipN s.data.toList i ≤ s.size := by have := skip_le (t := s.data.toList) (k := i) (by rw [ba_len]; exact hi'); rwa [ba_len] at this
  have hrl : skipN s.data.toList i + (runL 48 57 s.data.toList (skipN s.data.toList i)).length ≤ s.size := by have := run_len 48 57 (t := s.data.toList) (k := skipN s.data.toList i) (by rw [ba_len]; exact hle); rwa [ba_len] at this
  obtain ⟨J, HJ⟩ : ∃ J, Hid (J = skipN s.data.toList i) := ⟨_, rfl⟩
  rw [← HJ.out] at hn hle hrl hb
  rw [← HJ.out]
  obtain ⟨m, HM⟩ : ∃ m, Hid (m = runL 48 57 s.data.toList J) := ⟨_, rfl⟩
  have hin : ∀ c ∈ m, 48 ≤ c.toNat ∧ c.toNat ≤ 57 := by
    intro c hc
    have h0 := run_in c (by rw [← HM.out]; exact hc)
    simpa [inC, UInt8.le_iff_toNat_le] using h0
  rw [← HM.out] at hn hb hrl
  rw [← HM.out]
  clear h HJ HM
  obtain ⟨D, HD⟩ : ∃ D, Hid (D = baOf m) := ⟨_, rfl⟩
  have hcase : ¬ D.toList = [] ∧ ((D.toList == [48]) = true ∨ (D.toList == [48]) = false) ∧ ∃ hz : 0 < D.size, ((D[0].toNat : Int) == 48) = false ∨ ((D[0].toNat : Int) == 48) = true ∧ (D.toList == [48]) = true := by
    rw [HD.out]
    match m, hb with
    | c :: m, hb =>
      have hz : 0 < (baOf (c :: m)).size := by rw [baOf_len]; simp
      have h0 : (baOf (c :: m))[0] = c := by rw [← peek_ba _ 0 hz, baOf_list]; rfl
      refine ⟨by rw [baOf_toList]; simp, by cases (baOf (c :: m)).toList == [48] <;> simp, hz, ?_⟩
      rw [h0, baOf_toList]
      by_cases hc : c = 48
      · subst hc
        right
        have : m = [] := by
          have h1 : ¬ (48 : UInt8) = 48 ∨ m = [] := by simpa [numBad] using hb
          exact h1.resolve_left (fun h => h rfl)
        subst this
        exact ⟨rfl, rfl⟩
      · left
        rw [beq_eq_false_iff_ne]; intro h
        exact hc (UInt8.toNat_inj.1 (by have : (48 : UInt8).toNat = 48 := rfl; omega))
  obtain ⟨N, HN⟩ : ∃ N, Hid (N = numF 0 m) := ⟨_, rfl⟩
  rw [← HN.out]
  have HM2 : Hid (D.data.toList = m ∧ D.size = m.length) := by rw [HD.out]; exact ⟨baOf_list m, baOf_len m⟩
  rw [← HD.out] at hn
  obtain ⟨ml, HML⟩ : ∃ ml, Hid (ml = m.length) := ⟨_, rfl⟩
  rw [← HML.out] at hn hrl
  rw [← HML.out]
  have hDs : D.size ≤ 1000000000000 := by have := HM2.out.2; have := HML.out; omega
  have HIN := Lib.hid hin
  clear hb hin HD
  obtain ⟨e1, -, hz, e4⟩ := hcase
  have e2 : D.toList.isEmpty = false := by rw [List.isEmpty_eq_false_iff]; exact e1
  have hby := fun w => bytes_of Tryd.prog w 9 64 5 D Tryd.underlying9 Tryd.underlying64 Tryd.underlying5
  have HBY := Lib.hid hby
  clear hby
  rcases e4 with e4 | ⟨e4, e5⟩
  all_goals
    go_enter Tryd.func57, Tryd.ntmps57
    go_wp2_with fail
    refine (hn.out).mono ?_
    clear hn
    rintro e w1 ⟨rfl, hr1, hb1⟩
    obtain ⟨c, w2, hrun, B2, HC⟩ := HBY.out w1
    have Hr2 := Lib.hid (hr1.all B2)
    have Hb2 := Lib.hid (hb1.below (B2.mono hb1.size))
    clear hr1 hb1 HBY
    go_wp2_with fail
    clear hrun
    go_loop [5, 7, 27] (fun n _ i => ∃ (k : Nat) (v : Int), k ≤ D.size ∧ i = .int .i64 k ∧ n = .int .i64 v ∧ 0 ≤ v ∧ v ≤ 1048576 ∧ Hid (numF v (m.drop k) = N)) (fun _ _ i => D.size - (intOf i).toNat)
    case atStart => exact ⟨0, 0, Nat.zero_le _, rfl, rfl, by omega, by omega, by show _ = _; rw [List.drop_zero]; exact HN.out.symm⟩
    case round =>
      obtain ⟨k, v, hk, rfl, rfl, hv0, hv1, HV⟩ := hrel
      by_cases hlt : k < D.size
      · have hc := HC.out k hlt
        have hkm : k < m.length := by have := HM2.out.2; omega
        obtain ⟨x, HX⟩ : ∃ x : UInt8, Hid (x = D.data.toList.getD k 0) := ⟨_, rfl⟩
        rw [← HX.out] at hc
        have hxm : m.drop k = x :: m.drop (k + 1) := by rw [drop_cons hkm, HX.out, HM2.out.1]; rfl
        have hxi := HIN.out x (by have : x ∈ m.drop k := by rw [hxm]; simp
                                  exact List.mem_of_mem_drop this)
        obtain ⟨hx0, hx1⟩ := hxi
        have HV2 : Hid (numF (min (v * 10 + ((x.toNat : Int) - 48)) 1048576) (m.drop (k + 1)) = N) := by show _ = _; have := HV.out; rw [hxm, numF] at this; exact this
        clear HV hxm hkm
        go_wp2_with fail
        all_goals
          go_round
          case rel => exact ⟨k + 1, _, by omega, by go_num, rfl, by omega, by omega, by have := HV2.out; show _ = _; rw [← this]; congr 1; omega⟩
          case measure => simp [intOf]; omega
      · have hfin : Hid (v = N) := by
          have := HV.out
          rw [List.drop_eq_nil_of_le (by have := HM2.out.2; omega), numF] at this; exact this
        go_wp2_with fail
        go_ret2
        exact ⟨by rw [hfin.out]; rfl, Hr2.out, Hb2.out⟩

theorem number_any (g : Nat) (s : ByteArray) (i : Nat) (w : World) (h : Rp w g s i) (hi' : i ≤ s.size) (hs : s.size ≤ 1000000000000) :
    Calls Tryd.prog 57 #[.pointer (some ⟨g, 0, none⟩)] w (Rds2 w g s (numP s.data.toList i)) := by
  unfold numP
  simp only
  cases hb : numBad (runL 48 57 s.data.toList (skipN s.data.toList i))
  · exact numGood_any g s i w h hi' hs hb
  · exact numBad_any g s i w h hi' hs hb
theorem numP_le {t : List UInt8} {i : Nat} (h : i ≤ t.length) : (numP t i).2 ≤ t.length := by
  unfold numP
  simp only
  have h1 := skip_le h
  split
  · exact h1
  · exact run_len 48 57 h1
theorem upP_le {t : List UInt8} {i : Nat} (h : i ≤ t.length) : (upP t i).2 ≤ t.length := by
  unfold upP
  simp only
  have h1 := skip_le h
  split
  · exact h1
  · exact numP_le h1

set_option maxRecDepth 100000 in
set_option maxHeartbeats 400000 in
theorem upper_any (g : Nat) (s : ByteArray) (i : Nat) (w : World) (h : Rp w g s i) (hi : i ≤ s.size) (hs : s.size ≤ 1000000000000) :
    Calls Tryd.prog 58 #[.pointer (some ⟨g, 0, none⟩)] w (Rds2 w g s (upP s.data.toList i)) := by
  have hn := Lib.hid (next_any g s i w h hi hs)
  have hle : skipN s.data.toList i ≤ s.size := by have := skip_le (t := s.data.toList) (k := i) (by rw [ba_len]; exact hi); rwa [ba_len] at this
  obtain ⟨R, HR⟩ : ∃ R, Hid (R = upP s.data.toList i) := ⟨_, rfl⟩
  obtain ⟨J, HJ⟩ : ∃ J, Hid (J = skipN s.data.toList i) := ⟨_, rfl⟩
  obtain ⟨d, HD⟩ : ∃ d, Hid (d = peek s.data.toList J) := ⟨_, rfl⟩
  have hR : Hid (R = if d = 125 then (some (-1), J) else numP s.data.toList J) := by show _ = _; rw [HR.out, HD.out, HJ.out]; rfl
  rw [← HJ.out, ← HD.out] at hn
  rw [← HJ.out] at hle
  rw [← HR.out]
  have hnum := Lib.hid fun w1 hr => number_any g s J w1 hr hle hs
  clear HR HJ HD h
  by_cases hdc : d = 125
  · have hR2 : Hid (R = (some (-1), J)) := by show _ = _; rw [hR.out, if_pos hdc]
    have hne : ((d.toNat : Int) == 125) = true := by rw [hdc]; rfl
    clear hR hdc
    go_enter Tryd.func58, Tryd.ntmps58
    go_wp2_with fail
    refine (hn.out).mono ?_
    clear hn
    rintro e w1 ⟨rfl, hr, hb⟩
    have Hr := Lib.hid hr
    clear hr
    go_wp2_with fail
    go_ret2
    exact ⟨by rw [hR2.out]; rfl, by rw [hR2.out]; exact Hr.out, hb⟩
  · have hR2 : Hid (R = numP s.data.toList J) := by show _ = _; rw [hR.out, if_neg hdc]
    have hne : ((d.toNat : Int) == 125) = false := by rw [show (125 : Int) = ((125 : UInt8).toNat : Int) from rfl, beq_u8]; simp [hdc]
    rw [← hR2.out] at hnum
    clear hR hdc hR2
    go_enter Tryd.func58, Tryd.ntmps58
    go_wp2_with fail
    refine (hn.out).mono ?_
    clear hn
    rintro e w1 ⟨rfl, hr, hb⟩
    have hq := Lib.hid (hnum.out w1 hr)
    clear hr hnum
    go_wp2_with fail
    refine (hq.out).mono ?_
    clear hq
    rintro e w2 ⟨rfl, hr2, hb2⟩
    have Hr2 := Lib.hid hr2
    clear hr2
    go_wp2_with fail
    go_ret2
    exact ⟨rfl, Hr2.out, hb.trans (hb2.mono hb.size)⟩

/-- two numbers as an array, and whether; the place -/
def RdsA (w : World) (g : Nat) (s : ByteArray) (r : Option (Int × Int) × Nat) (e : Ending) (w' : World) : Prop :=
  e = .returned (.tuple #[.agg #[.int .i64 (r.1.getD (0, 0)).1, .int .i64 (r.1.getD (0, 0)).2], .bool r.1.isSome]) ∧ Rp w' g s r.2 ∧ Bg w.heap.size g w w'

/-! ## braces -/
theorem Bk.bg {w w' : World} {g b : Nat} {t : TypeId} {cs : Array Value} (h : Bk w b t cs) (hb : Bg w.heap.size g w w') (hne : b ≠ g) : Bk w' b t cs := (hb.block b h.lt hne).trans h
theorem Rp.far {w : World} {g : Nat} {s : ByteArray} {i : Nat} {p : Addr} (h : Rp w g s i) (hp : g ≠ p.block) (u : Value) : Rp (w.setCell p u) g s i := Bk.far h hp u
theorem Rp.bnew {w : World} {g : Nat} {s : ByteArray} {i : Nat} (h : Rp w g s i) {p : Addr} (hp : p.block = w.heap.size) : g ≠ p.block := by have := h.lt; omega

set_option maxRecDepth 100000 in
set_option maxHeartbeats 1600000 in
theorem brcA (g : Nat) (s : ByteArray) (i : Nat) (w : World) (h : Rp w g s i) (hi : i < s.size) (hs : s.size ≤ 1000000000000) (t : List UInt8) (ht : t = s.data.toList) (k1 : Nat) (h0 : numP t (i + 1) = (none, k1)) :
    Calls Tryd.prog 50 #[.pointer (some ⟨g, 0, none⟩)] w (RdsA w g s (none, k1)) := by
  have HT := Lib.hid (ba_len s)
  rw [← ht] at HT
  have Ht := Lib.hid ht
  have hg := h.lt
  have hc1 := h.c1
  have hz1 := h.f1
  have Hh := Lib.hid h
  have HI := Lib.hid hi
  clear h ht
  have c0 := fun w0 hr0 => number_any g s (i + 1) w0 hr0 (by omega) hs
  rw [← Ht.out, h0] at c0
  have C0 := Lib.hid c0
  have hk1 : k1 ≤ s.size := by have := numP_le (t := t) (i := i + 1) (by rw [HT.out]; have := HI.out; omega); rw [h0, HT.out] at this; exact this
  clear c0 h0
  go_enter Tryd.func50, Tryd.ntmps50
  go_wp2_with fail
  refine (C0.out _ (by first | exact (Hh.out.alloc _).to _ | exact (Hh.out.to _).alloc _)).mono ?_
  clear C0
  rintro e w1 ⟨rfl, hr1, hb1⟩
  have HR1 := Lib.hid hr1
  have HB1 : Hid (Bk w1 w.heap.size 63 #[.int .i64 0, .int .i64 0]) := by
    have hh := Bk.bg (Bk.new (w.setCell ⟨g, 1, none⟩ (.int .i64 ((i : Int) + 1))) 63 #[.int .i64 0, .int .i64 0]) hb1 (by rw [World.size_setCell]; omega)
    rw [World.size_setCell] at hh; exact hh
  have HG1 : Hid (Bg w.heap.size g w w1) := (((Bg.refl _ _ _).set _ _).alloc (by simp) _).trans (hb1.mono (by simp))
  have HZ1 : Hid (w.heap.size < w1.heap.size) := by have := hb1.size; show _ < _; simp at this; omega
  clear hr1 hb1
  have hx0 := HB1.out.cell 0
  have hx1 := HB1.out.cell 1
  simp at hx0 hx1
  have hf0 := HB1.out.frozen 0
  have hf1 := HB1.out.frozen 1
  have hzz1 := HZ1.out
  go_wp2_with fail
  refine bodyPost_ret (v := .tuple #[.agg #[.int .i64 0, .int .i64 0], .bool false]) (by simp [results, Tryd.results50, go_sem, hx0, hx1]) rfl ?_
  exact ⟨rfl, (HR1.out.far (by simp; omega) _).far (by simp; omega) _, (HG1.out.setNew (by simp) _).setNew (by simp) _⟩

set_option maxRecDepth 100000 in
set_option maxHeartbeats 1600000 in
theorem brcB (g : Nat) (s : ByteArray) (i : Nat) (w : World) (h : Rp w g s i) (hi : i < s.size) (hs : s.size ≤ 1000000000000) (t : List UInt8) (ht : t = s.data.toList) (a : Int) (k1 : Nat) (h0 : numP t (i + 1) = (some a, k1)) (k2 : Nat) (h1 : takeP 44 t k1 = (false, k2)) (k3 : Nat) (h2 : takeP 125 t k2 = (false, k3)) :
    Calls Tryd.prog 50 #[.pointer (some ⟨g, 0, none⟩)] w (RdsA w g s (none, k3)) := by
  have HT := Lib.hid (ba_len s)
  rw [← ht] at HT
  have Ht := Lib.hid ht
  have hg := h.lt
  have hc1 := h.c1
  have hz1 := h.f1
  have Hh := Lib.hid h
  have HI := Lib.hid hi
  clear h ht
  have c0 := fun w0 hr0 => number_any g s (i + 1) w0 hr0 (by omega) hs
  rw [← Ht.out, h0] at c0
  have C0 := Lib.hid c0
  have hk1 : k1 ≤ s.size := by have := numP_le (t := t) (i := i + 1) (by rw [HT.out]; have := HI.out; omega); rw [h0, HT.out] at this; exact this
  clear c0 h0
  have c1 := fun w0 hr0 => take_any g s k1 44 w0 hr0 hk1 hs
  rw [← Ht.out, h1] at c1
  have C1 := Lib.hid c1
  have hk2 : k2 ≤ s.size := by have := take_le (c := 44) (by decide) (t := t) (i := k1) (by rw [HT.out]; exact hk1); rw [h1, HT.out] at this; exact this
  clear c1 h1
  have c2 := fun w0 hr0 => take_any g s k2 125 w0 hr0 hk2 hs
  rw [← Ht.out, h2] at c2
  have C2 := Lib.hid c2
  have hk3 : k3 ≤ s.size := by have := take_le (c := 125) (by decide) (t := t) (i := k2) (by rw [HT.out]; exact hk2); rw [h2, HT.out] at this; exact this
  clear c2 h2
  go_enter Tryd.func50, Tryd.ntmps50
  go_wp2_with fail
  refine (C0.out _ (by first | exact (Hh.out.alloc _).to _ | exact (Hh.out.to _).alloc _)).mono ?_
  clear C0
  rintro e w1 ⟨rfl, hr1, hb1⟩
  have HR1 := Lib.hid hr1
  have HB1 : Hid (Bk w1 w.heap.size 63 #[.int .i64 0, .int .i64 0]) := by
    have hh := Bk.bg (Bk.new (w.setCell ⟨g, 1, none⟩ (.int .i64 ((i : Int) + 1))) 63 #[.int .i64 0, .int .i64 0]) hb1 (by rw [World.size_setCell]; omega)
    rw [World.size_setCell] at hh; exact hh
  have HG1 : Hid (Bg w.heap.size g w w1) := (((Bg.refl _ _ _).set _ _).alloc (by simp) _).trans (hb1.mono (by simp))
  have HZ1 : Hid (w.heap.size < w1.heap.size) := by have := hb1.size; show _ < _; simp at this; omega
  clear hr1 hb1
  have hx0 := HB1.out.cell 0
  have hx1 := HB1.out.cell 1
  simp at hx0 hx1
  have hf0 := HB1.out.frozen 0
  have hf1 := HB1.out.frozen 1
  have hzz1 := HZ1.out
  go_wp2_with fail
  refine (C1.out _ HR1.out).mono ?_
  clear C1
  rintro e w2 ⟨rfl, hr2, hb2⟩
  have HR2 := Lib.hid hr2
  have HB2 : Hid (Bk w2 w.heap.size 63 #[.int .i64 0, .int .i64 0]) := Bk.bg HB1.out hb2 (by omega)
  have HG2 : Hid (Bg w.heap.size g w w2) := HG1.out.trans (hb2.mono (by have := HZ1.out; omega))
  have HZ2 : Hid (w.heap.size < w2.heap.size) := by have := hb2.size; have := HZ1.out; show _ < _; omega
  clear hr2 hb2 hx0 hx1 hf0 hf1
  have hx0 := HB2.out.cell 0
  have hx1 := HB2.out.cell 1
  simp at hx0 hx1
  have hf0 := HB2.out.frozen 0
  have hf1 := HB2.out.frozen 1
  have hzz2 := HZ2.out
  go_wp2_with fail
  refine (C2.out _ HR2.out).mono ?_
  clear C2
  rintro e w3 ⟨rfl, hr3, hb3⟩
  have HR3 := Lib.hid hr3
  have HB3 : Hid (Bk w3 w.heap.size 63 #[.int .i64 0, .int .i64 0]) := Bk.bg HB2.out hb3 (by omega)
  have HG3 : Hid (Bg w.heap.size g w w3) := HG2.out.trans (hb3.mono (by have := HZ2.out; omega))
  have HZ3 : Hid (w.heap.size < w3.heap.size) := by have := hb3.size; have := HZ2.out; show _ < _; omega
  clear hr3 hb3 hx0 hx1 hf0 hf1
  have hx0 := HB3.out.cell 0
  have hx1 := HB3.out.cell 1
  simp at hx0 hx1
  have hf0 := HB3.out.frozen 0
  have hf1 := HB3.out.frozen 1
  have hzz3 := HZ3.out
  go_wp2_with fail
  refine bodyPost_ret (v := .tuple #[.agg #[.int .i64 0, .int .i64 0], .bool false]) (by simp [results, Tryd.results50, go_sem, hx0, hx1]) rfl ?_
  exact ⟨rfl, (HR3.out.far (by simp; omega) _).far (by simp; omega) _, (HG3.out.setNew (by simp) _).setNew (by simp) _⟩

set_option maxRecDepth 100000 in
set_option maxHeartbeats 1600000 in
theorem brcC (g : Nat) (s : ByteArray) (i : Nat) (w : World) (h : Rp w g s i) (hi : i < s.size) (hs : s.size ≤ 1000000000000) (t : List UInt8) (ht : t = s.data.toList) (a : Int) (k1 : Nat) (h0 : numP t (i + 1) = (some a, k1)) (k2 : Nat) (h1 : takeP 44 t k1 = (false, k2)) (k3 : Nat) (h2 : takeP 125 t k2 = (true, k3)) (ht2 : timesB a a = false) :
    Calls Tryd.prog 50 #[.pointer (some ⟨g, 0, none⟩)] w (RdsA w g s (none, i)) := by
  have HT := Lib.hid (ba_len s)
  rw [← ht] at HT
  have Ht := Lib.hid ht
  have hg := h.lt
  have hc1 := h.c1
  have hz1 := h.f1
  have Hh := Lib.hid h
  have HI := Lib.hid hi
  clear h ht
  have c0 := fun w0 hr0 => number_any g s (i + 1) w0 hr0 (by omega) hs
  rw [← Ht.out, h0] at c0
  have C0 := Lib.hid c0
  have hk1 : k1 ≤ s.size := by have := numP_le (t := t) (i := i + 1) (by rw [HT.out]; have := HI.out; omega); rw [h0, HT.out] at this; exact this
  clear c0 h0
  have c1 := fun w0 hr0 => take_any g s k1 44 w0 hr0 hk1 hs
  rw [← Ht.out, h1] at c1
  have C1 := Lib.hid c1
  have hk2 : k2 ≤ s.size := by have := take_le (c := 44) (by decide) (t := t) (i := k1) (by rw [HT.out]; exact hk1); rw [h1, HT.out] at this; exact this
  clear c1 h1
  have c2 := fun w0 hr0 => take_any g s k2 125 w0 hr0 hk2 hs
  rw [← Ht.out, h2] at c2
  have C2 := Lib.hid c2
  have hk3 : k3 ≤ s.size := by have := take_le (c := 125) (by decide) (t := t) (i := k2) (by rw [HT.out]; exact hk2); rw [h2, HT.out] at this; exact this
  clear c2 h2
  have ct := fun w0 => times_any a a w0
  rw [ht2] at ct
  have CT := Lib.hid ct
  clear ct ht2
  go_enter Tryd.func50, Tryd.ntmps50
  go_wp2_with fail
  refine (C0.out _ (by first | exact (Hh.out.alloc _).to _ | exact (Hh.out.to _).alloc _)).mono ?_
  clear C0
  rintro e w1 ⟨rfl, hr1, hb1⟩
  have HR1 := Lib.hid hr1
  have HB1 : Hid (Bk w1 w.heap.size 63 #[.int .i64 0, .int .i64 0]) := by
    have hh := Bk.bg (Bk.new (w.setCell ⟨g, 1, none⟩ (.int .i64 ((i : Int) + 1))) 63 #[.int .i64 0, .int .i64 0]) hb1 (by rw [World.size_setCell]; omega)
    rw [World.size_setCell] at hh; exact hh
  have HG1 : Hid (Bg w.heap.size g w w1) := (((Bg.refl _ _ _).set _ _).alloc (by simp) _).trans (hb1.mono (by simp))
  have HZ1 : Hid (w.heap.size < w1.heap.size) := by have := hb1.size; show _ < _; simp at this; omega
  clear hr1 hb1
  have hx0 := HB1.out.cell 0
  have hx1 := HB1.out.cell 1
  simp at hx0 hx1
  have hf0 := HB1.out.frozen 0
  have hf1 := HB1.out.frozen 1
  have hzz1 := HZ1.out
  go_wp2_with fail
  refine (C1.out _ HR1.out).mono ?_
  clear C1
  rintro e w2 ⟨rfl, hr2, hb2⟩
  have HR2 := Lib.hid hr2
  have HB2 : Hid (Bk w2 w.heap.size 63 #[.int .i64 0, .int .i64 0]) := Bk.bg HB1.out hb2 (by omega)
  have HG2 : Hid (Bg w.heap.size g w w2) := HG1.out.trans (hb2.mono (by have := HZ1.out; omega))
  have HZ2 : Hid (w.heap.size < w2.heap.size) := by have := hb2.size; have := HZ1.out; show _ < _; omega
  clear hr2 hb2 hx0 hx1 hf0 hf1
  have hx0 := HB2.out.cell 0
  have hx1 := HB2.out.cell 1
  simp at hx0 hx1
  have hf0 := HB2.out.frozen 0
  have hf1 := HB2.out.frozen 1
  have hzz2 := HZ2.out
  go_wp2_with fail
  refine (C2.out _ HR2.out).mono ?_
  clear C2
  rintro e w3 ⟨rfl, hr3, hb3⟩
  have HR3 := Lib.hid hr3
  have HB3 : Hid (Bk w3 w.heap.size 63 #[.int .i64 0, .int .i64 0]) := Bk.bg HB2.out hb3 (by omega)
  have HG3 : Hid (Bg w.heap.size g w w3) := HG2.out.trans (hb3.mono (by have := HZ2.out; omega))
  have HZ3 : Hid (w.heap.size < w3.heap.size) := by have := hb3.size; have := HZ2.out; show _ < _; omega
  clear hr3 hb3 hx0 hx1 hf0 hf1
  have hx0 := HB3.out.cell 0
  have hx1 := HB3.out.cell 1
  simp at hx0 hx1
  have hf0 := HB3.out.frozen 0
  have hf1 := HB3.out.frozen 1
  have hzz3 := HZ3.out
  go_wp2_with fail
  have hzq := HR3.out.f1
  have hcq := HR3.out.c1
  refine (CT.out _).mono ?_
  clear CT
  rintro e wt ⟨rfl, rfl⟩
  go_wp2_with fail
  have hq0 := (HR3.out.c1)
  refine bodyPost_ret (v := .tuple #[.agg #[.int .i64 0, .int .i64 0], .bool false]) (by simp [results, Tryd.results50, go_sem, hx0, hx1]) rfl ?_
  exact ⟨rfl, ((HR3.out.to i).far (by simp; omega) _).far (by simp; omega) _, ((HG3.out.set _ _).setNew (by simp) _).setNew (by simp) _⟩

set_option maxRecDepth 100000 in
set_option maxHeartbeats 1600000 in
theorem brcD (g : Nat) (s : ByteArray) (i : Nat) (w : World) (h : Rp w g s i) (hi : i < s.size) (hs : s.size ≤ 1000000000000) (t : List UInt8) (ht : t = s.data.toList) (a : Int) (k1 : Nat) (h0 : numP t (i + 1) = (some a, k1)) (k2 : Nat) (h1 : takeP 44 t k1 = (false, k2)) (k3 : Nat) (h2 : takeP 125 t k2 = (true, k3)) (ht2 : timesB a a = true) :
    Calls Tryd.prog 50 #[.pointer (some ⟨g, 0, none⟩)] w (RdsA w g s (some (a, a), k3)) := by
  have HT := Lib.hid (ba_len s)
  rw [← ht] at HT
  have Ht := Lib.hid ht
  have hg := h.lt
  have hc1 := h.c1
  have hz1 := h.f1
  have Hh := Lib.hid h
  have HI := Lib.hid hi
  clear h ht
  have c0 := fun w0 hr0 => number_any g s (i + 1) w0 hr0 (by omega) hs
  rw [← Ht.out, h0] at c0
  have C0 := Lib.hid c0
  have hk1 : k1 ≤ s.size := by have := numP_le (t := t) (i := i + 1) (by rw [HT.out]; have := HI.out; omega); rw [h0, HT.out] at this; exact this
  clear c0 h0
  have c1 := fun w0 hr0 => take_any g s k1 44 w0 hr0 hk1 hs
  rw [← Ht.out, h1] at c1
  have C1 := Lib.hid c1
  have hk2 : k2 ≤ s.size := by have := take_le (c := 44) (by decide) (t := t) (i := k1) (by rw [HT.out]; exact hk1); rw [h1, HT.out] at this; exact this
  clear c1 h1
  have c2 := fun w0 hr0 => take_any g s k2 125 w0 hr0 hk2 hs
  rw [← Ht.out, h2] at c2
  have C2 := Lib.hid c2
  have hk3 : k3 ≤ s.size := by have := take_le (c := 125) (by decide) (t := t) (i := k2) (by rw [HT.out]; exact hk2); rw [h2, HT.out] at this; exact this
  clear c2 h2
  have ct := fun w0 => times_any a a w0
  rw [ht2] at ct
  have CT := Lib.hid ct
  clear ct ht2
  go_enter Tryd.func50, Tryd.ntmps50
  go_wp2_with fail
  refine (C0.out _ (by first | exact (Hh.out.alloc _).to _ | exact (Hh.out.to _).alloc _)).mono ?_
  clear C0
  rintro e w1 ⟨rfl, hr1, hb1⟩
  have HR1 := Lib.hid hr1
  have HB1 : Hid (Bk w1 w.heap.size 63 #[.int .i64 0, .int .i64 0]) := by
    have hh := Bk.bg (Bk.new (w.setCell ⟨g, 1, none⟩ (.int .i64 ((i : Int) + 1))) 63 #[.int .i64 0, .int .i64 0]) hb1 (by rw [World.size_setCell]; omega)
    rw [World.size_setCell] at hh; exact hh
  have HG1 : Hid (Bg w.heap.size g w w1) := (((Bg.refl _ _ _).set _ _).alloc (by simp) _).trans (hb1.mono (by simp))
  have HZ1 : Hid (w.heap.size < w1.heap.size) := by have := hb1.size; show _ < _; simp at this; omega
  clear hr1 hb1
  have hx0 := HB1.out.cell 0
  have hx1 := HB1.out.cell 1
  simp at hx0 hx1
  have hf0 := HB1.out.frozen 0
  have hf1 := HB1.out.frozen 1
  have hzz1 := HZ1.out
  go_wp2_with fail
  refine (C1.out _ HR1.out).mono ?_
  clear C1
  rintro e w2 ⟨rfl, hr2, hb2⟩
  have HR2 := Lib.hid hr2
  have HB2 : Hid (Bk w2 w.heap.size 63 #[.int .i64 0, .int .i64 0]) := Bk.bg HB1.out hb2 (by omega)
  have HG2 : Hid (Bg w.heap.size g w w2) := HG1.out.trans (hb2.mono (by have := HZ1.out; omega))
  have HZ2 : Hid (w.heap.size < w2.heap.size) := by have := hb2.size; have := HZ1.out; show _ < _; omega
  clear hr2 hb2 hx0 hx1 hf0 hf1
  have hx0 := HB2.out.cell 0
  have hx1 := HB2.out.cell 1
  simp at hx0 hx1
  have hf0 := HB2.out.frozen 0
  have hf1 := HB2.out.frozen 1
  have hzz2 := HZ2.out
  go_wp2_with fail
  refine (C2.out _ HR2.out).mono ?_
  clear C2
  rintro e w3 ⟨rfl, hr3, hb3⟩
  have HR3 := Lib.hid hr3
  have HB3 : Hid (Bk w3 w.heap.size 63 #[.int .i64 0, .int .i64 0]) := Bk.bg HB2.out hb3 (by omega)
  have HG3 : Hid (Bg w.heap.size g w w3) := HG2.out.trans (hb3.mono (by have := HZ2.out; omega))
  have HZ3 : Hid (w.heap.size < w3.heap.size) := by have := hb3.size; have := HZ2.out; show _ < _; omega
  clear hr3 hb3 hx0 hx1 hf0 hf1
  have hx0 := HB3.out.cell 0
  have hx1 := HB3.out.cell 1
  simp at hx0 hx1
  have hf0 := HB3.out.frozen 0
  have hf1 := HB3.out.frozen 1
  have hzz3 := HZ3.out
  go_wp2_with fail
  refine (CT.out _).mono ?_
  clear CT
  rintro e wt ⟨rfl, rfl⟩
  go_wp2_with fail
  refine bodyPost_ret (v := .tuple #[.agg #[.int .i64 a, .int .i64 a], .bool true]) (by simp [results, Tryd.results50, go_sem, hx0, hx1]) rfl ?_
  exact ⟨rfl, (HR3.out.far (by simp; omega) _).far (by simp; omega) _, (HG3.out.setNew (by simp) _).setNew (by simp) _⟩

set_option maxRecDepth 100000 in
set_option maxHeartbeats 1600000 in
theorem brcE (g : Nat) (s : ByteArray) (i : Nat) (w : World) (h : Rp w g s i) (hi : i < s.size) (hs : s.size ≤ 1000000000000) (t : List UInt8) (ht : t = s.data.toList) (a : Int) (k1 : Nat) (h0 : numP t (i + 1) = (some a, k1)) (k2 : Nat) (h1 : takeP 44 t k1 = (true, k2)) (k3 : Nat) (h2 : upP t k2 = (none, k3)) :
    Calls Tryd.prog 50 #[.pointer (some ⟨g, 0, none⟩)] w (RdsA w g s (none, k3)) := by
  have HT := Lib.hid (ba_len s)
  rw [← ht] at HT
  have Ht := Lib.hid ht
  have hg := h.lt
  have hc1 := h.c1
  have hz1 := h.f1
  have Hh := Lib.hid h
  have HI := Lib.hid hi
  clear h ht
  have c0 := fun w0 hr0 => number_any g s (i + 1) w0 hr0 (by omega) hs
  rw [← Ht.out, h0] at c0
  have C0 := Lib.hid c0
  have hk1 : k1 ≤ s.size := by have := numP_le (t := t) (i := i + 1) (by rw [HT.out]; have := HI.out; omega); rw [h0, HT.out] at this; exact this
  clear c0 h0
  have c1 := fun w0 hr0 => take_any g s k1 44 w0 hr0 hk1 hs
  rw [← Ht.out, h1] at c1
  have C1 := Lib.hid c1
  have hk2 : k2 ≤ s.size := by have := take_le (c := 44) (by decide) (t := t) (i := k1) (by rw [HT.out]; exact hk1); rw [h1, HT.out] at this; exact this
  clear c1 h1
  have c2 := fun w0 hr0 => upper_any g s k2 w0 hr0 hk2 hs
  rw [← Ht.out, h2] at c2
  have C2 := Lib.hid c2
  have hk3 : k3 ≤ s.size := by have := upP_le (t := t) (i := k2) (by rw [HT.out]; exact hk2); rw [h2, HT.out] at this; exact this
  clear c2 h2
  go_enter Tryd.func50, Tryd.ntmps50
  go_wp2_with fail
  refine (C0.out _ (by first | exact (Hh.out.alloc _).to _ | exact (Hh.out.to _).alloc _)).mono ?_
  clear C0
  rintro e w1 ⟨rfl, hr1, hb1⟩
  have HR1 := Lib.hid hr1
  have HB1 : Hid (Bk w1 w.heap.size 63 #[.int .i64 0, .int .i64 0]) := by
    have hh := Bk.bg (Bk.new (w.setCell ⟨g, 1, none⟩ (.int .i64 ((i : Int) + 1))) 63 #[.int .i64 0, .int .i64 0]) hb1 (by rw [World.size_setCell]; omega)
    rw [World.size_setCell] at hh; exact hh
  have HG1 : Hid (Bg w.heap.size g w w1) := (((Bg.refl _ _ _).set _ _).alloc (by simp) _).trans (hb1.mono (by simp))
  have HZ1 : Hid (w.heap.size < w1.heap.size) := by have := hb1.size; show _ < _; simp at this; omega
  clear hr1 hb1
  have hx0 := HB1.out.cell 0
  have hx1 := HB1.out.cell 1
  simp at hx0 hx1
  have hf0 := HB1.out.frozen 0
  have hf1 := HB1.out.frozen 1
  have hzz1 := HZ1.out
  go_wp2_with fail
  refine (C1.out _ HR1.out).mono ?_
  clear C1
  rintro e w2 ⟨rfl, hr2, hb2⟩
  have HR2 := Lib.hid hr2
  have HB2 : Hid (Bk w2 w.heap.size 63 #[.int .i64 0, .int .i64 0]) := Bk.bg HB1.out hb2 (by omega)
  have HG2 : Hid (Bg w.heap.size g w w2) := HG1.out.trans (hb2.mono (by have := HZ1.out; omega))
  have HZ2 : Hid (w.heap.size < w2.heap.size) := by have := hb2.size; have := HZ1.out; show _ < _; omega
  clear hr2 hb2 hx0 hx1 hf0 hf1
  have hx0 := HB2.out.cell 0
  have hx1 := HB2.out.cell 1
  simp at hx0 hx1
  have hf0 := HB2.out.frozen 0
  have hf1 := HB2.out.frozen 1
  have hzz2 := HZ2.out
  go_wp2_with fail
  refine (C2.out _ HR2.out).mono ?_
  clear C2
  rintro e w3 ⟨rfl, hr3, hb3⟩
  have HR3 := Lib.hid hr3
  have HB3 : Hid (Bk w3 w.heap.size 63 #[.int .i64 0, .int .i64 0]) := Bk.bg HB2.out hb3 (by omega)
  have HG3 : Hid (Bg w.heap.size g w w3) := HG2.out.trans (hb3.mono (by have := HZ2.out; omega))
  have HZ3 : Hid (w.heap.size < w3.heap.size) := by have := hb3.size; have := HZ2.out; show _ < _; omega
  clear hr3 hb3 hx0 hx1 hf0 hf1
  have hx0 := HB3.out.cell 0
  have hx1 := HB3.out.cell 1
  simp at hx0 hx1
  have hf0 := HB3.out.frozen 0
  have hf1 := HB3.out.frozen 1
  have hzz3 := HZ3.out
  go_wp2_with fail
  refine bodyPost_ret (v := .tuple #[.agg #[.int .i64 0, .int .i64 0], .bool false]) (by simp [results, Tryd.results50, go_sem, hx0, hx1]) rfl ?_
  exact ⟨rfl, (HR3.out.far (by simp; omega) _).far (by simp; omega) _, (HG3.out.setNew (by simp) _).setNew (by simp) _⟩

set_option maxRecDepth 100000 in
set_option maxHeartbeats 1600000 in
theorem brcF (g : Nat) (s : ByteArray) (i : Nat) (w : World) (h : Rp w g s i) (hi : i < s.size) (hs : s.size ≤ 1000000000000) (t : List UInt8) (ht : t = s.data.toList) (a : Int) (k1 : Nat) (h0 : numP t (i + 1) = (some a, k1)) (k2 : Nat) (h1 : takeP 44 t k1 = (true, k2)) (b : Int) (k3 : Nat) (h2 : upP t k2 = (some b, k3)) (k4 : Nat) (h3 : takeP 125 t k3 = (false, k4)) :
    Calls Tryd.prog 50 #[.pointer (some ⟨g, 0, none⟩)] w (RdsA w g s (none, k4)) := by
  have HT := Lib.hid (ba_len s)
  rw [← ht] at HT
  have Ht := Lib.hid ht
  have hg := h.lt
  have hc1 := h.c1
  have hz1 := h.f1
  have Hh := Lib.hid h
  have HI := Lib.hid hi
  clear h ht
  have c0 := fun w0 hr0 => number_any g s (i + 1) w0 hr0 (by omega) hs
  rw [← Ht.out, h0] at c0
  have C0 := Lib.hid c0
  have hk1 : k1 ≤ s.size := by have := numP_le (t := t) (i := i + 1) (by rw [HT.out]; have := HI.out; omega); rw [h0, HT.out] at this; exact this
  clear c0 h0
  have c1 := fun w0 hr0 => take_any g s k1 44 w0 hr0 hk1 hs
  rw [← Ht.out, h1] at c1
  have C1 := Lib.hid c1
  have hk2 : k2 ≤ s.size := by have := take_le (c := 44) (by decide) (t := t) (i := k1) (by rw [HT.out]; exact hk1); rw [h1, HT.out] at this; exact this
  clear c1 h1
  have c2 := fun w0 hr0 => upper_any g s k2 w0 hr0 hk2 hs
  rw [← Ht.out, h2] at c2
  have C2 := Lib.hid c2
  have hk3 : k3 ≤ s.size := by have := upP_le (t := t) (i := k2) (by rw [HT.out]; exact hk2); rw [h2, HT.out] at this; exact this
  clear c2 h2
  have c3 := fun w0 hr0 => take_any g s k3 125 w0 hr0 hk3 hs
  rw [← Ht.out, h3] at c3
  have C3 := Lib.hid c3
  have hk4 : k4 ≤ s.size := by have := take_le (c := 125) (by decide) (t := t) (i := k3) (by rw [HT.out]; exact hk3); rw [h3, HT.out] at this; exact this
  clear c3 h3
  go_enter Tryd.func50, Tryd.ntmps50
  go_wp2_with fail
  refine (C0.out _ (by first | exact (Hh.out.alloc _).to _ | exact (Hh.out.to _).alloc _)).mono ?_
  clear C0
  rintro e w1 ⟨rfl, hr1, hb1⟩
  have HR1 := Lib.hid hr1
  have HB1 : Hid (Bk w1 w.heap.size 63 #[.int .i64 0, .int .i64 0]) := by
    have hh := Bk.bg (Bk.new (w.setCell ⟨g, 1, none⟩ (.int .i64 ((i : Int) + 1))) 63 #[.int .i64 0, .int .i64 0]) hb1 (by rw [World.size_setCell]; omega)
    rw [World.size_setCell] at hh; exact hh
  have HG1 : Hid (Bg w.heap.size g w w1) := (((Bg.refl _ _ _).set _ _).alloc (by simp) _).trans (hb1.mono (by simp))
  have HZ1 : Hid (w.heap.size < w1.heap.size) := by have := hb1.size; show _ < _; simp at this; omega
  clear hr1 hb1
  have hx0 := HB1.out.cell 0
  have hx1 := HB1.out.cell 1
  simp at hx0 hx1
  have hf0 := HB1.out.frozen 0
  have hf1 := HB1.out.frozen 1
  have hzz1 := HZ1.out
  go_wp2_with fail
  refine (C1.out _ HR1.out).mono ?_
  clear C1
  rintro e w2 ⟨rfl, hr2, hb2⟩
  have HR2 := Lib.hid hr2
  have HB2 : Hid (Bk w2 w.heap.size 63 #[.int .i64 0, .int .i64 0]) := Bk.bg HB1.out hb2 (by omega)
  have HG2 : Hid (Bg w.heap.size g w w2) := HG1.out.trans (hb2.mono (by have := HZ1.out; omega))
  have HZ2 : Hid (w.heap.size < w2.heap.size) := by have := hb2.size; have := HZ1.out; show _ < _; omega
  clear hr2 hb2 hx0 hx1 hf0 hf1
  have hx0 := HB2.out.cell 0
  have hx1 := HB2.out.cell 1
  simp at hx0 hx1
  have hf0 := HB2.out.frozen 0
  have hf1 := HB2.out.frozen 1
  have hzz2 := HZ2.out
  go_wp2_with fail
  refine (C2.out _ HR2.out).mono ?_
  clear C2
  rintro e w3 ⟨rfl, hr3, hb3⟩
  have HR3 := Lib.hid hr3
  have HB3 : Hid (Bk w3 w.heap.size 63 #[.int .i64 0, .int .i64 0]) := Bk.bg HB2.out hb3 (by omega)
  have HG3 : Hid (Bg w.heap.size g w w3) := HG2.out.trans (hb3.mono (by have := HZ2.out; omega))
  have HZ3 : Hid (w.heap.size < w3.heap.size) := by have := hb3.size; have := HZ2.out; show _ < _; omega
  clear hr3 hb3 hx0 hx1 hf0 hf1
  have hx0 := HB3.out.cell 0
  have hx1 := HB3.out.cell 1
  simp at hx0 hx1
  have hf0 := HB3.out.frozen 0
  have hf1 := HB3.out.frozen 1
  have hzz3 := HZ3.out
  go_wp2_with fail
  refine (C3.out _ HR3.out).mono ?_
  clear C3
  rintro e w4 ⟨rfl, hr4, hb4⟩
  have HR4 := Lib.hid hr4
  have HB4 : Hid (Bk w4 w.heap.size 63 #[.int .i64 0, .int .i64 0]) := Bk.bg HB3.out hb4 (by omega)
  have HG4 : Hid (Bg w.heap.size g w w4) := HG3.out.trans (hb4.mono (by have := HZ3.out; omega))
  have HZ4 : Hid (w.heap.size < w4.heap.size) := by have := hb4.size; have := HZ3.out; show _ < _; omega
  clear hr4 hb4 hx0 hx1 hf0 hf1
  have hx0 := HB4.out.cell 0
  have hx1 := HB4.out.cell 1
  simp at hx0 hx1
  have hf0 := HB4.out.frozen 0
  have hf1 := HB4.out.frozen 1
  have hzz4 := HZ4.out
  go_wp2_with fail
  refine bodyPost_ret (v := .tuple #[.agg #[.int .i64 0, .int .i64 0], .bool false]) (by simp [results, Tryd.results50, go_sem, hx0, hx1]) rfl ?_
  exact ⟨rfl, (HR4.out.far (by simp; omega) _).far (by simp; omega) _, (HG4.out.setNew (by simp) _).setNew (by simp) _⟩

set_option maxRecDepth 100000 in
set_option maxHeartbeats 1600000 in
theorem brcG (g : Nat) (s : ByteArray) (i : Nat) (w : World) (h : Rp w g s i) (hi : i < s.size) (hs : s.size ≤ 1000000000000) (t : List UInt8) (ht : t = s.data.toList) (a : Int) (k1 : Nat) (h0 : numP t (i + 1) = (some a, k1)) (k2 : Nat) (h1 : takeP 44 t k1 = (true, k2)) (b : Int) (k3 : Nat) (h2 : upP t k2 = (some b, k3)) (k4 : Nat) (h3 : takeP 125 t k3 = (true, k4)) (ht2 : timesB a b = false) :
    Calls Tryd.prog 50 #[.pointer (some ⟨g, 0, none⟩)] w (RdsA w g s (none, i)) := by
  have HT := Lib.hid (ba_len s)
  rw [← ht] at HT
  have Ht := Lib.hid ht
  have hg := h.lt
  have hc1 := h.c1
  have hz1 := h.f1
  have Hh := Lib.hid h
  have HI := Lib.hid hi
  clear h ht
  have c0 := fun w0 hr0 => number_any g s (i + 1) w0 hr0 (by omega) hs
  rw [← Ht.out, h0] at c0
  have C0 := Lib.hid c0
  have hk1 : k1 ≤ s.size := by have := numP_le (t := t) (i := i + 1) (by rw [HT.out]; have := HI.out; omega); rw [h0, HT.out] at this; exact this
  clear c0 h0
  have c1 := fun w0 hr0 => take_any g s k1 44 w0 hr0 hk1 hs
  rw [← Ht.out, h1] at c1
  have C1 := Lib.hid c1
  have hk2 : k2 ≤ s.size := by have := take_le (c := 44) (by decide) (t := t) (i := k1) (by rw [HT.out]; exact hk1); rw [h1, HT.out] at this; exact this
  clear c1 h1
  have c2 := fun w0 hr0 => upper_any g s k2 w0 hr0 hk2 hs
  rw [← Ht.out, h2] at c2
  have C2 := Lib.hid c2
  have hk3 : k3 ≤ s.size := by have := upP_le (t := t) (i := k2) (by rw [HT.out]; exact hk2); rw [h2, HT.out] at this; exact this
  clear c2 h2
  have c3 := fun w0 hr0 => take_any g s k3 125 w0 hr0 hk3 hs
  rw [← Ht.out, h3] at c3
  have C3 := Lib.hid c3
  have hk4 : k4 ≤ s.size := by have := take_le (c := 125) (by decide) (t := t) (i := k3) (by rw [HT.out]; exact hk3); rw [h3, HT.out] at this; exact this
  clear c3 h3
  have ct := fun w0 => times_any a b w0
  rw [ht2] at ct
  have CT := Lib.hid ct
  clear ct ht2
  go_enter Tryd.func50, Tryd.ntmps50
  go_wp2_with fail
  refine (C0.out _ (by first | exact (Hh.out.alloc _).to _ | exact (Hh.out.to _).alloc _)).mono ?_
  clear C0
  rintro e w1 ⟨rfl, hr1, hb1⟩
  have HR1 := Lib.hid hr1
  have HB1 : Hid (Bk w1 w.heap.size 63 #[.int .i64 0, .int .i64 0]) := by
    have hh := Bk.bg (Bk.new (w.setCell ⟨g, 1, none⟩ (.int .i64 ((i : Int) + 1))) 63 #[.int .i64 0, .int .i64 0]) hb1 (by rw [World.size_setCell]; omega)
    rw [World.size_setCell] at hh; exact hh
  have HG1 : Hid (Bg w.heap.size g w w1) := (((Bg.refl _ _ _).set _ _).alloc (by simp) _).trans (hb1.mono (by simp))
  have HZ1 : Hid (w.heap.size < w1.heap.size) := by have := hb1.size; show _ < _; simp at this; omega
  clear hr1 hb1
  have hx0 := HB1.out.cell 0
  have hx1 := HB1.out.cell 1
  simp at hx0 hx1
  have hf0 := HB1.out.frozen 0
  have hf1 := HB1.out.frozen 1
  have hzz1 := HZ1.out
  go_wp2_with fail
  refine (C1.out _ HR1.out).mono ?_
  clear C1
  rintro e w2 ⟨rfl, hr2, hb2⟩
  have HR2 := Lib.hid hr2
  have HB2 : Hid (Bk w2 w.heap.size 63 #[.int .i64 0, .int .i64 0]) := Bk.bg HB1.out hb2 (by omega)
  have HG2 : Hid (Bg w.heap.size g w w2) := HG1.out.trans (hb2.mono (by have := HZ1.out; omega))
  have HZ2 : Hid (w.heap.size < w2.heap.size) := by have := hb2.size; have := HZ1.out; show _ < _; omega
  clear hr2 hb2 hx0 hx1 hf0 hf1
  have hx0 := HB2.out.cell 0
  have hx1 := HB2.out.cell 1
  simp at hx0 hx1
  have hf0 := HB2.out.frozen 0
  have hf1 := HB2.out.frozen 1
  have hzz2 := HZ2.out
  go_wp2_with fail
  refine (C2.out _ HR2.out).mono ?_
  clear C2
  rintro e w3 ⟨rfl, hr3, hb3⟩
  have HR3 := Lib.hid hr3
  have HB3 : Hid (Bk w3 w.heap.size 63 #[.int .i64 0, .int .i64 0]) := Bk.bg HB2.out hb3 (by omega)
  have HG3 : Hid (Bg w.heap.size g w w3) := HG2.out.trans (hb3.mono (by have := HZ2.out; omega))
  have HZ3 : Hid (w.heap.size < w3.heap.size) := by have := hb3.size; have := HZ2.out; show _ < _; omega
  clear hr3 hb3 hx0 hx1 hf0 hf1
  have hx0 := HB3.out.cell 0
  have hx1 := HB3.out.cell 1
  simp at hx0 hx1
  have hf0 := HB3.out.frozen 0
  have hf1 := HB3.out.frozen 1
  have hzz3 := HZ3.out
  go_wp2_with fail
  refine (C3.out _ HR3.out).mono ?_
  clear C3
  rintro e w4 ⟨rfl, hr4, hb4⟩
  have HR4 := Lib.hid hr4
  have HB4 : Hid (Bk w4 w.heap.size 63 #[.int .i64 0, .int .i64 0]) := Bk.bg HB3.out hb4 (by omega)
  have HG4 : Hid (Bg w.heap.size g w w4) := HG3.out.trans (hb4.mono (by have := HZ3.out; omega))
  have HZ4 : Hid (w.heap.size < w4.heap.size) := by have := hb4.size; have := HZ3.out; show _ < _; omega
  clear hr4 hb4 hx0 hx1 hf0 hf1
  have hx0 := HB4.out.cell 0
  have hx1 := HB4.out.cell 1
  simp at hx0 hx1
  have hf0 := HB4.out.frozen 0
  have hf1 := HB4.out.frozen 1
  have hzz4 := HZ4.out
  go_wp2_with fail
  have hzq := HR4.out.f1
  have hcq := HR4.out.c1
  refine (CT.out _).mono ?_
  clear CT
  rintro e wt ⟨rfl, rfl⟩
  go_wp2_with fail
  have hq0 := (HR4.out.c1)
  refine bodyPost_ret (v := .tuple #[.agg #[.int .i64 0, .int .i64 0], .bool false]) (by simp [results, Tryd.results50, go_sem, hx0, hx1]) rfl ?_
  exact ⟨rfl, ((HR4.out.to i).far (by simp; omega) _).far (by simp; omega) _, ((HG4.out.set _ _).setNew (by simp) _).setNew (by simp) _⟩

set_option maxRecDepth 100000 in
set_option maxHeartbeats 1600000 in
theorem brcH (g : Nat) (s : ByteArray) (i : Nat) (w : World) (h : Rp w g s i) (hi : i < s.size) (hs : s.size ≤ 1000000000000) (t : List UInt8) (ht : t = s.data.toList) (a : Int) (k1 : Nat) (h0 : numP t (i + 1) = (some a, k1)) (k2 : Nat) (h1 : takeP 44 t k1 = (true, k2)) (b : Int) (k3 : Nat) (h2 : upP t k2 = (some b, k3)) (k4 : Nat) (h3 : takeP 125 t k3 = (true, k4)) (ht2 : timesB a b = true) :
    Calls Tryd.prog 50 #[.pointer (some ⟨g, 0, none⟩)] w (RdsA w g s (some (a, b), k4)) := by
  have HT := Lib.hid (ba_len s)
  rw [← ht] at HT
  have Ht := Lib.hid ht
  have hg := h.lt
  have hc1 := h.c1
  have hz1 := h.f1
  have Hh := Lib.hid h
  have HI := Lib.hid hi
  clear h ht
  have c0 := fun w0 hr0 => number_any g s (i + 1) w0 hr0 (by omega) hs
  rw [← Ht.out, h0] at c0
  have C0 := Lib.hid c0
  have hk1 : k1 ≤ s.size := by have := numP_le (t := t) (i := i + 1) (by rw [HT.out]; have := HI.out; omega); rw [h0, HT.out] at this; exact this
  clear c0 h0
  have c1 := fun w0 hr0 => take_any g s k1 44 w0 hr0 hk1 hs
  rw [← Ht.out, h1] at c1
  have C1 := Lib.hid c1
  have hk2 : k2 ≤ s.size := by have := take_le (c := 44) (by decide) (t := t) (i := k1) (by rw [HT.out]; exact hk1); rw [h1, HT.out] at this; exact this
  clear c1 h1
  have c2 := fun w0 hr0 => upper_any g s k2 w0 hr0 hk2 hs
  rw [← Ht.out, h2] at c2
  have C2 := Lib.hid c2
  have hk3 : k3 ≤ s.size := by have := upP_le (t := t) (i := k2) (by rw [HT.out]; exact hk2); rw [h2, HT.out] at this; exact this
  clear c2 h2
  have c3 := fun w0 hr0 => take_any g s k3 125 w0 hr0 hk3 hs
  rw [← Ht.out, h3] at c3
  have C3 := Lib.hid c3
  have hk4 : k4 ≤ s.size := by have := take_le (c := 125) (by decide) (t := t) (i := k3) (by rw [HT.out]; exact hk3); rw [h3, HT.out] at this; exact this
  clear c3 h3
  have ct := fun w0 => times_any a b w0
  rw [ht2] at ct
  have CT := Lib.hid ct
  clear ct ht2
  go_enter Tryd.func50, Tryd.ntmps50
  go_wp2_with fail
  refine (C0.out _ (by first | exact (Hh.out.alloc _).to _ | exact (Hh.out.to _).alloc _)).mono ?_
  clear C0
  rintro e w1 ⟨rfl, hr1, hb1⟩
  have HR1 := Lib.hid hr1
  have HB1 : Hid (Bk w1 w.heap.size 63 #[.int .i64 0, .int .i64 0]) := by
    have hh := Bk.bg (Bk.new (w.setCell ⟨g, 1, none⟩ (.int .i64 ((i : Int) + 1))) 63 #[.int .i64 0, .int .i64 0]) hb1 (by rw [World.size_setCell]; omega)
    rw [World.size_setCell] at hh; exact hh
  have HG1 : Hid (Bg w.heap.size g w w1) := (((Bg.refl _ _ _).set _ _).alloc (by simp) _).trans (hb1.mono (by simp))
  have HZ1 : Hid (w.heap.size < w1.heap.size) := by have := hb1.size; show _ < _; simp at this; omega
  clear hr1 hb1
  have hx0 := HB1.out.cell 0
  have hx1 := HB1.out.cell 1
  simp at hx0 hx1
  have hf0 := HB1.out.frozen 0
  have hf1 := HB1.out.frozen 1
  have hzz1 := HZ1.out
  go_wp2_with fail
  refine (C1.out _ HR1.out).mono ?_
  clear C1
  rintro e w2 ⟨rfl, hr2, hb2⟩
  have HR2 := Lib.hid hr2
  have HB2 : Hid (Bk w2 w.heap.size 63 #[.int .i64 0, .int .i64 0]) := Bk.bg HB1.out hb2 (by omega)
  have HG2 : Hid (Bg w.heap.size g w w2) := HG1.out.trans (hb2.mono (by have := HZ1.out; omega))
  have HZ2 : Hid (w.heap.size < w2.heap.size) := by have := hb2.size; have := HZ1.out; show _ < _; omega
  clear hr2 hb2 hx0 hx1 hf0 hf1
  have hx0 := HB2.out.cell 0
  have hx1 := HB2.out.cell 1
  simp at hx0 hx1
  have hf0 := HB2.out.frozen 0
  have hf1 := HB2.out.frozen 1
  have hzz2 := HZ2.out
  go_wp2_with fail
  refine (C2.out _ HR2.out).mono ?_
  clear C2
  rintro e w3 ⟨rfl, hr3, hb3⟩
  have HR3 := Lib.hid hr3
  have HB3 : Hid (Bk w3 w.heap.size 63 #[.int .i64 0, .int .i64 0]) := Bk.bg HB2.out hb3 (by omega)
  have HG3 : Hid (Bg w.heap.size g w w3) := HG2.out.trans (hb3.mono (by have := HZ2.out; omega))
  have HZ3 : Hid (w.heap.size < w3.heap.size) := by have := hb3.size; have := HZ2.out; show _ < _; omega
  clear hr3 hb3 hx0 hx1 hf0 hf1
  have hx0 := HB3.out.cell 0
  have hx1 := HB3.out.cell 1
  simp at hx0 hx1
  have hf0 := HB3.out.frozen 0
  have hf1 := HB3.out.frozen 1
  have hzz3 := HZ3.out
  go_wp2_with fail
  refine (C3.out _ HR3.out).mono ?_
  clear C3
  rintro e w4 ⟨rfl, hr4, hb4⟩
  have HR4 := Lib.hid hr4
  have HB4 : Hid (Bk w4 w.heap.size 63 #[.int .i64 0, .int .i64 0]) := Bk.bg HB3.out hb4 (by omega)
  have HG4 : Hid (Bg w.heap.size g w w4) := HG3.out.trans (hb4.mono (by have := HZ3.out; omega))
  have HZ4 : Hid (w.heap.size < w4.heap.size) := by have := hb4.size; have := HZ3.out; show _ < _; omega
  clear hr4 hb4 hx0 hx1 hf0 hf1
  have hx0 := HB4.out.cell 0
  have hx1 := HB4.out.cell 1
  simp at hx0 hx1
  have hf0 := HB4.out.frozen 0
  have hf1 := HB4.out.frozen 1
  have hzz4 := HZ4.out
  go_wp2_with fail
  refine (CT.out _).mono ?_
  clear CT
  rintro e wt ⟨rfl, rfl⟩
  go_wp2_with fail
  refine bodyPost_ret (v := .tuple #[.agg #[.int .i64 a, .int .i64 b], .bool true]) (by simp [results, Tryd.results50, go_sem, hx0, hx1]) rfl ?_
  exact ⟨rfl, (HR4.out.far (by simp; omega) _).far (by simp; omega) _, (HG4.out.setNew (by simp) _).setNew (by simp) _⟩

theorem braces_any (g : Nat) (s : ByteArray) (i : Nat) (w : World) (h : Rp w g s i) (hi : i < s.size) (hs : s.size ≤ 1000000000000) :
    Calls Tryd.prog 50 #[.pointer (some ⟨g, 0, none⟩)] w (RdsA w g s (brcP s.data.toList i)) := by
  obtain ⟨t, ht⟩ : ∃ t, t = s.data.toList := ⟨_, rfl⟩
  rw [← ht]
  unfold brcP
  rcases h0 : numP t (i + 1) with ⟨o1, k1⟩
  cases o1 with
  | none => exact brcA g s i w h hi hs t ht k1 h0
  | some a =>
    simp only
    rcases h1 : takeP 44 t k1 with ⟨b1, k2⟩
    cases b1
    · simp only [Bool.false_eq_true, if_false]
      unfold brcEnd
      rcases h2 : takeP 125 t k2 with ⟨b2, k3⟩
      cases b2
      · simp only [Bool.false_eq_true, if_false]; exact brcB g s i w h hi hs t ht a k1 h0 k2 h1 k3 h2
      · simp only [if_true]
        cases h3 : timesB a a
        · simp only [Bool.false_eq_true, if_false]; exact brcC g s i w h hi hs t ht a k1 h0 k2 h1 k3 h2 h3
        · simp only [if_true]; exact brcD g s i w h hi hs t ht a k1 h0 k2 h1 k3 h2 h3
    · simp only [if_true]
      rcases h2 : upP t k2 with ⟨o2, k3⟩
      cases o2 with
      | none => exact brcE g s i w h hi hs t ht a k1 h0 k2 h1 k3 h2
      | some b =>
        simp only
        unfold brcEnd
        rcases h3 : takeP 125 t k3 with ⟨b3, k4⟩
        cases b3
        · simp only [Bool.false_eq_true, if_false]; exact brcF g s i w h hi hs t ht a k1 h0 k2 h1 b k3 h2 k4 h3
        · simp only [if_true]
          cases h4 : timesB a b
          · simp only [Bool.false_eq_true, if_false]; exact brcG g s i w h hi hs t ht a k1 h0 k2 h1 b k3 h2 k4 h3 h4
          · simp only [if_true]; exact brcH g s i w h hi hs t ht a k1 h0 k2 h1 b k3 h2 k4 h3 h4
end Go.Proofs.YtfbcafapnagjfaaDoor
