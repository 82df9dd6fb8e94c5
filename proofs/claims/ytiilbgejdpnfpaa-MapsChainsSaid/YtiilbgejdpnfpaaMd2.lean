/- MdJ, MdK, MdL, MdM, merged. -/
import Derived.Test.YtiilbgejdpnfpaaMp2
import Derived.Test.YtiilbgejdpnfpaaMd1
import Derived.Deep.OwnRows
/- Places through maps: pairs, as the program asks for them; what it notes of mirrors. -/
namespace Go.Mps
/-- is place i one of a pair's -/
def hasM (l : List Mi) (i : Int) : Bool := l.any fun m => decide (m.f = i) || decide (m.s = i)
theorem hasM_app (l : List Mi) (m : Mi) (i : Int) : hasM (l ++ [m]) i = (hasM l i || (decide (m.f = i) || decide (m.s = i))) := by unfold hasM; simp
theorem apart_all (l : List Mi) (m : Mi) : l.all (apart m) = (!hasM l m.f && !hasM l m.s) := by
  unfold hasM
  induction l with
  | nil => rfl
  | cons o l ih =>
    rw [List.all_cons, List.any_cons, List.any_cons, ih]
    unfold apart
    generalize (l.any fun x => decide (x.f = m.f) || decide (x.s = m.f)) = a
    generalize (l.any fun x => decide (x.f = m.s) || decide (x.s = m.s)) = b
    by_cases h1 : o.f = m.f <;> by_cases h2 : o.s = m.f <;> by_cases h3 : o.f = m.s <;> by_cases h4 : o.s = m.s <;> cases a <;> cases b <;> simp_all [eq_comm]
/-- the second one of the last pair whose first one is i; 0: none -/
def secG (a : Int) : List Mi → Int → Int
  | [], _ => a
  | m :: l, i => secG (if m.f = i then m.s else a) l i
theorem secG_app : ∀ (l : List Mi) (a : Int) (m : Mi) (i : Int), secG a (l ++ [m]) i = if m.f = i then m.s else secG a l i
  | [], a, m, i => rfl
  | x :: l, a, m, i => by rw [List.cons_append, secG, secG_app l]; rfl
theorem secG_no : ∀ (l : List Mi) (a i : Int), (∀ m ∈ l, m.f ≠ i) → secG a l i = a
  | [], _, _, _ => rfl
  | x :: l, a, i, h => by rw [secG, if_neg (h x List.mem_cons_self), secG_no l a i (fun m hm => h m (List.mem_cons_of_mem _ hm))]
theorem mir_sec (ms : List (List Rg)) : ∀ (l seen : List Mi) (i : Int), mirG ms seen l = true → (secondM l i = -1 ∧ secG 0 l i = 0) ∨ (secondM l i = secG 0 l i ∧ 0 < secG 0 l i)
  | [], _, _, _ => .inl ⟨rfl, rfl⟩
  | x :: l, seen, i, h => by
    rw [mirG] at h
    simp only [Bool.and_eq_true] at h
    obtain ⟨⟨h1, h2⟩, h3⟩ := h
    rw [secondM, secG]
    by_cases hx : x.f = i
    · rw [if_pos hx, if_pos hx]
      have hno : ∀ m ∈ l, m.f ≠ i := by
        have key : ∀ (l seen : List Mi), mirG ms seen l = true → x ∈ seen → ∀ m ∈ l, m.f ≠ i := by
          intro l
          induction l with
          | nil => intro _ _ _ m hm; cases hm
          | cons y l ih =>
            intro seen h hs m hm
            rw [mirG] at h
            simp only [Bool.and_eq_true] at h
            rcases List.mem_cons.1 hm with rfl | hm
            · have := List.all_eq_true.1 h.1.2 x hs
              unfold apart at this
              simp only [decide_eq_true_eq] at this
              omega
            · exact ih _ h.2 (List.mem_append_left _ hs) m hm
        exact key l _ h3 (by simp)
      rw [secG_no l _ _ hno]
      right
      refine ⟨rfl, ?_⟩
      unfold okMi at h1
      rw [Bool.and_eq_true, decide_eq_true_eq] at h1
      omega
    · rw [if_neg hx, if_neg hx]
      exact mir_sec ms l _ i h3
end Go.Mps
namespace Go.Proofs.Ytiilbgejdpnfpaa
open Go.RowKit Go.Mps
theorem checkC_mir {ms : List (List Rg)} {l : List Mi} (h : checkC ms l = 0) : mirG ms [] l = true := by
  unfold checkC at h
  split at h
  · contradiction
  · split at h
    · omega
    · split at h
      · next h3 => exact h3
      · omega
theorem mdSec {ms : List (List Rg)} {l : List Mi} (h : checkC ms l = 0) (i : Int) : (secondM l i = -1 ∧ secG 0 l i = 0) ∨ (secondM l i = secG 0 l i ∧ 0 < secG 0 l i) := mir_sec ms l [] i (checkC_mir h)
/-- block g holds the truths bs -/
def Pb (w : World) (g : Nat) (bs : List Bool) : Prop := Bk w g 4 (bs.map Value.bool).toArray
/-- block g holds the numbers is -/
def Pi (w : World) (g : Nat) (is : List Int) : Prop := Bk w g 3 (is.map iV).toArray
section
variable {w w' : World} {g n : Nat} {bs : List Bool} {is : List Int}
theorem Pb.at (h : Pb w g bs) {k : Nat} (hk : k < bs.length) : w.cell? ⟨g, k, none⟩ = some (.bool bs[k]) ∧ w.frozen? ⟨g, k, none⟩ = false := by
  refine ⟨?_, Bk.frozen h k⟩
  rw [Bk.cell h k]; simp [hk]
theorem Pi.at (h : Pi w g is) {k : Nat} (hk : k < is.length) : w.cell? ⟨g, k, none⟩ = some (.int .i64 is[k]) ∧ w.frozen? ⟨g, k, none⟩ = false := by
  refine ⟨?_, Bk.frozen h k⟩
  rw [Bk.cell h k]; simp [hk, iV]
theorem Pb.set (h : Pb w g bs) (k : Nat) (b : Bool) : Pb (w.setCell ⟨g, k, none⟩ (.bool b)) g (bs.set k b) := by
  have := Bk.set h k (.bool b)
  unfold Pb
  rw [List.map_set]
  simpa using this
theorem Pi.set (h : Pi w g is) (k : Nat) (b : Int) : Pi (w.setCell ⟨g, k, none⟩ (.int .i64 b)) g (is.set k b) := by
  have := Bk.set h k (.int .i64 b)
  unfold Pi
  rw [List.map_set]
  simpa [iV] using this
end
end Go.Proofs.Ytiilbgejdpnfpaa

/- Places through maps: bringsBack, seconds: the program's. -/
namespace Go.Proofs.Ytiilbgejdpnfpaa
open Go.RowKit Go.Mps

set_option maxRecDepth 100000 in
set_option maxHeartbeats 1000000 in
theorem mdBrings_any (v1 v2 : Value) (l m : List Rg) (B : Nat) (w : World) (h1 : Rgs w B v1 l) (h2 : Rgs w B v2 m) (hB : B ≤ w.heap.size) :
    Calls Try.prog 34 #[v1, v2] w fun e w' => e = .returned (.bool (pairM l m)) ∧ Below w.heap.size w w' := by
  obtain ⟨A, cap, rfl⟩ := h1.form
  obtain ⟨A2, cap2, rfl⟩ := h2.form
  have hm1 := h1.max
  have hm2 := h2.max
  unfold maxLen at hm1 hm2
  obtain ⟨z, hz⟩ : ∃ z, Hid (z = pairM l m) := ⟨pairM l m, Lib.hid rfl⟩
  rw [← hz.out]
  have HV1 := Lib.hid (fun w' (h : Below w.heap.size w w') => h1.below (h.mono hB))
  have HV2 := Lib.hid (fun w' (h : Below w.heap.size w w') => h2.below (h.mono hB))
  clear h1 h2
  by_cases hl : l.length = m.length
  · have hlI : ((l.length : Int) == (m.length : Int)) = true := by simp [hl]
    have HL := Lib.hid hl
    have hne : ((l.length : Int) != (m.length : Int)) = false := by simp [hl]
    clear hl hlI
    go_enter Try.func34, Try.ntmps34
    go_wp2
    go_loopw [14] (fun x wr => ∃ k : Nat, k ≤ l.length ∧ x = .int .i64 k ∧ Hid (∀ j (h : j < l.length) (h' : j < m.length), j < k → m[j].n = l[j].o) ∧ Hid (Below w.heap.size w wr)) (fun x _ => l.length - (intOf x).toNat)
    case atStart => exact ⟨0, Nat.zero_le _, rfl, fun j h h' hj => by omega, Below.refl _ _⟩
    case round =>
      obtain ⟨k, hk, rfl, hall, HB⟩ := hrel
      by_cases hlt : k < l.length
      · have hltm : k < m.length := by have := HL.out; omega
        have hkI : (k : Int) < (l.length : Int) := by omega
        have hkM : (k : Int) < (m.length : Int) := by omega
        have hk0 : (0 : Int) ≤ k := by omega
        obtain ⟨b, off, rfl, hbB, _, c0, c1, c2⟩ := (HV1.out _ HB.out).at hlt
        obtain ⟨b2, off2, rfl, hbB2, _, _, _, g2⟩ := (HV2.out _ HB.out).at hltm
        have hbw : b < wr.heap.size := by have := HB.out.size; omega
        have hbw2 : b2 < wr.heap.size := by have := HB.out.size; omega
        have hno := Lib.hid (pair_no hlt hltm)
        have hyes : Hid (m[k].n = l[k].o → ∀ j (h : j < l.length) (h' : j < m.length), j < k + 1 → m[j].n = l[j].o) := fun e j h h' hj => by
          by_cases ej : j = k
          · subst ej; exact e
          · exact hall.out j h h' (by omega)
        rw [← hz.out] at hno
        obtain ⟨a, ha⟩ : ∃ a, Hid (a = l[k].a) := ⟨l[k].a, Lib.hid rfl⟩
        obtain ⟨o, ho⟩ : ∃ o, Hid (o = l[k].o) := ⟨l[k].o, Lib.hid rfl⟩
        obtain ⟨x, hx⟩ : ∃ x, Hid (x = l[k].n) := ⟨l[k].n, Lib.hid rfl⟩
        obtain ⟨n, hn⟩ : ∃ n, Hid (n = m[k].n) := ⟨m[k].n, Lib.hid rfl⟩
        rw [← ha.out] at c0
        rw [← ho.out] at c1
        rw [← hx.out] at c2
        rw [← hn.out] at g2
        clear ha hx
        have HB2 := Lib.hid (HB.out.alloc HB.out.size (.cells #[.int .i64 a, .int .i64 o, .int .i64 x] 23))
        by_cases e : n = o
        · have hq := Lib.hid (hyes.out (by rw [← hn.out, ← ho.out]; exact e))
          have hb : (n != o) = false := by simp [e]
          clear hno hyes ho hn e
          go_wp2
          go_quiet (fail)
          go_wp2
          go_roundw
          case rel => exact ⟨k + 1, by omega, by go_num, hq, blN HB2.out _⟩
          case measure => simp [intOf]; omega
        · have hq := Lib.hid (hno.out (by rw [← hn.out, ← ho.out]; exact e))
          have hb : (n != o) = true := by simpa using e
          clear hno hyes ho hn e
          go_wp2
          go_quiet (fail)
          go_wp2
          go_ret
          exact ⟨by rw [hq.out]; rfl, blN HB2.out _⟩
      · obtain rfl : k = l.length := by omega
        have hq : Hid (z = true) := by show _ = _; rw [hz.out, pairM_iff]; exact ⟨HL.out, fun k h h' => hall.out k h h' h⟩
        go_wp2
        go_ret
        exact ⟨by rw [hq.out]; rfl, HB.out⟩
  · have hne : ((l.length : Int) != (m.length : Int)) = true := by simp; omega
    have hq : Hid (z = false) := hz.out.trans (pair_len hl)
    clear hl
    go_enter Try.func34, Try.ntmps34
    go_wp2
    go_ret
    exact ⟨by rw [hq.out]; rfl, Below.refl _ _⟩

theorem infoI64 : (Try.prog.info? 3).map (fun i => (i.zero, i.size, i.bytes)) = some (some (.int .i64 0), 1, 8) := by kernel_rfl
theorem infoBool : (Try.prog.info? 4).map (fun i => (i.zero, i.size, i.bytes)) = some (some (.bool false), 1, 1) := by kernel_rfl
theorem made_map {α : Type} (f : α → Value) (x : α) (n : Nat) : madeCells #[f x] n = ((List.replicate n x).map f).toArray := by
  apply Array.toList_inj.1
  simp [madeCells, Nat.mod_one, List.map_const']
theorem Pi.new (w : World) (n : Nat) : Pi (w.alloc (.cells (madeCells #[.int .i64 0] n) 3)) w.heap.size (List.replicate n 0) := by
  have := Bk.new w 3 ((List.replicate n (0 : Int)).map iV).toArray
  rw [← made_map iV] at this
  unfold Pi
  rw [← made_map iV]
  exact this
theorem Pb.new (w : World) (n : Nat) : Pb (w.alloc (.cells (madeCells #[.bool false] n) 4)) w.heap.size (List.replicate n false) := by
  have := Bk.new w 4 ((List.replicate n false).map Value.bool).toArray
  rw [← made_map Value.bool] at this
  unfold Pb
  rw [← made_map Value.bool]
  exact this

/-- what seconds answers: numbers in a block of its own -/
def SecR (w : World) (n : Nat) (l : List Mi) (e : Ending) (w' : World) : Prop := ∃ (g : Nat) (is : List Int), e = .returned (.slice (some ⟨g, 0, none⟩) n n) ∧ w.heap.size ≤ g ∧ Pi w' g is ∧ is.length = n ∧ (∀ i (h : i < is.length), is[i] = secG 0 l i) ∧ Below w.heap.size w w'

set_option maxRecDepth 100000 in
set_option maxHeartbeats 2000000 in
theorem mdSeconds_any (v1 v2 : Value) (ms : List (List Rg)) (l : List Mi) (B : Nat) (w : World) (h1 : Mss w B v1 ms) (h2 : Mis w B v2 l) (hB : B ≤ w.heap.size) (hc : checkC ms l = 0) :
    Calls Try.prog 26 #[.agg #[v1, v2]] w (SecR w ms.length l) := by
  obtain ⟨A, cap, rfl⟩ := h1.form
  obtain ⟨A2, cap2, rfl⟩ := h2.form
  have hm2 := h2.max
  unfold maxLen at hm2
  obtain ⟨hfz, h256, hmi⟩ := checkC_zero hc
  obtain ⟨i0, hi, hz0, hz1, hz2⟩ := info_parts infoI64
  obtain ⟨n, hn⟩ : ∃ n, Hid (n = ms.length) := ⟨_, Lib.hid rfl⟩
  have hn0 : (0 : Int) ≤ n := by omega
  have HV2 := Lib.hid (fun w' (h : Below w.heap.size w w') => h2.below (h.mono hB))
  have HM : Hid (∀ m ∈ l, 0 ≤ m.f ∧ m.f < n) := fun m hm => by
    have := hmi m hm
    unfold okMi at this
    rw [Bool.and_eq_true, decide_eq_true_eq, ← hn.out] at this
    omega
  rw [← hn.out] at h256 ⊢
  obtain ⟨wb, hwb⟩ : ∃ wb, Hid (wb = w.alloc (.cells #[.slice A n cap, .slice A2 l.length cap2] 33)) := ⟨_, Lib.hid rfl⟩
  have hgs : wb.heap.size = w.heap.size + 1 := by rw [hwb.out]; simp
  obtain ⟨g, hg⟩ : ∃ g, Hid (g = wb.heap.size) := ⟨_, Lib.hid rfl⟩
  have HBb : Hid (Below w.heap.size w wb) := by show Below _ _ _; rw [hwb.out]; exact (Below.refl _ _).alloc (Nat.le_refl _) _
  have HKb : Hid (Bk wb w.heap.size 33 #[.slice A n cap, .slice A2 l.length cap2]) := by show Bk _ _ _ _; rw [hwb.out]; exact Bk.new _ _ _
  have hgw : w.heap.size < g := by rw [hg.out, hgs]; omega
  clear h1 h2 hc hfz hmi hgs
  have e1 : wb.cell? ⟨w.heap.size, 1, none⟩ = some (.slice A2 l.length cap2) := HKb.out.cell 1
  have e0 : wb.cell? ⟨w.heap.size, 0, none⟩ = some (.slice A n cap) := HKb.out.cell 0
  go_enter Try.func26, Try.ntmps26
  go_upto_region 1 with fail
  rw [← hwb.out]
  have HP := Lib.hid (Pi.new wb n)
  have HKm := Lib.hid (HKb.out.alloc (.cells (madeCells #[.int .i64 0] n) 3))
  have HBm := Lib.hid (HBb.out.alloc HBb.out.size (.cells (madeCells #[.int .i64 0] n) 3))
  have e1m : (wb.alloc (.cells (madeCells #[.int .i64 0] n) 3)).cell? ⟨w.heap.size, 1, none⟩ = some (.slice A2 l.length cap2) := HKm.out.cell 1
  rw [← hg.out] at HP
  go_wp2_with (at_make; refine wpList_make_row _ rfl _ _ 50 rfl 3 i0 (.int .i64 0) Try.underlying50 hi hz0 hz1 rfl _ _ n rfl rfl ?_ ?_ ?_)
  · rw [hz2]; omega
  · omega
  rw [← hg.out]
  generalize wb.alloc (.cells (madeCells #[.int .i64 0] n) 3) = wm at HP HKm HBm e1m ⊢
  clear e0 e1 HKb HBb hwb hg hi hz0 hz1 hz2
  go_loopw [13] (fun x wr => ∃ (k : Nat) (is : List Int), k ≤ l.length ∧ x = .int .i64 k ∧ is.length = n ∧ Hid (∀ i (h : i < is.length), is[i] = secG 0 (l.take k) i) ∧ Hid (Pi wr g is) ∧ Hid (Below w.heap.size w wr)) (fun x _ => l.length - (intOf x).toNat)
  case atStart => exact ⟨0, _, Nat.zero_le _, rfl, by simp, fun i h => by simp [secG], HP, HBm⟩
  case round =>
    obtain ⟨k, is, hk, rfl, hil, hiv, HP, HB⟩ := hrel
    have hgl := Bk.lt HP.out
    by_cases hlt : k < l.length
    · have hkI : (k : Int) < (l.length : Int) := by omega
      have hk0 : (0 : Int) ≤ k := by omega
      obtain ⟨b2, off2, rfl, hb2B, _, c0, c1⟩ := (HV2.out _ HB.out).at hlt
      have hb2w : b2 < wr.heap.size := by have := HB.out.size; omega
      have hmf := HM.out l[k] (List.getElem_mem hlt)
      have hsu := Lib.hid (fun i => secG_app (l.take k) 0 l[k] i)
      rw [← List.take_succ_eq_append_getElem hlt] at hsu
      obtain ⟨m, hm⟩ : ∃ m, Hid (m = l[k]) := ⟨l[k], Lib.hid rfl⟩
      rw [← hm.out] at c0 c1 hsu hmf
      obtain ⟨f, s⟩ := m
      dsimp only at c0 c1 hsu hmf
      obtain ⟨fn, rfl⟩ : ∃ n : Nat, f = n := ⟨f.toNat, by omega⟩
      have n3 : (fn : Int) < (n : Int) := hmf.2
      have n5 : (0 : Int) ≤ fn := hmf.1
      have hpf : fn < is.length := by omega
      obtain ⟨x1, z1⟩ := HP.out.at hpf
      have HP2 := Lib.hid (Bk.alloc (HP.out.set fn s) (.cells #[.int .i64 fn, .int .i64 s] 30))
      have hbs := HB.out.setCell (p := ⟨g, fn, none⟩) (Nat.le_of_lt hgw) (.int .i64 s)
      have HB2 := Lib.hid (hbs.alloc hbs.size (.cells #[.int .i64 fn, .int .i64 s] 30))
      have hil2 : (is.set fn s).length = n := by simp [hil]
      have hiv2 : Hid (∀ i (h : i < (is.set fn s).length), (is.set fn s)[i] = secG 0 (l.take (k + 1)) i) := fun i h => by
        rw [hsu.out, List.getElem_set]
        by_cases e : fn = i
        · rw [if_pos e, if_pos (by omega)]
        · rw [if_neg e, if_neg (by omega), hiv.out i (by simpa using h)]
      clear hmf hm hsu hbs hiv HP HM
      go_wp2
      go_roundw
      case rel => exact ⟨k + 1, _, by omega, by go_num, hil2, hiv2, HP2, HB2⟩
      case measure => simp [intOf]; omega
    · obtain rfl : k = l.length := by omega
      rw [List.take_length] at hiv
      go_wp2
      go_ret
      exact ⟨g, is, rfl, Nat.le_of_lt hgw, HP.out, hil, hiv.out, HB.out⟩
end Go.Proofs.Ytiilbgejdpnfpaa

/- Places through maps: CheckChain: the program's. -/
namespace Go.Proofs.Ytiilbgejdpnfpaa
open Go.RowKit Go.Mps

set_option maxRecDepth 100000 in
set_option maxHeartbeats 8000000 in
theorem mdCheckChain_any (v1 v2 : Value) (ms : List (List Rg)) (l : List Mi) (B : Nat) (w : World) (h1 : Mss w B v1 ms) (h2 : Mis w B v2 l) (hB : B ≤ w.heap.size) :
    Calls Try.prog 21 #[.agg #[v1, v2]] w fun e w' => e = .returned (.int .i64 (checkC ms l)) ∧ Below w.heap.size w w' := by
  obtain ⟨A, cap, rfl⟩ := h1.form
  obtain ⟨A2, cap2, rfl⟩ := h2.form
  have hm1 := h1.max
  have hm2 := h2.max
  unfold maxLen at hm1 hm2
  obtain ⟨i0, hi, hz0, hz1, hz2⟩ := info_parts infoBool
  obtain ⟨z, hz⟩ : ∃ z, Hid (z = checkC ms l) := ⟨checkC ms l, Lib.hid rfl⟩
  rw [← hz.out]
  have HV1 := Lib.hid (fun w' (h : Below w.heap.size w w') => h1.below (h.mono hB))
  have HV2 := Lib.hid (fun w' (h : Below w.heap.size w w') => h2.below (h.mono hB))
  have HBk := Lib.hid (Bk.new w 33 #[.slice A ms.length cap, .slice A2 l.length cap2])
  have HB0 := Lib.hid (((Below.refl w.heap.size w).alloc (Nat.le_refl _) (.cells #[.slice A ms.length cap, .slice A2 l.length cap2] 33)))
  clear h1 h2
  go_enter Try.func21, Try.ntmps21
  go_wp2
  go_loopw [12] (fun x wr => ∃ k : Nat, k ≤ ms.length ∧ x = .int .i64 k ∧ Hid (firstErr ms = firstErr (ms.drop k)) ∧ Hid (Bk wr w.heap.size 33 #[.slice A ms.length cap, .slice A2 l.length cap2]) ∧ Hid (Below w.heap.size w wr)) (fun x _ => ms.length - (intOf x).toNat)
  case atStart => exact ⟨0, Nat.zero_le _, rfl, rfl, HBk, HB0⟩
  case round =>
    obtain ⟨k, hk, rfl, hq, HK, HB⟩ := hrel
    have hbl := HK.out.lt
    by_cases hlt : k < ms.length
    · have hkI : (k : Int) < (ms.length : Int) := by omega
      have hk0 : (0 : Int) ≤ k := by omega
      obtain ⟨b, off, A3, cap3, rfl, hbB, _, c0, hr⟩ := (HV1.out _ HB.out).at hlt
      have hbw : b < wr.heap.size := by have := HB.out.size; omega
      have CC := Lib.hid (mdCheck_any _ _ B wr hr (Nat.le_trans hB HB.out.size))
      have hs := Lib.hid (first_drop ms hlt)
      obtain ⟨c, hc⟩ : ∃ c, Hid (c = checkM ms[k]) := ⟨checkM ms[k], Lib.hid rfl⟩
      rw [← hc.out] at CC hs
      clear hr hc
      go_wp2_with fail
      refine CC.out.mono ?_
      rintro e w1 ⟨rfl, hb⟩
      have HB2 := Lib.hid (HB.out.trans (hb.mono HB.out.size))
      have HK2 := Lib.hid (HK.out.over hb hbl)
      clear CC hb
      by_cases c1 : c = 0
      · have hr : Hid (firstErr ms = firstErr (ms.drop (k + 1))) := by show _ = _; rw [hq.out, hs.out, if_neg (by omega)]
        subst c1
        clear hs hq c0
        go_wp2
        go_roundw
        case rel => exact ⟨k + 1, by omega, by go_num, hr, HK2, HB2⟩
        case measure => simp [intOf]; omega
      · have hr : Hid (z = c) := by
          show _ = _
          have : firstErr ms = c := by rw [hq.out, hs.out, if_pos c1]
          rw [hz.out]; unfold checkC; rw [this, if_pos c1]
        have cb : (c != 0) = true := by simpa using c1
        clear hs hq c0 c1
        go_wp2
        go_ret
        exact ⟨by rw [hr.out]; rfl, HB2.out⟩
    · obtain rfl : k = ms.length := by omega
      have e0 : wr.cell? ⟨w.heap.size, 0, none⟩ = some (.slice A ms.length cap) := HK.out.cell 0
      have hfe : Hid (firstErr ms = 0) := by show _ = _; rw [hq.out, List.drop_length]; rfl
      clear hq
      by_cases h256 : 256 < ms.length
      · have h256' : (256 : Int) < (ms.length : Int) := by omega
        have hr : Hid (z = 3) := by show _ = _; rw [hz.out]; unfold checkC; rw [hfe.out, if_neg (by omega), if_pos h256]
        go_wp2
        go_ret
        exact ⟨by rw [hr.out]; rfl, HB.out⟩
      · have h256' : (ms.length : Int) ≤ 256 := by omega
        have hno : Hid (mirG ms [] l = false → z = 2) := fun h => by rw [hz.out]; unfold checkC; rw [hfe.out, if_neg (by omega), if_neg h256, if_neg (by rw [h]; simp)]
        have hyes : Hid (mirG ms [] l = true → z = 0) := fun h => by rw [hz.out]; unfold checkC; rw [hfe.out, if_neg (by omega), if_neg h256, if_pos h]
        have hn0 : (0 : Int) ≤ (ms.length : Int) := by omega
        clear hz hfe h256 hlt
        have HP := Lib.hid (Pb.new wr ms.length)
        have HKm := Lib.hid (HK.out.alloc (.cells (madeCells #[.bool false] ms.length) 4))
        have HBm := Lib.hid (HB.out.alloc HB.out.size (.cells (madeCells #[.bool false] ms.length) 4))
        have hgm : w.heap.size < wr.heap.size := hbl
        have e1m : (wr.alloc (.cells (madeCells #[.bool false] ms.length) 4)).cell? ⟨w.heap.size, 1, none⟩ = some (.slice A2 l.length cap2) := HKm.out.cell 1
        go_upto_region 10 with fail
        go_wp2_with (at_make; refine wpList_make_row _ rfl _ _ 60 rfl 4 i0 (.bool false) Try.underlying60 hi hz0 hz1 rfl _ _ ms.length rfl rfl ?_ ?_ ?_)
        · rw [hz2]; omega
        · omega
        generalize wr.alloc (.cells (madeCells #[.bool false] ms.length) 4) = wm at HP HKm HBm e1m ⊢
        generalize wr.heap.size = gp at HP hgm ⊢
        clear HK HB hbl hi hz0 hz1 hz2
        go_loopw [33] (fun x wr => ∃ (k : Nat) (pl : List Bool), k ≤ l.length ∧ x = .int .i64 k ∧ Hid (mirG ms [] l = mirG ms (l.take k) (l.drop k)) ∧ pl.length = ms.length ∧ Hid (∀ i (h : i < pl.length), pl[i] = hasM (l.take k) i) ∧ Hid (Pb wr gp pl) ∧ Hid (Bk wr w.heap.size 33 #[.slice A ms.length cap, .slice A2 l.length cap2]) ∧ Hid (Below w.heap.size w wr)) (fun x _ => l.length - (intOf x).toNat)
        case atStart => exact ⟨0, _, Nat.zero_le _, rfl, rfl, by simp, fun i h => by simp [hasM], HP, HKm, HBm⟩
        case round =>
          obtain ⟨k, pl, hk, rfl, hq, hpl, hpv, HP, HK, HB⟩ := hrel
          have hbl := HK.out.lt
          have hgl := Bk.lt HP.out
          have e0 : wr.cell? ⟨w.heap.size, 0, none⟩ = some (.slice A ms.length cap) := HK.out.cell 0
          by_cases hlt : k < l.length
          · have hkI : (k : Int) < (l.length : Int) := by omega
            have hk0 : (0 : Int) ≤ k := by omega
            obtain ⟨b2, off2, rfl, hb2B, _, c0, c1⟩ := (HV2.out _ HB.out).at hlt
            have hb2w : b2 < wr.heap.size := by have := HB.out.size; omega
            have hs := Lib.hid (mir_drop ms l hlt)
            have hsu := Lib.hid (fun i => hasM_app (l.take k) l[k] i)
            rw [← List.take_succ_eq_append_getElem hlt] at hsu
            obtain ⟨m, hm⟩ : ∃ m, Hid (m = l[k]) := ⟨l[k], Lib.hid rfl⟩
            rw [← hm.out] at hs c0 c1 hsu
            have hap := Lib.hid (apart_all (l.take k) m)
            obtain ⟨f, s⟩ := m
            dsimp only at c0 c1 hap hsu
            have hno2 : Hid (okMi ms ⟨f, s⟩ = false → z = 2) := fun h => hno.out (by rw [hq.out, hs.out, h]; rfl)
            have hyes2 : Hid (okMi ms ⟨f, s⟩ = true → mirG ms [] l = ((!hasM (l.take k) f && !hasM (l.take k) s) && mirG ms (l.take (k + 1)) (l.drop (k + 1)))) := fun h => by rw [hq.out, hs.out, h, Bool.true_and, hap.out]
            have hno3 : Hid ((!hasM (l.take k) f && !hasM (l.take k) s) = false → z = 2) := fun h => hno.out (by rw [hq.out, hs.out, hap.out, h]; simp)
            clear hs hq hap hm
            have HBa := Lib.hid (HB.out.alloc HB.out.size (.cells #[.int .i64 f, .int .i64 s] 30))
            by_cases f1 : f < 0
            · have hr : Hid (z = 2) := hno2.out (okMi_no ms ⟨f, s⟩ (by rintro ⟨q1, q2, q3⟩; dsimp only at q1 q2 q3; omega))
              clear hno2 hyes2 hno3
              go_wp2
              go_ret
              exact ⟨by rw [hr.out]; rfl, HBa.out⟩
            · have d1 : decide (f < 0) = false := decide_eq_false f1
              by_cases f2 : s ≤ f
              · have hr : Hid (z = 2) := hno2.out (okMi_no ms ⟨f, s⟩ (by rintro ⟨q1, q2, q3⟩; dsimp only at q1 q2 q3; omega))
                clear hno2 hyes2 f1 hno3
                go_wp2
                go_ret
                exact ⟨by rw [hr.out]; rfl, HBa.out⟩
              · have d2 : decide (s ≤ f) = false := decide_eq_false f2
                by_cases f3 : (ms.length : Int) ≤ s
                · have hr : Hid (z = 2) := hno2.out (okMi_no ms ⟨f, s⟩ (by rintro ⟨q1, q2, q3⟩; dsimp only at q1 q2 q3; omega))
                  clear hno2 hyes2 f1 f2 hno3
                  go_wp2
                  go_ret
                  exact ⟨by rw [hr.out]; rfl, HBa.out⟩
                · have d3 : decide ((ms.length : Int) ≤ s) = false := decide_eq_false f3
                  obtain ⟨fn, rfl⟩ : ∃ n : Nat, f = n := ⟨f.toNat, by omega⟩
                  obtain ⟨sn, rfl⟩ : ∃ n : Nat, s = n := ⟨s.toNat, by omega⟩
                  have n1 : fn < sn := by omega
                  have n2 : sn < ms.length := by omega
                  have n3 : (fn : Int) < (ms.length : Int) := by omega
                  have n4 : (sn : Int) < (ms.length : Int) := by omega
                  have n5 : (0 : Int) ≤ fn := by omega
                  have n6 : (0 : Int) ≤ sn := by omega
                  have hpf : fn < pl.length := by omega
                  have hps : sn < pl.length := by omega
                  obtain ⟨x1, z1⟩ := HP.out.at hpf
                  obtain ⟨x2, z2⟩ := HP.out.at hps
                  have y1 := hpv.out fn hpf
                  have y2 := hpv.out sn hps
                  rw [y1] at x1
                  rw [y2] at x2
                  obtain ⟨bf, hbf⟩ : ∃ q, Hid (q = hasM (l.take k) fn) := ⟨_, Lib.hid rfl⟩
                  obtain ⟨bs, hbs⟩ : ∃ q, Hid (q = hasM (l.take k) sn) := ⟨_, Lib.hid rfl⟩
                  rw [← hbf.out] at x1
                  rw [← hbs.out] at x2
                  rw [← hbf.out, ← hbs.out] at hno3 hyes2
                  clear y1 y2 f1 f2 f3
                  cases bf with
                  | true =>
                    have hr : Hid (z = 2) := hno3.out rfl
                    clear hno2 hyes2 hno3
                    go_wp2
                    go_quiet (fail)
                    go_wp2
                    go_ret
                    exact ⟨by rw [hr.out]; rfl, blN HBa.out _⟩
                  | false =>
                    cases bs with
                    | true =>
                      have hr : Hid (z = 2) := hno3.out rfl
                      clear hno2 hyes2 hno3
                      go_wp2
                      go_quiet (fail)
                      go_wp2
                      go_ret
                      exact ⟨by rw [hr.out]; rfl, blN HBa.out _⟩
                    | false =>
                      obtain ⟨b, off, A3, cap3, rfl, hbB, _, g0, hr1⟩ := (HV1.out _ HB.out).at (show fn < ms.length by omega)
                      obtain ⟨b', off', A4, cap4, e', _, _, g1, hr2⟩ := (HV1.out _ HB.out).at n2
                      simp only [Option.some.injEq, Addr.mk.injEq, and_true] at e'
                      obtain ⟨rfl, rfl⟩ := e'
                      have hbw : b < wr.heap.size := by have := HB.out.size; omega
                      have hok := Lib.hid (okMi_at ms fn sn n1 n2)
                      obtain ⟨q, hqq⟩ : ∃ q, Hid (q = pairM ms[fn] ms[sn]) := ⟨pairM ms[fn] ms[sn], Lib.hid rfl⟩
                      have hbd := (Below.refl B wr).alloc (Nat.le_trans hB HB.out.size) (.cells #[.int .i64 fn, .int .i64 sn] 30)
                      have HP2 := Lib.hid (mdBrings_any _ _ _ _ B ((wr.alloc (.cells #[.int .i64 fn, .int .i64 sn] 30)).drew) (hr1.below hbd.drew) (hr2.below hbd.drew) (Nat.le_trans (Nat.le_trans hB HB.out.size) hbd.size))
                      rw [← hqq.out] at hok HP2
                      have m0 : (wr.alloc (.cells #[.int .i64 fn, .int .i64 sn] 30)).drew.cell? ⟨wr.heap.size, 0, none⟩ = some (.int .i64 fn) := by go_simp
                      have m1 : (wr.alloc (.cells #[.int .i64 fn, .int .i64 sn] 30)).drew.cell? ⟨wr.heap.size, 1, none⟩ = some (.int .i64 sn) := by go_simp
                      have hsz := HB.out.size
                      have hba := (Below.refl wr.heap.size wr).alloc (Nat.le_refl _) (.cells #[.int .i64 fn, .int .i64 sn] 30)
                      have k0 : (wr.alloc (.cells #[.int .i64 fn, .int .i64 sn] 30)).drew.cell? ⟨w.heap.size, 0, none⟩ = some (.slice (some ⟨b, off, none⟩) ms.length cap) := (hba.cell (p := ⟨w.heap.size, 0, none⟩) hbl).trans e0
                      have p0 : (wr.alloc (.cells #[.int .i64 fn, .int .i64 sn] 30)).drew.cell? ⟨gp, fn, none⟩ = some (.bool false) := (hba.cell (p := ⟨gp, fn, none⟩) hgl).trans x1
                      have p1 : (wr.alloc (.cells #[.int .i64 fn, .int .i64 sn] 30)).drew.cell? ⟨gp, sn, none⟩ = some (.bool false) := (hba.cell (p := ⟨gp, sn, none⟩) hgl).trans x2
                      have q0 : (wr.alloc (.cells #[.int .i64 fn, .int .i64 sn] 30)).drew.cell? ⟨b, off + fn, none⟩ = some (.slice A3 ms[fn].length cap3) := (hba.cell (p := ⟨b, off + fn, none⟩) hbw).trans g0
                      have q1 : (wr.alloc (.cells #[.int .i64 fn, .int .i64 sn] 30)).drew.cell? ⟨b, off + sn, none⟩ = some (.slice A4 ms[sn].length cap4) := (hba.cell (p := ⟨b, off + sn, none⟩) hbw).trans g1
                      have l0 : w.heap.size < (wr.alloc (.cells #[.int .i64 fn, .int .i64 sn] 30)).drew.heap.size := by simp; omega
                      have l1 : gp < (wr.alloc (.cells #[.int .i64 fn, .int .i64 sn] 30)).drew.heap.size := by simp; omega
                      have l2 : b < (wr.alloc (.cells #[.int .i64 fn, .int .i64 sn] 30)).drew.heap.size := by simp; omega
                      have l3 : wr.heap.size < (wr.alloc (.cells #[.int .i64 fn, .int .i64 sn] 30)).drew.heap.size := by simp
                      have hne : wr.heap.size ≠ gp := by omega
                      have HPd : Hid (Pb (wr.alloc (.cells #[.int .i64 fn, .int .i64 sn] 30)).drew gp pl) := Bk.alloc HP.out _
                      have HKd : Hid (Bk (wr.alloc (.cells #[.int .i64 fn, .int .i64 sn] 30)).drew w.heap.size 33 #[.slice (some ⟨b, off, none⟩) ms.length cap, .slice (some ⟨b2, off2, none⟩) l.length cap2]) := HK.out.alloc _
                      have HBd := Lib.hid HBa.out.drew
                      go_wp2_with fail
                      generalize (wr.alloc (.cells #[.int .i64 fn, .int .i64 sn] 30)) = wa at HP2 m0 m1 k0 p0 p1 q0 q1 l0 l1 l2 l3 HPd HKd HBd ⊢
                      generalize wr.heap.size = gm at m0 m1 l3 hne ⊢
                      clear hbd hba hr1 hr2 HP HK HB HBa x1 x2 z1 z2 e0 g0 g1 hbl hgl hbw c0 c1 hb2w hqq hbf hbs hsz
                      go_region_held3 (fun w' => w'.cell? ⟨gm, 0, none⟩ = some (.int .i64 fn) ∧ w'.cell? ⟨gm, 1, none⟩ = some (.int .i64 sn) ∧ w'.cell? ⟨w.heap.size, 0, none⟩ = some (.slice (some ⟨b, off, none⟩) ms.length cap) ∧ w'.cell? ⟨gp, fn, none⟩ = some (.bool false) ∧ w'.cell? ⟨gp, sn, none⟩ = some (.bool false) ∧ w'.cell? ⟨b, off + fn, none⟩ = some (.slice A3 ms[fn].length cap3) ∧ w'.cell? ⟨b, off + sn, none⟩ = some (.slice A4 ms[sn].length cap4))
                        (first | exact ⟨m0, m1, k0, p0, p1, q0, q1⟩ | exact ⟨(hb2.cell (p := ⟨gm, 0, none⟩) l3).trans m0, (hb2.cell (p := ⟨gm, 1, none⟩) l3).trans m1, (hb2.cell (p := ⟨w.heap.size, 0, none⟩) l0).trans k0, (hb2.cell (p := ⟨gp, fn, none⟩) l1).trans p0, (hb2.cell (p := ⟨gp, sn, none⟩) l1).trans p1, (hb2.cell (p := ⟨b, off + fn, none⟩) l2).trans q0, (hb2.cell (p := ⟨b, off + sn, none⟩) l2).trans q1⟩)
                        ((go_at_call 34; refine HP2.out.mono ?_; rintro e2 w2 ⟨rfl, hb2⟩))
                      cases q with
                      | false =>
                        have hr : Hid (z = 2) := hno2.out hok.out
                        clear hno2 hyes2 hno3 hok
                        go_wp2
                        go_ret
                        exact ⟨by rw [hr.out]; rfl, HBd.out.trans (hb2.mono HBd.out.size)⟩
                      | true =>
                        have hmir := Lib.hid (hyes2.out hok.out)
                        clear hno2 hyes2 hno3 hok
                        have m0' : w2.drew.cell? ⟨gm, 0, none⟩ = some (.int .i64 fn) := (hb2.cell (p := ⟨gm, 0, none⟩) l3).trans m0
                        have m1' : w2.drew.cell? ⟨gm, 1, none⟩ = some (.int .i64 sn) := (hb2.cell (p := ⟨gm, 1, none⟩) l3).trans m1
                        have HP3 : Hid (Pb w2.drew gp pl) := Bk.over HPd.out hb2.drew l1
                        have HK3 : Hid (Bk w2.drew w.heap.size 33 #[.slice (some ⟨b, off, none⟩) ms.length cap, .slice (some ⟨b2, off2, none⟩) l.length cap2]) := Bk.over HKd.out hb2.drew l0
                        have HB3 := Lib.hid (HBd.out.trans (hb2.mono HBd.out.size)).drew
                        obtain ⟨x1, z1⟩ := HP3.out.at hpf
                        obtain ⟨x2, z2⟩ := HP3.out.at hps
                        have z1' : w2.frozen? ⟨gp, fn, none⟩ = false := z1
                        have z2' : w2.frozen? ⟨gp, sn, none⟩ = false := z2
                        have hgl : gp < w2.heap.size := Nat.lt_of_lt_of_le l1 hb2.size
                        have hne' : gp ≠ gm := fun h => hne h.symm
                        have HP3' : Pb w2 gp pl := HP3.out
                        have z12 : (w2.setCell ⟨gp, fn, none⟩ (.bool true)).frozen? ⟨gp, sn, none⟩ = false := Bk.frozen (HP3'.set fn true) sn
                        have z21 : (w2.setCell ⟨gp, sn, none⟩ (.bool true)).frozen? ⟨gp, fn, none⟩ = false := Bk.frozen (HP3'.set sn true) fn
                        have x12 : (w2.setCell ⟨gp, fn, none⟩ (.bool true)).cell? ⟨gp, sn, none⟩ = some (.bool ((pl.set fn true)[sn]'(by simpa using hps))) := ((HP3'.set fn true).at (by simpa using hps)).1
                        have x21 : (w2.setCell ⟨gp, sn, none⟩ (.bool true)).cell? ⟨gp, fn, none⟩ = some (.bool ((pl.set sn true)[fn]'(by simpa using hpf))) := ((HP3'.set sn true).at (by simpa using hpf)).1
                        have x1' : w2.cell? ⟨gp, fn, none⟩ = some (.bool pl[fn]) := x1
                        have x2' : w2.cell? ⟨gp, sn, none⟩ = some (.bool pl[sn]) := x2
                        clear HP3'
                        clear HP2 m0 m1 k0 p0 p1 q0 q1 l0 l1 l2 l3 HPd HKd HBd hb2 x1 x2 z1 z2
                        go_wp2_with fail
                        go_region_held3 (fun w' => w'.cell? ⟨gm, 0, none⟩ = some (.int .i64 fn) ∧ w'.cell? ⟨gm, 1, none⟩ = some (.int .i64 sn))
                          (first | exact ⟨m0', m1'⟩ | exact ⟨(World.cell?_setCell_far _ _ _ _ hne').trans m0', (World.cell?_setCell_far _ _ _ _ hne').trans m1'⟩ | exact ⟨(World.cell?_setCell_far _ _ _ _ hne').trans ((World.cell?_setCell_far _ _ _ _ hne').trans m0'), (World.cell?_setCell_far _ _ _ _ hne').trans ((World.cell?_setCell_far _ _ _ _ hne').trans m1')⟩)
                          (fail)
                        all_goals
                          have hpl2 : ((pl.set fn true).set sn true).length = ms.length := by simp [hpl]
                          have hpl3 : ((pl.set sn true).set fn true).length = ms.length := by simp [hpl]
                          have hb5 := Lib.hid (fun i j => (HB3.out.setCell (p := ⟨gp, i, none⟩) (Nat.le_of_lt hgm) (.bool true)).setCell (p := ⟨gp, j, none⟩) (Nat.le_of_lt hgm) (.bool true))
                          have hk5 := Lib.hid (fun i j => (HK3.out.far (p := ⟨gp, i, none⟩) (Nat.ne_of_lt hgm) (.bool true)).far (p := ⟨gp, j, none⟩) (Nat.ne_of_lt hgm) (.bool true))
                          have hv2 : Hid (∀ i (h : i < ((pl.set fn true).set sn true).length), ((pl.set fn true).set sn true)[i] = hasM (l.take (k + 1)) i) := fun i h => by
                            rw [hsu.out, List.getElem_set, List.getElem_set]
                            by_cases e1 : sn = i
                            · rw [if_pos e1, decide_eq_true (show (sn : Int) = i by omega)]; simp
                            · rw [if_neg e1]
                              by_cases e2 : fn = i
                              · rw [if_pos e2, decide_eq_true (show (fn : Int) = i by omega)]; simp
                              · rw [if_neg e2, hpv.out i (by simpa using h), decide_eq_false (show ¬ (fn : Int) = i by omega), decide_eq_false (show ¬ (sn : Int) = i by omega)]; simp
                          have hv3 : Hid (∀ i (h : i < ((pl.set sn true).set fn true).length), ((pl.set sn true).set fn true)[i] = hasM (l.take (k + 1)) i) := fun i h => by
                            rw [hsu.out, List.getElem_set, List.getElem_set]
                            by_cases e1 : fn = i
                            · rw [if_pos e1, decide_eq_true (show (fn : Int) = i by omega)]; simp
                            · rw [if_neg e1]
                              by_cases e2 : sn = i
                              · rw [if_pos e2, decide_eq_true (show (sn : Int) = i by omega)]; simp
                              · rw [if_neg e2, hpv.out i (by simpa using h), decide_eq_false (show ¬ (fn : Int) = i by omega), decide_eq_false (show ¬ (sn : Int) = i by omega)]; simp
                          have hmir2 : Hid (mirG ms [] l = mirG ms (l.take (k + 1)) (l.drop (k + 1))) := by show _ = _; rw [hmir.out]; rfl
                          have HPa := Lib.hid ((HP3.out.set fn true).set sn true)
                          have HPb := Lib.hid ((HP3.out.set sn true).set fn true)
                          clear hmir hsu hpv HP3 HK3 HB3
                          go_wp2
                          go_roundw
                          case rel => first
                            | exact ⟨k + 1, (pl.set fn true).set sn true, by omega, by go_num, hmir2, hpl2, hv2, HPa.out, hk5.out _ _, hb5.out _ _⟩
                            | exact ⟨k + 1, (pl.set sn true).set fn true, by omega, by go_num, hmir2, hpl3, hv3, HPb.out, hk5.out _ _, hb5.out _ _⟩
                          case measure => simp [intOf]; omega
          · obtain rfl : k = l.length := by omega
            have hr : Hid (z = 0) := hyes.out (by rw [hq.out, List.drop_length]; rfl)
            clear hq
            go_wp2
            go_ret
            exact ⟨by rw [hr.out]; rfl, HB.out⟩
end Go.Proofs.Ytiilbgejdpnfpaa

/- Places through maps: Through: the program's. -/
namespace Go.Proofs.Ytiilbgejdpnfpaa
open Go.RowKit Go.Mps

theorem thG_end (ms : List (List Rg)) (l : List Mi) (lean : Int) (k i : Nat) (o : Mv) (h : ¬ i < ms.length) : thG ms l lean k i o = o := by
  cases k with
  | zero => rfl
  | succ k => rw [thG, if_neg h]
theorem thG_leap (ms : List (List Rg)) (l : List Mi) (lean : Int) (k i : Nat) (o v : Mv) (r s : Nat) (h : i < ms.length) (hv : hitG lean o.p 0 0 ms[i] = (v, some r)) (hr : r < ms[i].length) (hs : secondM l i = s) (h2 : s < ms.length) (ho : 0 < ms[i][r].o) :
    thG ms l lean (k + 1) i o = thG ms l lean k (s + 1) { o with p := cameM ms[s] r + o.p - ms[i][r].a } := by
  have e1 : ms[i]?.getD [] = ms[i] := by rw [List.getElem?_eq_getElem h]; rfl
  have e2 : (ms[i][r]?.getD default) = ms[i][r] := by rw [List.getElem?_eq_getElem hr]; rfl
  have e3 : ms[s]?.getD [] = ms[s] := by rw [List.getElem?_eq_getElem h2]; rfl
  rw [thG, if_pos h, e1, hv]
  simp only [e2, hs, Int.toNat_natCast, e3]
  rw [if_pos ⟨by omega, ho⟩]
theorem thG_next (ms : List (List Rg)) (l : List Mi) (lean : Int) (k i : Nat) (o v : Mv) (j : Option Nat) (h : i < ms.length) (hv : hitG lean o.p 0 0 ms[i] = (v, j)) (hn : ∀ r (hr : r < ms[i].length), j = some r → ¬ (0 ≤ secondM l i ∧ 0 < ms[i][r].o)) :
    thG ms l lean (k + 1) i o = thG ms l lean k (i + 1) (joinM o v) := by
  have e1 : ms[i]?.getD [] = ms[i] := by rw [List.getElem?_eq_getElem h]; rfl
  rw [thG, if_pos h, e1, hv]
  cases j with
  | none => rfl
  | some r =>
    have hr := hit_there hv
    have e2 : (ms[i][r]?.getD default) = ms[i][r] := by rw [List.getElem?_eq_getElem hr]; rfl
    simp only [e2]
    rw [if_neg (hn r hr rfl)]

set_option maxRecDepth 100000 in
set_option maxHeartbeats 8000000 in
theorem mdThroughC_any (v1 v2 : Value) (ms : List (List Rg)) (l : List Mi) (B : Nat) (w : World) (h1 : Mss w B v1 ms) (h2 : Mis w B v2 l) (hB : B ≤ w.heap.size) (p lean : Int) :
    Calls Try.prog 8 #[.agg #[v1, v2], .int .i64 p, .int .i64 lean] w fun e w' => e = .returned (mvV (throughM ms l p lean)) ∧ Below w.heap.size w w' := by
  obtain ⟨A, cap, rfl⟩ := h1.form
  obtain ⟨A2, cap2, rfl⟩ := h2.form
  have hm1 := h1.max
  have hm2 := h2.max
  unfold maxLen at hm1 hm2
  obtain ⟨z, hz⟩ : ∃ z, Hid (z = throughM ms l p lean) := ⟨throughM ms l p lean, Lib.hid rfl⟩
  rw [← hz.out]
  have HV1 := Lib.hid (fun w' (h : Below w.heap.size w w') => h1.below (h.mono hB))
  have HV2 := Lib.hid (fun w' (h : Below w.heap.size w w') => h2.below (h.mono hB))
  have HC := Lib.hid (fun w' (h : Below w.heap.size w w') => mdCheckChain_any _ _ ms l B w' (h1.below (h.mono hB)) (h2.below (h.mono hB)) (Nat.le_trans hB h.size))
  have HI := Lib.hid (fun w' => mdIs_any p w')
  obtain ⟨wa, hwa⟩ : ∃ wa, Hid (wa = ((w.alloc (.cells #[.slice A ms.length cap, .slice A2 l.length cap2] 33)).alloc (.cells #[.int .i64 0, .bool false, .bool false, .bool false, .bool false] 27)).alloc (.cells #[.bool false, .bool false, .bool false, .bool false] 47)) := ⟨_, Lib.hid rfl⟩
  have HBa : Hid (Below w.heap.size w wa) := by show Below _ _ _; rw [hwa.out]; exact (((Below.refl _ _).alloc (Nat.le_refl _) _).alloc (by simp) _).alloc (by simp; omega) _
  have HCa : Hid (Bk wa w.heap.size 33 #[.slice A ms.length cap, .slice A2 l.length cap2]) := by show Bk _ _ _ _; rw [hwa.out]; exact ((Bk.new w 33 _).alloc _).alloc _
  have HKa : Hid (Bk wa (w.heap.size + 1) 27 #[.int .i64 0, .bool false, .bool false, .bool false, .bool false]) := by
    show Bk _ _ _ _; rw [hwa.out]
    have := Bk.new (w.alloc (.cells #[.slice A ms.length cap, .slice A2 l.length cap2] 33)) 27 #[.int .i64 0, .bool false, .bool false, .bool false, .bool false]
    rw [World.size_alloc] at this
    exact this.alloc _
  have HWa : Hid (Wp wa (w.heap.size + 1 + 1) Wn.zero) := by
    show Wp _ _ _; rw [hwa.out]
    have := wp_new ((w.alloc (.cells #[.slice A ms.length cap, .slice A2 l.length cap2] 33)).alloc (.cells #[.int .i64 0, .bool false, .bool false, .bool false, .bool false] 27))
    rwa [World.size_alloc, World.size_alloc] at this
  obtain ⟨c, hc⟩ : ∃ c, Hid (c = checkC ms l) := ⟨checkC ms l, Lib.hid rfl⟩
  rw [← hc.out] at HC
  have HS := Lib.hid (fun w' (h : Below w.heap.size w w') (hz : checkC ms l = 0) => mdSeconds_any (.slice A ms.length cap) (.slice A2 l.length cap2) ms l B w' (HV1.out w' h) (HV2.out w' h) (Nat.le_trans hB h.size) hz)
  obtain ⟨g0, hg0⟩ : ∃ g0, Hid (g0 = w.heap.size) := ⟨_, Lib.hid rfl⟩
  clear h1 h2
  go_enter Try.func8, Try.ntmps8
  go_wp2_with fail
  rw [← hwa.out]
  refine (HI.out _).mono ?_
  rintro e w1 ⟨rfl, rfl⟩
  clear HI
  have a0 : w1.cell? ⟨w.heap.size, 0, none⟩ = some (.slice A ms.length cap) := HCa.out.cell 0
  have a1 : w1.cell? ⟨w.heap.size, 1, none⟩ = some (.slice A2 l.length cap2) := HCa.out.cell 1
  by_cases hp : 0 ≤ p ∧ p ≤ 1048576
  · rw [isP_yes hp]
    have CC := Lib.hid (HC.out _ HBa.out)
    clear HC
    go_wp2_with fail
    refine CC.out.mono ?_
    rintro e w2 ⟨rfl, hb2⟩
    have HB2 := Lib.hid (HBa.out.trans (hb2.mono HBa.out.size))
    have HC2 := Lib.hid (Bk.over HCa.out hb2 (Bk.lt HCa.out))
    have HK2 := Lib.hid (Bk.over HKa.out hb2 (Bk.lt HKa.out))
    have HW2 := Lib.hid (Bk.over HWa.out hb2 (Bk.lt HWa.out))
    clear CC hb2 a0 a1
    by_cases c0 : c = 0
    · subst c0
      have CS := Lib.hid (HS.out w2 HB2.out hc.out.symm)
      have a0 : w2.cell? ⟨w.heap.size, 0, none⟩ = some (.slice A ms.length cap) := HC2.out.cell 0
      have a1 : w2.cell? ⟨w.heap.size, 1, none⟩ = some (.slice A2 l.length cap2) := HC2.out.cell 1
      have hf : Hid (z = thG ms l lean ms.length 0 (Wn.zero.mv p)) := by show _ = _; rw [hz.out]; unfold throughM; rw [if_neg (by rw [← hc.out]; omega)]; rfl
      have HM := Lib.hid (fun i (hs : 0 ≤ secondM l (i : Nat)) => mirror_there hc.out.symm hs)
      have HX := Lib.hid (fun i => mdSec hc.out.symm i)
      have hcz := checkC_zero hc.out.symm
      have HOK := Lib.hid (fun m hm => checkM_zero.1 (firstErr_zero ms hcz.1 m hm))
      have h256 : (ms.length : Int) ≤ 256 := by have := hcz.2.1; omega
      have hp1 := hp.1
      have hp2 := hp.2
      clear hz hc hcz HS hp HBa HCa HKa HWa hwa
      go_wp2_with fail
      refine CS.out.mono ?_
      rintro e w3 ⟨gs, is, rfl, hgs, HP3, hil, hiv, hb3⟩
      have HIV := Lib.hid hiv
      have HP3 := Lib.hid HP3
      have HB3 := Lib.hid (HB2.out.trans (hb3.mono HB2.out.size))
      have HC3 := Lib.hid (Bk.over HC2.out hb3 (Bk.lt HC2.out))
      have HK3 := Lib.hid (Bk.over HK2.out hb3 (Bk.lt HK2.out))
      have HW3 := Lib.hid (Bk.over HW2.out hb3 (Bk.lt HW2.out))
      have hgs1 : w.heap.size + 1 + 1 < gs := by have := Bk.lt HW2.out; omega
      clear CS hb3 a0 a1 HB2 HC2 HK2 HW2 hiv hgs
      go_wp2
      go_loopw [1, 9] (fun s1 s9 wr => ∃ (i k : Nat) (q : Int) (o : Wn), i ≤ ms.length ∧ s9 = .int .i64 i ∧ s1 = .int .i64 q ∧ ms.length ≤ i + k ∧ Hid (z = thG ms l lean k i (o.mv q)) ∧ -(1048576 + 134217728 * (i : Int)) ≤ q ∧ q ≤ 1048576 + 134217728 * (i : Int) ∧
        Hid (Bk wr w.heap.size 33 #[.slice A ms.length cap, .slice A2 l.length cap2]) ∧ Hid (Bk wr (w.heap.size + 1) 27 #[.int .i64 0, .bool false, .bool false, .bool false, .bool false]) ∧ Hid (Wp wr (w.heap.size + 1 + 1) o) ∧ Hid (Pi wr gs is) ∧ Hid (Below w.heap.size w wr)) (fun _ x _ => ms.length - (intOf x).toNat)
      case atStart => exact ⟨0, ms.length, p, Wn.zero, Nat.zero_le _, rfl, rfl, by omega, hf, by omega, by omega, HC3, HK3, HW3, HP3, HB3⟩
      case round =>
        obtain ⟨i, k, q, o, hi, rfl, rfl, hik, hq, hq1, hq2, HC, HK, HW, HP, HB⟩ := hrel
        have hl0 := Bk.lt HC.out
        have a0 : wr.cell? ⟨w.heap.size, 0, none⟩ = some (.slice A ms.length cap) := HC.out.cell 0
        by_cases hlt : i < ms.length
        · have hiI : (i : Int) < (ms.length : Int) := by omega
          have hi0 : (0 : Int) ≤ i := by omega
          obtain ⟨b, off, A3, cap3, rfl, hbB, _, c0, hr⟩ := (HV1.out _ HB.out).at hlt
          have hbw : b < wr.heap.size := by have := HB.out.size; omega
          have hok := Lib.hid (HOK.out ms[i] (List.getElem_mem hlt))
          have hR : ∀ r ∈ ms[i], okR r = true := fun r hr => okR_of_mem hok.out.2 r hr
          have HR := Lib.hid hR
          have hbd := hit_bound ms[i] lean q 0 0 0 hR (by omega) (by omega)
          have hlen : (ms[i].length : Int) ≤ 64 := by have := hok.out.1; omega
          have hhr := hit_ar lean q ms[i] 0 0 (fun r hr => ((okR_iff r).1 (hR r hr)).2.2.1)
          obtain ⟨vj, hvj⟩ : ∃ vj, Hid (vj = hitG lean q 0 0 ms[i]) := ⟨_, Lib.hid rfl⟩
          obtain ⟨v, j⟩ := vj
          have CA := Lib.hid (mdAround_any _ ms[i] B wr hr (Nat.le_trans hB HB.out.size) hR hok.out.1 q)
          have CT := Lib.hid (fun w' (h : Below B wr w') (hs : wr.heap.size ≤ w'.heap.size) (hw : Wp w' (w.heap.size + 1 + 1) o) => mdThrough_any _ o _ ms[i] B w' hw (hr.below h) (Nat.le_trans (Nat.le_trans hB HB.out.size) hs) (by omega) hok.out.2 hok.out.1 q lean (by omega))
          have hvv : (hitM ms[i] q lean).1 = v := by unfold hitM; rw [← hvj.out]
          rw [hvv] at CT
          rw [← hvj.out] at hbd hhr
          have hv1 : q - 69206016 ≤ v.p := by have := hbd.1; dsimp only at this; omega
          have hv2 : v.p ≤ q + 69206016 := by have := hbd.2; dsimp only at this; omega
          have hle := arG_le q ms[i]
          obtain ⟨k', rfl⟩ : ∃ k', k = k' + 1 := ⟨k - 1, by omega⟩
          have HON := Lib.hid (fun hn => hq.out.trans (thG_next ms l lean k' i (o.mv q) v j hlt hvj.out.symm hn))
          obtain ⟨t, ht⟩ : ∃ t, Hid (t = arG q ms[i]) := ⟨_, Lib.hid rfl⟩
          obtain ⟨y, hy⟩ : ∃ y, Hid (y = arW q ms[i]) := ⟨_, Lib.hid rfl⟩
          have hyl := fun h : y = true => arW_lt (by rw [← hy.out]; exact h)
          have hya := fun h : y = true => (arW_eq (p := q) (hyl h)).symm.trans (hy.out.symm.trans h)
          rw [← ht.out, ← hy.out] at CA
          simp only [← ht.out] at hle hyl hya hhr
          rw [← hy.out] at hhr
          have hii : i < is.length := by omega
          have hsv := HIV.out i hii
          have HP0 := HP.out.at hii
          have hvc : ms[i].length ≤ cap3 := by obtain ⟨_, _, hv0, _, h3, _⟩ := hr; simp only [Value.slice.injEq] at hv0; omega
          have HRr := Lib.hid (fun w' (h : Below B wr w') => hr.below h)
          clear hbd hR hr
          go_wp2_with fail
          refine CA.out.mono ?_
          rintro e w4 ⟨rfl, hb4⟩
          have HB4 := Lib.hid (HB.out.trans (hb4.mono HB.out.size))
          have HC4 := Lib.hid (Bk.over HC.out hb4 (Bk.lt HC.out))
          have HK4 := Lib.hid (Bk.over HK.out hb4 (Bk.lt HK.out))
          have HW4 := Lib.hid (Bk.over HW.out hb4 (Bk.lt HW.out))
          have HP4 : Hid (Pi w4 gs is) := Bk.over HP.out hb4 (Bk.lt HP.out)
          have CT4 := Lib.hid (CT.out w4 (hb4.mono (Nat.le_trans hB HB.out.size)) hb4.size HW4.out)
          have hs4 := hb4.size
          have c04 := (hb4.cell (p := ⟨b, off + i, none⟩) hbw).trans c0
          have e4 : w4.cell? ⟨gs, i, none⟩ = some (.int .i64 is[i]) := (HP4.out.at hii).1
          rw [hsv] at e4
          obtain ⟨sv, hsvv⟩ : ∃ sv, Hid (sv = secG 0 l i) := ⟨_, Lib.hid rfl⟩
          rw [← hsvv.out] at e4
          have hx := HX.out i
          rw [← hsvv.out] at hx
          have hb4w : b < w4.heap.size := Nat.lt_of_lt_of_le hbw hs4
          have a4 : w4.cell? ⟨w.heap.size, 0, none⟩ = some (.slice (some ⟨b, off, none⟩) ms.length cap) := HC4.out.cell 0
          have hgs4 := Bk.lt HP4.out
          have hl4 := Bk.lt HC4.out
          clear CA HB HC HK HW HP HP0 hsv a0 c0 CT
          cases y with
          | false =>
            have hj : j = none := (Prod.mk.inj (hhr.2 rfl)).2
            have hn := Lib.hid (HON.out (fun r hr hjr => by rw [hj] at hjr; cases hjr))
            clear HON hhr hyl hya
            go_wp2_with fail
            refine CT4.out.mono ?_
            rintro e w5 ⟨rfl, hw5, hb5⟩
            have HB5 := Lib.hid (HB4.out.trans (hb5.to HB4.out.size (by omega)))
            have HC5 : Hid (Bk w5 w.heap.size 33 #[.slice (some ⟨b, off, none⟩) ms.length cap, .slice A2 l.length cap2]) := (hb5.block _ (Bk.lt HC4.out) (by omega)).trans HC4.out
            have HK5 : Hid (Bk w5 (w.heap.size + 1) 27 #[.int .i64 0, .bool false, .bool false, .bool false, .bool false]) := (hb5.block _ (Bk.lt HK4.out) (by omega)).trans HK4.out
            have HP5 : Hid (Pi w5 gs is) := (hb5.block _ (Bk.lt HP4.out) (by omega)).trans HP4.out
            have hw5 := Lib.hid hw5
            clear CT4 hb5 HB4 HC4 HK4 HP4 HW4
            go_wp2
            go_roundw
            case rel => exact ⟨i + 1, k', v.p, o.join v, by omega, by go_num, rfl, by omega, hn, by omega, by omega, HC5, HK5, hw5, HP5, HB5⟩
            case measure => simp [intOf]; omega
          | true =>
            have ht1 := hyl rfl
            have hta : ms[i][t].a ≤ q := by simpa using hya rfl
            obtain ⟨hj0, hte⟩ := hhr.1 ht1 hta
            have hj : j = some t := by have := (Prod.mk.inj hj0).2; rw [Nat.zero_add] at this; exact this
            obtain ⟨b6, off6, rfl, hb6, _, d0, d1, _⟩ := (HRr.out w4 (hb4.mono (Nat.le_trans hB (by omega)))).at ht1
            have hb6w : b6 < w4.heap.size := by have := HB4.out.size; omega
            have hok6 := (okR_iff ms[i][t]).1 (HR.out _ (List.getElem_mem ht1))
            have htI : (t : Int) < (ms[i].length : Int) := by omega
            have ht0 : (0 : Int) ≤ (t : Int) := by omega
            have htC : (t : Int) < (cap3 : Int) := by omega
            obtain ⟨ra, hra⟩ : ∃ x, Hid (x = ms[i][t].a) := ⟨_, Lib.hid rfl⟩
            obtain ⟨ro, hro⟩ : ∃ x, Hid (x = ms[i][t].o) := ⟨_, Lib.hid rfl⟩
            rw [← hra.out, ← hro.out] at hok6
            rw [← hra.out] at d0
            rw [← hro.out] at d1
            have hisl : (i : Int) < (ms.length : Int) := hiI
            clear hhr hyl hya hj0 hte hta
            by_cases hro0 : ro = 0
            · have hn := Lib.hid (HON.out (fun r hr hjr => by rw [hj] at hjr; cases hjr; rw [← hro.out]; omega))
              have hrb : (ro == 0) = true := beq_iff_eq.2 hro0
              clear HON hok6 hro0
              go_wp2_with fail
              refine CT4.out.mono ?_
              rintro e w5 ⟨rfl, hw5, hb5⟩
              have HB5 := Lib.hid (HB4.out.trans (hb5.to HB4.out.size (by omega)))
              have HC5 : Hid (Bk w5 w.heap.size 33 #[.slice (some ⟨b, off, none⟩) ms.length cap, .slice A2 l.length cap2]) := (hb5.block _ (Bk.lt HC4.out) (by omega)).trans HC4.out
              have HK5 : Hid (Bk w5 (w.heap.size + 1) 27 #[.int .i64 0, .bool false, .bool false, .bool false, .bool false]) := (hb5.block _ (Bk.lt HK4.out) (by omega)).trans HK4.out
              have HP5 : Hid (Pi w5 gs is) := (hb5.block _ (Bk.lt HP4.out) (by omega)).trans HP4.out
              have hw5 := Lib.hid hw5
              clear CT4 hb5 HB4 HC4 HK4 HP4 HW4
              go_wp2
              go_roundw
              case rel => exact ⟨i + 1, k', v.p, o.join v, by omega, by go_num, rfl, by omega, hn, by omega, by omega, HC5, HK5, hw5, HP5, HB5⟩
              case measure => simp [intOf]; omega
            · have hrb : (ro == 0) = false := beq_eq_false_iff_ne.2 hro0
              by_cases hs0 : sv = 0
              · have hn := Lib.hid (HON.out (fun r hr hjr => by rintro ⟨h1, _⟩; rcases hx with hx | hx <;> omega))
                have hsb : (sv == 0) = true := beq_iff_eq.2 hs0
                clear HON hok6 hro0 hs0 hx
                go_wp2_with fail
                refine CT4.out.mono ?_
                rintro e w5 ⟨rfl, hw5, hb5⟩
                have HB5 := Lib.hid (HB4.out.trans (hb5.to HB4.out.size (by omega)))
                have HC5 : Hid (Bk w5 w.heap.size 33 #[.slice (some ⟨b, off, none⟩) ms.length cap, .slice A2 l.length cap2]) := (hb5.block _ (Bk.lt HC4.out) (by omega)).trans HC4.out
                have HK5 : Hid (Bk w5 (w.heap.size + 1) 27 #[.int .i64 0, .bool false, .bool false, .bool false, .bool false]) := (hb5.block _ (Bk.lt HK4.out) (by omega)).trans HK4.out
                have HP5 : Hid (Pi w5 gs is) := (hb5.block _ (Bk.lt HP4.out) (by omega)).trans HP4.out
                have hw5 := Lib.hid hw5
                clear CT4 hb5 HB4 HC4 HK4 HP4 HW4
                go_wp2
                go_roundw
                case rel => exact ⟨i + 1, k', v.p, o.join v, by omega, by go_num, rfl, by omega, hn, by omega, by omega, HC5, HK5, hw5, HP5, HB5⟩
                case measure => simp [intOf]; omega
              · have hsb : (sv == 0) = false := beq_eq_false_iff_ne.2 hs0
                obtain ⟨hx1, hx2⟩ : secondM l i = sv ∧ 0 < sv := by rcases hx with hx | hx <;> omega
                obtain ⟨s, hs1, hs2, hs3, hs5⟩ := HM.out i (by omega)
                obtain rfl : sv = s := by omega
                have hlen2 : t < ms[s].length := by rw [← hs5]; exact ht1
                have hn := Lib.hid (hq.out.trans (thG_leap ms l lean k' i (o.mv q) v t s hlt (by rw [hj] at hvj; exact hvj.out.symm) ht1 hs1 hs3 (by rw [← hro.out]; omega)))
                have hok2 := HOK.out ms[s] (List.getElem_mem hs3)
                obtain ⟨b', off', A7, c7, e', _, _, g0, hr7⟩ := (HV1.out _ HB4.out).at hs3
                simp only [Option.some.injEq, Addr.mk.injEq, and_true] at e'
                obtain ⟨rfl, rfl⟩ := e'
                have hcb := came_bound (okR_of_mem hok2.2) hlen2
                have hl2 : (ms[s].length : Int) ≤ 64 := by have := hok2.1; omega
                have CB := Lib.hid (mdBegins_any _ _ B w4.drew hr7 (Nat.le_trans hB HB4.out.size) hok2.2 hok2.1 t hlen2)
                obtain ⟨cm, hcm⟩ : ∃ x, Hid (x = cameM ms[s] t) := ⟨cameM ms[s] t, Lib.hid rfl⟩
                rw [← hcm.out] at CB hcb
                have hn2 : Hid (z = thG ms l lean k' (s + 1) (o.mv (cm + q - ra))) := by show _ = _; rw [hn.out, hcm.out, hra.out]; rfl
                have hsI : (s : Int) < (ms.length : Int) := by omega
                have hs00 : (0 : Int) ≤ (s : Int) := by omega
                have hc1 : -67108864 ≤ cm := by omega
                have hc2 : cm ≤ 68157440 := by omega
                have hra0 := hok6.1
                have hra1 := hok6.2.1
                have hw1 : IntKind.i64.wrap (cm + q) = cm + q := IntWalk.i64_in _ (by omega)
                have hw2 : IntKind.i64.wrap (cm + q - ra) = cm + q - ra := IntWalk.i64_in _ (by omega)
                have a4' : w4.drew.cell? ⟨w.heap.size, 0, none⟩ = some (.slice (some ⟨b, off, none⟩) ms.length cap) := a4
                have e4' : w4.drew.cell? ⟨gs, i, none⟩ = some (.int .i64 s) := e4
                have g0' : w4.drew.cell? ⟨b, off + s, none⟩ = some (.slice A7 ms[s].length c7) := g0
                have d0' : w4.drew.cell? ⟨b6, off6 + t * 3, none⟩ = some (.int .i64 ra) := d0
                have hjump1 : -(1048576 + 134217728 * ((s + 1 : Nat) : Int)) ≤ cm + q - ra := by omega
                have hjump2 : cm + q - ra ≤ 1048576 + 134217728 * ((s + 1 : Nat) : Int) := by omega
                clear HON hok6 hro0 hs0 hx hx1 hs1 hn hcb hr7 hok2 hcm hs5 hro hra hvj hj CT4
                go_wp2_with fail
                go_region_held3 (fun w' => w'.cell? ⟨w.heap.size, 0, none⟩ = some (.slice (some ⟨b, off, none⟩) ms.length cap) ∧ w'.cell? ⟨gs, i, none⟩ = some (.int .i64 s) ∧ w'.cell? ⟨b, off + s, none⟩ = some (.slice A7 ms[s].length c7) ∧ w'.cell? ⟨b6, off6 + t * 3, none⟩ = some (.int .i64 ra))
                  (first | exact ⟨a4', e4', g0', d0'⟩ | exact ⟨(hb5.cell (p := ⟨w.heap.size, 0, none⟩) hl4).trans a4', (hb5.cell (p := ⟨gs, i, none⟩) hgs4).trans e4', (hb5.cell (p := ⟨b, off + s, none⟩) hb4w).trans g0', (hb5.cell (p := ⟨b6, off6 + t * 3, none⟩) hb6w).trans d0'⟩)
                  ((go_at_call 29; refine CB.out.mono ?_; rintro e5 w5 ⟨rfl, hb5⟩))
                have HB5 := Lib.hid (HB4.out.drew.trans (hb5.mono HB4.out.size))
                have HC5 : Hid (Bk w5 w.heap.size 33 #[.slice (some ⟨b, off, none⟩) ms.length cap, .slice A2 l.length cap2]) := (hb5.block _ (Bk.lt HC4.out)).trans HC4.out
                have HK5 : Hid (Bk w5 (w.heap.size + 1) 27 #[.int .i64 0, .bool false, .bool false, .bool false, .bool false]) := (hb5.block _ (Bk.lt HK4.out)).trans HK4.out
                have HP5 : Hid (Pi w5 gs is) := (hb5.block _ (Bk.lt HP4.out)).trans HP4.out
                have HW5 : Hid (Wp w5 (w.heap.size + 1 + 1) o) := (hb5.block _ (Bk.lt HW4.out)).trans HW4.out
                have e5 : w5.cell? ⟨gs, i, none⟩ = some (.int .i64 s) := (hb5.cell (p := ⟨gs, i, none⟩) hgs4).trans e4'
                clear CB hb5 HB4 HC4 HK4 HP4 HW4 a4' e4' g0' d0' e4 a4 g0 d0 d1
                go_wp2
                go_roundw
                case rel => exact ⟨s + 1, k', cm + q - ra, o, by omega, by go_num, rfl, by omega, hn2, hjump1, hjump2, HC5, HK5, HW5, HP5, HB5⟩
                case measure => simp [intOf]; omega
        · obtain rfl : i = ms.length := by omega
          have hr : Hid (z = o.mv q) := by show _ = _; rw [hq.out, thG_end _ _ _ _ _ _ hlt]
          have CM := Lib.hid (mdMoved_any _ o q wr HW.out)
          obtain ⟨zv, hzv⟩ : ∃ zv, Hid (zv = o.mv q) := ⟨_, Lib.hid rfl⟩
          rw [← hzv.out] at CM hr
          clear hq hzv
          go_wp2_with fail
          refine CM.out.mono ?_
          rintro e w4 ⟨rfl, hb4⟩
          have HB4 := Lib.hid (HB.out.trans (hb4.mono HB.out.size))
          have HK4 := Lib.hid (Bk.over HK.out hb4 (Bk.lt HK.out))
          obtain ⟨e0, e1, e2, e3, e4, f0, f1, f2, f3, f4⟩ := mvFacts HK4.out
          have hlt := HK4.out.lt
          clear CM hb4 HK HB
          obtain ⟨m0, m1, m2, m3, m4⟩ := zv
          unfold mvV
          dsimp only at hr ⊢
          go_wp2
          exact mv_retS (m := ⟨m0, m1, m2, m3, m4⟩) rfl rfl rfl hr (HK4.out.mv _ _ _ _ _) (below_mv HB4.out (by omega) _ _ _ _ _)
    · have hcb : (c != 0) = true := by simpa using c0
      have hf : Hid (z = out p) := by show _ = _; rw [hz.out]; unfold throughM; rw [if_pos (.inl (by rw [← hc.out]; exact c0))]
      have CM := Lib.hid (mdMoved_any _ _ p _ HW2.out)
      clear hz hc c0
      go_wp2_with fail
      refine CM.out.mono ?_
      rintro e w4 ⟨rfl, hb4⟩
      have HB4 := Lib.hid (HB2.out.trans (hb4.mono HB2.out.size))
      have HK4 := Lib.hid (Bk.over HK2.out hb4 (Bk.lt HK2.out))
      obtain ⟨e0, e1, e2, e3, e4, f0, f1, f2, f3, f4⟩ := mvFacts HK4.out
      have hlt := HK4.out.lt
      clear CM hb4 HB2 HK2
      unfold mvV
      dsimp only [Wn.mv, Wn.zero]
      go_wp2
      exact mv_retS (m := out p) rfl rfl rfl hf (HK4.out.mv _ _ _ _ _) (below_mv HB4.out (by omega) _ _ _ _ _)
  · rw [isP_no hp]
    have hf : Hid (z = out p) := by show _ = _; rw [hz.out]; unfold throughM; rw [if_pos (by omega)]
    have CM := Lib.hid (mdMoved_any _ _ p _ HWa.out)
    clear hz hc HC
    go_wp2_with fail
    refine CM.out.mono ?_
    rintro e w4 ⟨rfl, hb4⟩
    have HB4 := Lib.hid (HBa.out.trans (hb4.mono HBa.out.size))
    have HK4 := Lib.hid (Bk.over HKa.out hb4 (Bk.lt HKa.out))
    obtain ⟨e0, e1, e2, e3, e4, f0, f1, f2, f3, f4⟩ := mvFacts HK4.out
    have hlt := HK4.out.lt
    clear CM hb4 HKa
    unfold mvV
    dsimp only [Wn.mv, Wn.zero]
    go_wp2
    exact mv_retS (m := out p) rfl rfl rfl hf (HK4.out.mv _ _ _ _ _) (below_mv HB4.out (by omega) _ _ _ _ _)
end Go.Proofs.Ytiilbgejdpnfpaa
