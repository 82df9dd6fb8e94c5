/- attr: the document's own Get; Set, and the document's own. -/
import Derived.Test.YtjoogocgklhgpaaAtQ
import Derived.Lib.SlicesMore
namespace Go.Proofs.Ytjoogocgklhgpaa
open Go.RowKit

theorem getP_at {l : List At} {n : ByteArray} {k : Nat} (hk : k < l.length) (hp : hasN n l[k] = true) (hall : ∀ j (hj : j < l.length), j < k → hasN n l[j] = false) : getP l n = some l[k].v := by
  unfold getP
  rw [List.find?_eq_some_iff_getElem.2 ⟨hp, k, hk, rfl, fun j hj => by simpa using hall j (by omega) hj⟩]
  rfl
theorem getP_no {l : List At} {n : ByteArray} (hall : ∀ j (hj : j < l.length), hasN n l[j] = false) : getP l n = none := by
  unfold getP
  rw [List.find?_eq_none.2]
  · rfl
  · intro x hx
    obtain ⟨j, hj, rfl⟩ := List.mem_iff_getElem.1 hx
    simp [hall j hj]

set_option maxRecDepth 100000 in
theorem refGet_any (v : Value) (n : ByteArray) (l : List At) (B : Nat) (w : World) (hv : Ats w B v l) :
    Calls Try.prog 20 #[v, .string n] w fun e w' => e = .returned (.tuple #[.string ((getP l n).getD .empty), .bool (getP l n).isSome]) ∧ w = w' := by
  obtain ⟨A, cap, rfl⟩ := hv.form
  have hm := hv.max
  unfold maxLen at hm
  go_enter Try.func20, Try.ntmps20
  go_wp2
  go_loop [6] (fun i => ∃ k : Nat, k ≤ l.length ∧ i = .int .i64 k ∧ Hid (∀ j (hj : j < l.length), j < k → hasN n l[j] = false)) (fun i => l.length - (intOf i).toNat)
  case atStart => exact ⟨0, Nat.zero_le _, rfl, fun j _ hj => by omega⟩
  case round =>
    obtain ⟨k, hk, rfl, hall⟩ := hrel
    by_cases hlt : k < l.length
    · obtain ⟨b, off, rfl, hbB, hcap, hc0, hc1⟩ := hv.at hlt
      by_cases hp : (l[k].n.toList == n.toList) = true
      · have hfin : Hid (getP l n = some l[k].v) := getP_at hlt hp hall.out
        go_wp2
        go_ret2
        exact ⟨by rw [hfin.out]; rfl, rfl⟩
      · have hp : (l[k].n.toList == n.toList) = false := by simpa using hp
        have hall' : Hid (∀ j (hj : j < l.length), j < k + 1 → hasN n l[j] = false) := by
          show ∀ j, _
          intro j hj hjk
          by_cases e : j = k
          · subst e; exact hp
          · exact hall.out j hj (by omega)
        go_wp2
        go_round
        case rel => exact ⟨k + 1, by omega, by go_num, hall'⟩
        case measure => simp [intOf]; omega
    · have hfin : Hid (getP l n = none) := getP_no fun j hj => hall.out j hj (by omega)
      go_wp2
      go_ret2
      exact ⟨by rw [hfin.out]; rfl, rfl⟩

def setE (l : List At) (n x : ByteArray) : Int := if checkN l = 0 then (if (getP l n).isSome = true then (if 64 < x.size then 3 else if valueB x = true then 0 else 2) else 6) else checkN l
def setAt (l : List At) (k : Nat) (x : ByteArray) : List At := l.set k ⟨(gA l k).n, x⟩
def setL (l : List At) (n x : ByteArray) : List At := if setE l n x = 0 then setAt l (l.findIdx (hasN n)) x else []
/-- a list of attributes and an error are handed back; the list is new -/
def Pair (w : World) (l : List At) (c : Int) (x : Ending) (w' : World) : Prop := ∃ v, x = .returned (.tuple #[v, .int .i64 c]) ∧ w'.ownsRow w.heap.size 29 2 v l.length (atC l) ∧ Below w.heap.size w w'

theorem atC_set (l : List At) (k : Nat) (x : ByteArray) (hk : k < l.length) : atC (setAt l k x) = (atC l).set (k * 2 + 1) (.string x) := by
  unfold setAt
  rw [gA_get l k hk]
  unfold atC
  induction l generalizing k with
  | nil => simp at hk
  | cons a l ih =>
    cases k with
    | zero => simp [At.c]
    | succ k =>
      have := ih k (by simpa using hk)
      simp only [List.set_cons_succ, List.flatMap_cons, List.getElem_cons_succ, At.c, List.cons_append, List.nil_append]
      rw [show (k + 1) * 2 = k * 2 + 1 + 1 by omega, List.set_cons_succ, ← this]

set_option maxRecDepth 100000 in
theorem clone_any (v : Value) (l : List At) (B : Nat) (w : World) (hv : Ats w B v l) (hB : B ≤ w.heap.size) (hl : Reach l.length) :
    Calls Try.prog 38 #[v] w (MakesAt w l) := by
  obtain ⟨A, cap, rfl⟩ := hv.form
  unfold Reach at hl
  have hn := fun w => Lib.run_eql_slice_nil (P := Try.prog) w 22 29 A l.length cap 0 0 Try.underlying22
  cases A with
  | none =>
    have h0 : l = [] := by
      obtain ⟨A, c, h, _, _, _, h3⟩ := hv
      cases h
      rcases h3 with h3 | ⟨_, _, h3, _⟩
      · exact List.eq_nil_of_length_eq_zero h3
      · cases h3
    subst h0
    simp only [List.length_nil] at hn
    go_enter Try.func38, Try.ntmps38
    go_wp2
    go_ret
    exact ⟨_, rfl, World.ownsRow_nil w _ _ 2, Below.refl _ _⟩
  | some ad =>
    go_enter Try.func38, Try.ntmps38
    go_wp2_with (at_builtin; refine wpList_appR _ rfl (.tmp 5) (.tmp 6) 22 29 rfl _ 2 32 Try.underlying22 infoAt rfl (by decide) w.heap.size rfl rfl (World.ownsRow_lit w #[] 0 (Nat.le_refl _) (by omega) rfl) (Ats.below (hv.mono hB) ((Below.refl _ _).alloc (Nat.le_refl _) _)) (atC_one l) ?_ ?_ ?_ ?_)
    · unfold maxLen; omega
    · omega
    · simp
    intro v' w' hown hg _
    have hown' : Hid (w'.ownsRow w.heap.size 29 2 v' l.length (atC l)) := by show World.ownsRow _ _ _ _ _ _ _; simpa using hown
    clear hn hown
    go_wp2
    go_ret
    exact ⟨_, rfl, hown'.out, ((Below.refl _ _).alloc (Nat.le_refl _) _).grown hg (by simp) (by simp [Value.ownBlock])⟩

theorem setE_of (l : List At) (n x : ByteArray) (h : checkN l ≠ 0) : setE l n x = checkN l ∧ setL l n x = [] := by
  have : setE l n x = checkN l := by unfold setE; rw [if_neg h]
  exact ⟨this, by unfold setL; rw [this, if_neg h]⟩
theorem setE_6 (l : List At) (n x : ByteArray) (h : checkN l = 0) (g : getP l n = none) : setE l n x = 6 ∧ setL l n x = [] := by
  have : setE l n x = 6 := by unfold setE; rw [if_pos h, g]; rfl
  exact ⟨this, by unfold setL; rw [this]; rfl⟩
theorem setE_3 (l : List At) (n x : ByteArray) (h : checkN l = 0) (g : (getP l n).isSome = true) (k : 64 < x.size) : setE l n x = 3 ∧ setL l n x = [] := by
  have : setE l n x = 3 := by unfold setE; rw [if_pos h, if_pos g, if_pos k]
  exact ⟨this, by unfold setL; rw [this]; rfl⟩
theorem setE_2 (l : List At) (n x : ByteArray) (h : checkN l = 0) (g : (getP l n).isSome = true) (k : ¬ 64 < x.size) (m : valueB x = false) : setE l n x = 2 ∧ setL l n x = [] := by
  have : setE l n x = 2 := by unfold setE; rw [if_pos h, if_pos g, if_neg k, m]; rfl
  exact ⟨this, by unfold setL; rw [this]; rfl⟩
theorem setE_0 (l : List At) (n x : ByteArray) (h : checkN l = 0) (g : (getP l n).isSome = true) (k : ¬ 64 < x.size) (m : valueB x = true) : setE l n x = 0 ∧ setL l n x = setAt l (l.findIdx (hasN n)) x := by
  have : setE l n x = 0 := by unfold setE; rw [if_pos h, if_pos g, if_neg k, m]; rfl
  exact ⟨this, by unfold setL; rw [this]; rfl⟩
theorem checkN_len {l : List At} (h : checkN l = 0) : l.length ≤ 8 := by
  rcases Nat.lt_or_ge 8 l.length with hl | hl
  · unfold checkN at h; rw [if_pos (.inl hl)] at h; omega
  · omega
theorem first_of {l : List At} {n : ByteArray} (h : l.any (hasN n) = true) : ∃ k, ∃ (hk : k < l.length), hasN n l[k] = true ∧ (∀ j (hj : j < l.length), j < k → hasN n l[j] = false) ∧ l.findIdx (hasN n) = k := by
  have hlt := List.findIdx_lt_length.2 (List.any_eq_true.1 h)
  exact ⟨_, hlt, List.findIdx_getElem, fun j hj hjk => by simpa using List.not_of_lt_findIdx hjk, rfl⟩
theorem Pair.nil {w w' : World} {c : Int} (hb : Below w.heap.size w w') : Pair w [] c (.returned (.tuple #[.slice none 0 0, .int .i64 c])) w' := ⟨_, rfl, World.ownsRow_nil w' _ _ 2, hb⟩
/-- a store into a list of the call's own -/
theorem own_set {w : World} {e base g k cap : Nat} {l : List At} {x : ByteArray} (h : w.ownsRow base e 2 (.slice (some ⟨g, 0, none⟩) l.length cap) l.length (atC l)) (hk : k < l.length) :
    (w.setCell ⟨g, k * 2 + 1, none⟩ (.string x)).ownsRow base e 2 (.slice (some ⟨g, 0, none⟩) l.length cap) (setAt l k x).length (atC (setAt l k x)) := by
  have := (World.ownsRow.stored h (k * 2 + 1) (.string x)).1
  rw [atC_set l k x hk]
  unfold setAt
  rw [List.length_set]
  exact this

set_option maxRecDepth 100000 in
theorem set_any (v : Value) (n x : ByteArray) (l : List At) (B : Nat) (w : World) (hv : Ats w B v l) (hB : B ≤ w.heap.size) :
    Calls Try.prog 21 #[v, .string n, .string x] w (Pair w (setL l n x) (setE l n x)) := by
  obtain ⟨A, cap, rfl⟩ := hv.form
  by_cases h0 : checkN l = 0
  · have hl8 := checkN_len h0
    have H0 := Lib.hid h0
    cases h1 : l.any (hasN n)
    · have hi : idx (hasN n) l = -1 := by unfold idx; rw [h1]; rfl
      have hg : getP l n = none := getP_no fun j hj => by
        rw [List.any_eq_false] at h1; simpa using h1 _ (List.getElem_mem hj)
      have HF := Lib.hid (setE_6 l n x h0 hg)
      have HI := Lib.hid hi
      clear hi hg h0 h1
      go_enter Try.func21, Try.ntmps21
      go_wp2_with fail
      refine (check_any _ l B w hv hB).mono ?_
      rintro e w1 ⟨rfl, b1⟩
      rw [H0.out]
      go_wp2_with fail
      refine (find_any _ n l B w1 (hv.below (b1.mono hB)) (Nat.le_trans hB b1.size)).mono ?_
      rintro e w2 ⟨rfl, b2⟩
      rw [HI.out]
      go_wp2
      go_ret2
      rw [HF.out.1, HF.out.2]
      exact Pair.nil (b1.trans (b2.mono b1.size))
    · obtain ⟨k, hk, hp, hall, hfi⟩ := first_of h1
      have HI := Lib.hid (idx_at hk hp hall)
      have hg : (getP l n).isSome = true := by rw [getP_at hk hp hall]; rfl
      have hp := Lib.hid hp
      have hall := Lib.hid hall
      have hfi := Lib.hid hfi
      clear h1
      by_cases h3 : 64 < x.size
      · have HF := Lib.hid (setE_3 l n x h0 hg h3)
        clear hg h0
        go_enter Try.func21, Try.ntmps21
        go_wp2_with fail
        refine (check_any _ l B w hv hB).mono ?_
        rintro e w1 ⟨rfl, b1⟩
        rw [H0.out]
        go_wp2_with fail
        refine (find_any _ n l B w1 (hv.below (b1.mono hB)) (Nat.le_trans hB b1.size)).mono ?_
        rintro e w2 ⟨rfl, b2⟩
        rw [HI.out]
        go_wp2
        go_ret2
        rw [HF.out.1, HF.out.2]
        exact Pair.nil (b1.trans (b2.mono b1.size))
      · cases hv2 : valueB x
        · have HF := Lib.hid (setE_2 l n x h0 hg h3 hv2)
          have HV := Lib.hid hv2
          clear hg h0 hv2
          go_enter Try.func21, Try.ntmps21
          go_wp2_with fail
          refine (check_any _ l B w hv hB).mono ?_
          rintro e w1 ⟨rfl, b1⟩
          rw [H0.out]
          go_wp2_with fail
          refine (find_any _ n l B w1 (hv.below (b1.mono hB)) (Nat.le_trans hB b1.size)).mono ?_
          rintro e w2 ⟨rfl, b2⟩
          rw [HI.out]
          go_wp2_with fail
          refine (value_any x w2).mono ?_
          rintro e w3 ⟨rfl, b3⟩
          rw [HV.out]
          go_wp2
          go_ret2
          rw [HF.out.1, HF.out.2]
          exact Pair.nil ((b1.trans (b2.mono b1.size)).trans (b3.mono (Nat.le_trans b1.size b2.size)))
        · have HF := Lib.hid (setE_0 l n x h0 hg h3 hv2)
          have HV := Lib.hid hv2
          clear hg h0 hv2
          go_enter Try.func21, Try.ntmps21
          go_wp2_with fail
          refine (check_any _ l B w hv hB).mono ?_
          rintro e w1 ⟨rfl, b1⟩
          rw [H0.out]
          go_wp2_with fail
          refine (find_any _ n l B w1 (hv.below (b1.mono hB)) (Nat.le_trans hB b1.size)).mono ?_
          rintro e w2 ⟨rfl, b2⟩
          rw [HI.out]
          go_wp2_with fail
          refine (value_any x w2).mono ?_
          rintro e w3 ⟨rfl, b3⟩
          rw [HV.out]
          have b13 : Below w.heap.size w w3 := (b1.trans (b2.mono b1.size)).trans (b3.mono (Nat.le_trans b1.size b2.size))
          have hs3 := b13.size
          clear b1 b2 b3
          go_wp2_with fail
          refine (clone_any _ l B w3 (hv.below (b13.mono hB)) (Nat.le_trans hB hs3) (by unfold Reach; omega)).mono ?_
          rintro e w4 ⟨v4, rfl, o4, b4⟩
          obtain ⟨g, c4, rfl⟩ : ∃ g c4, v4 = .slice (some ⟨g, 0, none⟩) l.length c4 := by
            rcases o4.2 with ⟨_, hn⟩ | ⟨g, c2, cur, h, _⟩
            · omega
            · exact ⟨g, c2, h⟩
          have hcell := World.ownsRow.cellAt o4 (k * 2 + 1) (by omega)
          rw [(atC_get l k hk).2] at hcell
          have hfz := World.ownsRow.frozenAt o4 (k * 2 + 1)
          have ho5 := Lib.hid (own_set (x := x) o4 hk)
          have hgw : w3.heap.size ≤ g := (o4.lt g rfl).1
          have o4 := Lib.hid o4
          go_wp2
          go_ret2
          rw [HF.out.1, HF.out.2, hfi.out]
          exact ⟨_, rfl, own_mono ho5.out hs3, (b13.trans (b4.mono hs3)).setCell (p := ⟨g, k * 2 + 1, none⟩) (by simp; omega) _⟩
  · have HF := Lib.hid (setE_of l n x h0)
    obtain ⟨c, hc⟩ : ∃ c, Hid (c = checkN l) := ⟨_, rfl⟩
    rw [← hc.out] at h0
    have h0' : (c != 0) = true := by rw [bne_iff_ne]; exact h0
    go_enter Try.func21, Try.ntmps21
    go_wp2_with fail
    refine (check_any _ l B w hv hB).mono ?_
    rintro e w1 ⟨rfl, b1⟩
    rw [← hc.out]
    go_wp2
    go_ret2
    rw [HF.out.1, HF.out.2, ← hc.out]
    exact Pair.nil b1

set_option maxRecDepth 100000 in
theorem refSet_any (v : Value) (n x : ByteArray) (l : List At) (B : Nat) (w : World) (hv : Ats w B v l) (hB : B ≤ w.heap.size) (hs : Hid (∀ a ∈ l, a.n.size ≤ maxLen ∧ a.v.size ≤ maxLen)) (hx : x.size ≤ maxLen) :
    Calls Try.prog 22 #[v, .string n, .string x] w (Pair w (setL l n x) (setE l n x)) := by
  obtain ⟨A, cap, rfl⟩ := hv.form
  by_cases h0 : checkN l = 0
  · have hl8 := checkN_len h0
    have H0 := Lib.hid h0
    go_enter Try.func22, Try.ntmps22
    go_wp2_with fail
    refine (refCheck_any _ l B w hv hB hs).mono ?_
    rintro e w1 ⟨rfl, b1⟩
    rw [H0.out]
    have hs1 := b1.size
    go_wp2_with (at_builtin; refine wpList_appR _ rfl (.tmp 16) (.tmp 17) 22 29 rfl _ 2 32 Try.underlying22 infoAt rfl (by decide) w.heap.size rfl rfl (World.ownsRow_lit w1 #[] 0 hs1 (by omega) rfl) (Ats.below ((hv.mono hB).below b1) ((Below.refl _ _).alloc hs1 _)) (atC_one l) ?_ ?_ ?_ ?_)
    · unfold maxLen; omega
    · omega
    · simp; omega
    intro v' w2 hown hg _
    have o2 : Hid (w2.ownsRow w.heap.size 29 2 v' l.length (atC l)) := by show World.ownsRow _ _ _ _ _ _ _; simpa using hown
    have hsz1 : w1.heap.size ≤ w2.heap.size := by have := hg.size; simp at this; omega
    have b2 : Below w.heap.size w w2 := (b1.alloc hs1 _).grown hg (by simp; omega) (by simp [Value.ownBlock]; omega)
    obtain ⟨A2, c2, rfl⟩ := own_form o2.out
    clear hown hg b1 hsz1
    go_wp2
    go_loop [10] (fun i => ∃ k : Nat, k ≤ l.length ∧ i = .int .i64 k ∧ Hid (∀ j (hj : j < l.length), j < k → hasN n l[j] = false)) (fun i => l.length - (intOf i).toNat)
    case atStart => exact ⟨0, Nat.zero_le _, rfl, fun j _ hj => by omega⟩
    case round =>
      obtain ⟨k, hk, rfl, hall⟩ := hrel
      by_cases hlt : k < l.length
      · obtain ⟨g, off, hA, hbB, hcap, hc0, hc1⟩ := (Ats.own o2.out).at hlt
        obtain ⟨rfl, rfl⟩ : A2 = some ⟨g, 0, none⟩ ∧ off = 0 := by
          rcases o2.out.2 with ⟨_, hn⟩ | ⟨g', c', cur, h, _⟩
          · omega
          · simp only [Value.slice.injEq, true_and] at h
            rw [hA] at h
            simp at h
            obtain ⟨⟨rfl, rfl⟩, _⟩ := h
            exact ⟨hA, rfl⟩
        simp only [Nat.zero_add] at hc0 hc1
        have hfz := World.ownsRow.frozenAt o2.out (k * 2 + 1)
        have hgw : w.heap.size ≤ g := (o2.out.lt g rfl).1
        by_cases hp : (l[k].n.toList == n.toList) = true
        · have hg : (getP l n).isSome = true := by rw [getP_at hlt hp hall.out]; rfl
          have hfi : Hid (l.findIdx (hasN n) = k) := by
            show _ = _
            rw [List.findIdx_eq hlt]
            exact ⟨hp, fun j hj => by simpa using hall.out j (by omega) hj⟩
          by_cases h3 : 64 < x.size
          · have HF := Lib.hid (setE_3 l n x h0 hg h3)
            clear hg h0
            go_wp2
            go_ret2
            rw [HF.out.1, HF.out.2]
            exact Pair.nil b2
          · cases hv2 : valueB x
            · have HF := Lib.hid (setE_2 l n x h0 hg h3 hv2)
              have HV := Lib.hid hv2
              clear hg h0 hv2
              go_wp2_with fail
              refine (refValue_any x w2 hx).mono ?_
              rintro e w3 ⟨rfl, rfl⟩
              rw [HV.out]
              go_wp2
              go_ret2
              rw [HF.out.1, HF.out.2]
              exact Pair.nil b2
            · have HF := Lib.hid (setE_0 l n x h0 hg h3 hv2)
              have HV := Lib.hid hv2
              have ho5 := Lib.hid (own_set (x := x) o2.out hlt)
              clear hg h0 hv2
              go_wp2_with fail
              refine (refValue_any x w2 hx).mono ?_
              rintro e w3 ⟨rfl, rfl⟩
              rw [HV.out]
              go_wp2
              go_ret2
              rw [HF.out.1, HF.out.2, hfi.out]
              exact ⟨_, rfl, ho5.out, b2.setCell (p := ⟨g, k * 2 + 1, none⟩) (by simp; omega) _⟩
        · have hp : (l[k].n.toList == n.toList) = false := by simpa using hp
          have hall' : Hid (∀ j (hj : j < l.length), j < k + 1 → hasN n l[j] = false) := by
            show ∀ j, _
            intro j hj hjk
            by_cases e : j = k
            · subst e; exact hp
            · exact hall.out j hj (by omega)
          clear h0
          go_wp2
          go_round
          case rel => exact ⟨k + 1, by omega, by go_num, hall'⟩
          case measure => simp [intOf]; omega
      · have hg : getP l n = none := getP_no fun j hj => hall.out j hj (by omega)
        have HF := Lib.hid (setE_6 l n x h0 hg)
        clear hg h0
        go_wp2
        go_ret2
        rw [HF.out.1, HF.out.2]
        exact Pair.nil b2
  · have HF := Lib.hid (setE_of l n x h0)
    obtain ⟨c, hc⟩ : ∃ c, Hid (c = checkN l) := ⟨_, rfl⟩
    rw [← hc.out] at h0
    have h0' : (c != 0) = true := by rw [bne_iff_ne]; exact h0
    go_enter Try.func22, Try.ntmps22
    go_wp2_with fail
    refine (refCheck_any _ l B w hv hB hs).mono ?_
    rintro e w1 ⟨rfl, b1⟩
    rw [← hc.out]
    go_wp2
    go_ret2
    rw [HF.out.1, HF.out.2, ← hc.out]
    exact Pair.nil b1
end Go.Proofs.Ytjoogocgklhgpaa
