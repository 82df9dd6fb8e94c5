/- expr: text, joined, Text. -/
import Derived.Test.YtfbcafapnagjfaaDoorExW
import Derived.Test.YtfbcafapnagjfaaDoorExX
namespace Go.Proofs.YtfbcafapnagjfaaDoor
open Go.RowKit

def signT (a b : Int) : List UInt8 := if a = 1 ∧ b = -1 then [43] else if a = 0 ∧ b = -1 then [42] else [123, 50, 44, 51, 125]
def bindsB (kind kid : Int) : Bool := if kind = 2 then !decide (kid = 3) else if kind = 4 then decide (kid = 1) else true
mutual
def Ex.textE : Ex → List UInt8
  | .mk k n a b l => if k = 2 then Lib.join (Ex.partsL k l) [32] else if k = 3 then Lib.join (Ex.partsL k l) [32, 124, 32] else if k = 4 then Lib.join (Ex.partsL k l) [] ++ signT a b else n.data.toList
def Ex.partsL (k : Int) : List Ex → List (List UInt8)
  | [] => []
  | e :: l => (if bindsB k e.k then Ex.textE e else [40] ++ Ex.textE e ++ [41]) :: Ex.partsL k l
end
def partE (k : Int) (e : Ex) : List UInt8 := if bindsB k e.k then e.textE else [40] ++ e.textE ++ [41]
theorem partsL_eq (k : Int) : ∀ l : List Ex, Ex.partsL k l = l.map (partE k)
  | [] => rfl
  | e :: l => by rw [Ex.partsL, partsL_eq k l]; rfl
/-- too long a text, or a sign that is not one of three -/
def illB (e : Ex) : Bool := decide (1000 < e.textE.length) || decide (1000 < e.l.length) || (decide (e.k = 4) && !(decide (e.a = 1 ∧ e.b = -1) || decide (e.a = 0 ∧ e.b = -1) || decide (e.a = 2 ∧ e.b = 3)))
def okT (e : Ex) : Prop := e.anyE illB = false
theorem okT_kid {e : Ex} (h : okT e) : ∀ x ∈ e.l, okT x := by
  unfold okT at h
  rw [anyE_eq, Bool.or_eq_false_iff, List.any_eq_false] at h
  intro x hx
  simpa [okT] using h.2 x hx
theorem okT_self {e : Ex} (h : okT e) : e.textE.length ≤ 1000 ∧ e.l.length ≤ 1000 ∧ (e.k = 4 → (e.a = 1 ∧ e.b = -1) ∨ (e.a = 0 ∧ e.b = -1) ∨ (e.a = 2 ∧ e.b = 3)) := by
  unfold okT at h
  rw [anyE_eq, Bool.or_eq_false_iff] at h
  have h1 := h.1
  simp only [illB, Bool.or_eq_false_iff, Bool.and_eq_false_iff, decide_eq_false_iff_not, Bool.not_eq_false', Bool.or_eq_true, decide_eq_true_eq] at h1
  refine ⟨by omega, by omega, fun hk => ?_⟩
  rcases h1.2 with h2 | h2
  · exact absurd hk h2
  · rcases h2 with (h2 | h2) | h2
    · exact .inl h2
    · exact .inr (.inl h2)
    · exact .inr (.inr h2)

theorem sign_any (a b : Int) (h : (a = 1 ∧ b = -1) ∨ (a = 0 ∧ b = -1) ∨ (a = 2 ∧ b = 3)) (w : World) :
    Calls Tryd.prog 40 #[.int .i64 a, .int .i64 b] w fun e w' => e = .returned (.string (baOf (signT a b))) ∧ Below w.heap.size w w' := by
  rcases h with ⟨rfl, rfl⟩ | ⟨rfl, rfl⟩ | ⟨rfl, rfl⟩
  · exact signP_any w
  · exact signS_any w
  · exact signB_any w

theorem binds_any (kind kid : Int) (w : World) : Calls Tryd.prog 45 #[.int .i64 kind, .int .i64 kid] w fun e w' => e = .returned (.bool (bindsB kind kid)) ∧ w = w' := by
  obtain ⟨c, HC⟩ : ∃ c, Hid (c = bindsB kind kid) := ⟨_, rfl⟩
  rw [← HC.out]
  by_cases h2 : kind = 2
  · have hc : Hid (c = !decide (kid = 3)) := by show _ = _; rw [HC.out]; unfold bindsB; rw [if_pos h2]
    subst h2
    go_enter Tryd.func45, Tryd.ntmps45
    go_wp2_with fail
    go_ret
    exact ⟨ret_bool (by rw [hc.out]; rfl), rfl⟩
  · by_cases h4 : kind = 4
    · have hc : Hid (c = decide (kid = 1)) := by show _ = _; rw [HC.out]; unfold bindsB; rw [if_neg h2, if_pos h4]
      subst h4
      go_enter Tryd.func45, Tryd.ntmps45
      go_wp2_with fail
      go_ret
      exact ⟨ret_bool (by rw [hc.out]; rfl), rfl⟩
    · have hc : Hid (c = true) := by show _ = _; rw [HC.out]; unfold bindsB; rw [if_neg h2, if_neg h4]
      have e2 : (kind == 2) = false := ne_beq h2
      have e4 : (kind == 4) = false := ne_beq h4
      clear h2 h4
      go_enter Tryd.func45, Tryd.ntmps45
      go_wp2_with fail
      go_ret
      exact ⟨ret_bool (by rw [hc.out]), rfl⟩

def strC (l : List (List UInt8)) : List Value := l.map fun x => Value.string (baOf x)
theorem strC_app (l m : List (List UInt8)) : strC (l ++ m) = strC l ++ strC m := by simp [strC]
theorem infoS : (Tryd.prog.info? 9).map (fun i => (i.zero, i.size, i.bytes)) = some (some (.string ⟨#[]⟩), 1, 16) := by kernel_rfl
theorem join_any (v : Value) (xs : List (List UInt8)) (sep : ByteArray) (base : Nat) (w : World) (ho : w.ownsRow base 9 1 v xs.length (strC xs)) (hn : xs.length ≤ 1000) (hlen : (Lib.join xs sep.data.toList).length ≤ 1000) :
    Calls Tryd.prog 46 #[v, .string sep] w fun e w' => e = .returned (.string (baOf (Lib.join xs sep.data.toList))) ∧ Below w.heap.size w w' := by
  have hr := Rd.own ho
  obtain ⟨A, cap, rfl, h0, h1, h2, h3⟩ := hr
  by_cases hz : xs.length = 0
  · have hx : xs = [] := List.eq_nil_of_length_eq_zero hz
    subst hx
    refine (Tryd.strings_Join_none A cap sep w).mono ?_
    rintro e w' ⟨rfl, rfl⟩
    exact ⟨rfl, Below.refl _ _⟩
  · rcases h3 with h3 | ⟨b, off, rfl, hb, hc⟩
    · exact absurd h3 hz
    · have hm : (xs.map baOf).map (fun x => x.data.toList) = xs := by
        rw [List.map_map]
        conv => rhs; rw [← List.map_id xs]
        exact List.map_congr_left fun x _ => baOf_list x
      have hj := Tryd.strings_Join b off cap (xs.map baOf) sep w (fun j x hx => by
        refine hc j _ ?_
        rw [List.getElem?_map] at hx
        simp only [strC, List.getElem?_map]
        cases hq : xs[j]? with
        | none => rw [hq] at hx; cases hx
        | some y => rw [hq] at hx; simp at hx ⊢; exact hx) hb (by rw [List.length_map]; omega) (by rw [List.length_map]; exact h1) (by rw [hm]; omega)
      rw [hm, List.length_map] at hj
      exact hj

theorem brackets (x : List UInt8) : ((⟨#[40]⟩ : ByteArray) ++ baOf x) ++ ⟨#[41]⟩ = baOf ([40] ++ x ++ [41]) := by
  apply toList_inj
  rw [ba_toList, ba_toList, baOf_list]
  simp [ByteArray.data_append, baOf]
def Txt (w : World) (x : List UInt8) (e : Ending) (w' : World) : Prop := e = .returned (.string (baOf x)) ∧ Below w.heap.size w w'
theorem take_strC (l : List (List UInt8)) (n : Nat) (h : n < l.length) : strC (l.take (n + 1)) = strC (l.take n) ++ [.string (baOf l[n])] := by
  rw [List.take_succ_eq_append_getElem h, strC_app]; rfl

set_option maxRecDepth 100000 in
set_option maxHeartbeats 1600000 in
theorem joined_any (k : Int) (nm : ByteArray) (a b : Int) (l : List Ex) (s : Value) (B : Nat) (sep : ByteArray) (w : World) (hs : Kb w B s l) (hB : B ≤ w.heap.size) (hl : l.length ≤ 1000) (hlen : (Lib.join (l.map (partE k)) sep.data.toList).length ≤ 1000)
    (hkid : ∀ e ∈ l, e.textE.length ≤ 1000) (ih : ∀ e ∈ l, ∀ (s : Value) (w : World), Kb w B s e.l → B ≤ w.heap.size → Calls Tryd.prog 21 #[exV e s] w (Txt w e.textE)) :
    Calls Tryd.prog 39 #[.agg #[.int .i64 k, .string nm, .int .i64 a, .int .i64 b, s], .string sep] w (Txt w (Lib.join (l.map (partE k)) sep.data.toList)) := by
  obtain ⟨A, cap, rfl⟩ := hs.form
  obtain ⟨M, HM⟩ : ∃ M : List (List UInt8), Hid (M = l.map (partE k)) := ⟨_, rfl⟩
  rw [← HM.out] at hlen ⊢
  have hML : M.length = l.length := by rw [HM.out, List.length_map]
  have HML := Lib.hid hML
  have HJ := Lib.hid fun v w1 ho => join_any v M sep w.heap.size w1 ho (by omega) hlen
  have hs1 := hs.below ((box_below w (.cells #[.int .i64 k, .string nm, .int .i64 a, .int .i64 b, .slice A l.length cap] 24)).mono hB)
  have HI := Lib.hid ih
  have HK := Lib.hid hkid
  have hbox := box_below w (.cells #[.int .i64 k, .string nm, .int .i64 a, .int .i64 b, .slice A l.length cap] 24)
  have HQ0 : Hid (Bk (w.alloc (.cells #[.int .i64 k, .string nm, .int .i64 a, .int .i64 b, .slice A l.length cap] 24)) w.heap.size 24 #[.int .i64 k, .string nm, .int .i64 a, .int .i64 b, .slice A l.length cap]) := Bk.new _ _ _
  have HB0 := Lib.hid hbox
  obtain ⟨w0, rfl⟩ : ∃ w0 : World, w0 = w := ⟨_, rfl⟩
  have hm : l.length ≤ 1000 := hl
  clear hML ih hkid hbox hs hlen hl
  go_enter Tryd.func39, Tryd.ntmps39
  go_wp2_with fail
  go_loopg [5, 7, 11] l.length (fun n v5 _ i wr => ∃ k1 : Nat, k1 ≤ l.length ∧ n = l.length - k1 ∧ i = .int .i64 k1 ∧ Hid (wr.ownsRow (w0.heap.size + 1) 9 1 v5 k1 (strC (M.take k1))) ∧ Hid (Below w0.heap.size w0 wr) ∧ Hid (Below (w0.heap.size + 1) (w0.alloc (.cells #[.int .i64 k, .string nm, .int .i64 a, .int .i64 b, .slice A l.length cap] 24)) wr))
  case atStart => exact ⟨0, Nat.zero_le _, rfl, rfl, World.ownsRow_nil _ _ _ 1, HB0.out, Below.refl _ _⟩
  case round =>
    obtain ⟨n, hn, hgk, rfl, HO, HB, HB1⟩ := hrel
    have HGK := Lib.hid hgk
    clear hgk
    have hsz := HB1.out.size
    rw [World.size_alloc] at hsz
    by_cases hlt : n < l.length
    · obtain ⟨bb, off, s', rfl, hbB, hcap, hks, hc0, hc1, hc2, hc3, hc4⟩ := Kd.at (hs1.below (HB1.out.mono (by omega))) hlt
      have hbw : bb < wr.heap.size := by omega
      obtain ⟨A2, cap2, rfl⟩ := hks.form
      have hmem := List.getElem_mem hlt
      have hlen1 := HK.out l[n] hmem
      have hMn : M[n]'(by have := HML.out; omega) = partE k l[n] := by
        have h1 := HM.out
        subst h1
        rw [List.getElem_map]
      have hg0 := (HB1.out.cell (p := ⟨w0.heap.size, 0, none⟩) (by show w0.heap.size < _; omega)).trans (HQ0.out.cell 0)
      simp at hg0
      have hgl : w0.heap.size < wr.heap.size := by omega
      have C1 := Lib.hid (binds_any k l[n].k (wr.alloc (.cells #[.int .i64 l[n].k, .string l[n].n, .int .i64 l[n].a, .int .i64 l[n].b, .slice A2 l[n].l.length cap2] 24)))
      have C2 := Lib.hid (HI.out l[n] hmem (.slice A2 l[n].l.length cap2) (wr.alloc (.cells #[.int .i64 l[n].k, .string l[n].n, .int .i64 l[n].a, .int .i64 l[n].b, .slice A2 l[n].l.length cap2] 24)) (Kb.below hks ((Below.refl _ _).alloc (by omega) _)) (by simp; omega))
      have hpart : partE k l[n] = if bindsB k l[n].k then l[n].textE else [40] ++ l[n].textE ++ [41] := rfl
      have hts := take_strC M n (by have := HML.out; omega)
      rw [hMn] at hts
      have HTS := Lib.hid hts
      have HP := Lib.hid hpart
      have HH := Lib.hid hlen1
      clear hts hpart hlen1 hMn hmem
      generalize partE k l[n] = pn at *
      generalize bindsB k l[n].k = q at *
      generalize l[n].textE = tx at *
      cases q
      all_goals
        go_wp2_with fail
        refine (C1.out).mono ?_
        clear C1
        rintro x w1 ⟨rfl, rfl⟩
        go_wp2_with fail
        refine (C2.out).mono ?_
        clear C2
        rintro x w2 ⟨rfl, hb2⟩
        have hz2 := hb2.size
        rw [World.size_alloc] at hz2
        have HO2 := Lib.hid (own_all (own_all HO.out (box_below wr (.cells #[.int .i64 l[n].k, .string l[n].n, .int .i64 l[n].a, .int .i64 l[n].b, .slice A2 l[n].l.length cap2] 24))) hb2)
        have HC1 := Lib.hid ((HB1.out.alloc (by omega) (.cells #[.int .i64 l[n].k, .string l[n].n, .int .i64 l[n].a, .int .i64 l[n].b, .slice A2 l[n].l.length cap2] 24)).trans (hb2.mono (by simp; omega)))
        have HC := Lib.hid ((HB.out.alloc (by omega) (.cells #[.int .i64 l[n].k, .string l[n].n, .int .i64 l[n].a, .int .i64 l[n].b, .slice A2 l[n].l.length cap2] 24)).trans (hb2.mono (by simp; omega)))
        have hsum : (baOf tx).size ≤ 1000 := by rw [baOf_len]; exact HH.out
        clear hb2 hz2
      · have HPN : Hid (pn = [40] ++ tx ++ [41]) := by show _ = _; rw [HP.out]; rfl
        have hs40 : (((⟨#[40]⟩ : ByteArray) ++ baOf tx).size) ≤ 2000 := by rw [ByteArray.size_append]; have : (⟨#[40]⟩ : ByteArray).size = 1 := rfl; omega
        have HO3 := Lib.hid (World.ownsRow.alloc HO2.out (.cells #[.string (((⟨#[40]⟩ : ByteArray) ++ baOf tx) ++ ⟨#[41]⟩)] 9))
        have hrd := Rd.lit w2 9 1 1 #[.string (((⟨#[40]⟩ : ByteArray) ++ baOf tx) ++ ⟨#[41]⟩)] (0, 0) rfl (by omega)
        have HRD := Lib.hid hrd
        clear hrd
        go_wp2_with (at_builtin; refine wpList_appR _ rfl _ _ 59 9 rfl _ 1 16 Tryd.underlying59 infoS (by rfl) (by decide) (w0.heap.size + 1) rfl rfl HO3.out HRD.out ?_ ?_ ?_ ?_ ?_)
        · simp [Value.oneCell']
        · unfold maxLen; omega
        · omega
        · have := HC1.out.size; simp at this ⊢; omega
        intro v' w3 ho3 hg3 hat
        rw [brackets] at ho3
        have HO4 : Hid (w3.ownsRow (w0.heap.size + 1) 9 1 v' (n + 1) (strC (M.take (n + 1)))) := by
          rw [HTS.out, HPN.out]
          exact ho3
        have HC4 : Hid (Below w0.heap.size w0 w3) := (HC.out.alloc (by have := HC.out.size; omega) _).grown hg3 (by have := HC.out.size; simp; omega) fun g hg => by have := (HO3.out.lt g hg).1; omega
        have HC5 := Lib.hid ((HC1.out.alloc (by have := HC1.out.size; simp at this; omega) (.cells #[.string (((⟨#[40]⟩ : ByteArray) ++ baOf tx) ++ ⟨#[41]⟩)] 9)).grown hg3 (by have := HC1.out.size; simp at this ⊢; omega) fun g hg => (HO3.out.lt g hg).1)
        clear ho3 hg3 hat HO3 HO2 HC HC1 HRD
        go_wp2_with fail
        go_roundg (l.length - (n + 1))
        case rel => exact ⟨n + 1, by omega, rfl, by go_num, HO4, HC4, HC5⟩
        case measure => have := HGK.out; omega
      · have HPN : Hid (pn = tx) := by show _ = _; rw [HP.out]; rfl
        have HO3 := Lib.hid (World.ownsRow.alloc HO2.out (.cells #[.string (baOf tx)] 9))
        have hrd := Rd.lit w2 9 1 1 #[.string (baOf tx)] (0, 0) rfl (by omega)
        have HRD := Lib.hid hrd
        clear hrd
        go_wp2_with (at_builtin; refine wpList_appR _ rfl _ _ 59 9 rfl _ 1 16 Tryd.underlying59 infoS (by rfl) (by decide) (w0.heap.size + 1) rfl rfl HO3.out HRD.out ?_ ?_ ?_ ?_ ?_)
        · simp [Value.oneCell']
        · unfold maxLen; omega
        · omega
        · have := HC1.out.size; simp at this ⊢; omega
        intro v' w3 ho3 hg3 hat
        have HO4 : Hid (w3.ownsRow (w0.heap.size + 1) 9 1 v' (n + 1) (strC (M.take (n + 1)))) := by
          rw [HTS.out, HPN.out]
          exact ho3
        have HC4 : Hid (Below w0.heap.size w0 w3) := (HC.out.alloc (by have := HC.out.size; omega) _).grown hg3 (by have := HC.out.size; simp; omega) fun g hg => by have := (HO3.out.lt g hg).1; omega
        have HC5 := Lib.hid ((HC1.out.alloc (by have := HC1.out.size; simp at this; omega) (.cells #[.string (baOf tx)] 9)).grown hg3 (by have := HC1.out.size; simp at this ⊢; omega) fun g hg => (HO3.out.lt g hg).1)
        clear ho3 hg3 hat HO3 HO2 HC HC1 HRD
        go_wp2_with fail
        go_roundg (l.length - (n + 1))
        case rel => exact ⟨n + 1, by omega, rfl, by go_num, HO4, HC4, HC5⟩
        case measure => have := HGK.out; omega
    · obtain rfl : n = l.length := by omega
      have ho : wr.ownsRow (w0.heap.size + 1) 9 1 u5 M.length (strC M) := by
        have := HO.out
        rw [List.take_of_length_le (by have := HML.out; omega), ← HML.out] at this; exact this
      have C := Lib.hid (HJ.out _ wr (own_mono ho (by omega)))
      clear ho HO HI HK hs1 hlt
      go_wp2_with fail
      refine (C.out).mono ?_
      rintro x w2 ⟨rfl, hb2⟩
      have HB2 : Hid (Below w0.heap.size w0 w2) := HB.out.trans (hb2.mono (by omega))
      clear C hb2
      go_wp2_with fail
      go_ret
      exact ⟨rfl, HB2.out⟩

theorem kid_le (sep : List UInt8) : ∀ (xs : List (List UInt8)) (x : List UInt8), x ∈ xs → x.length ≤ (Lib.join xs sep).length
  | [], _, h => by cases h
  | [y], x, h => by
    rcases List.mem_singleton.1 h with rfl
    simp [Lib.join, List.intercalate, List.intersperse]
  | y :: z :: r, x, h => by
    have hj : Lib.join (y :: z :: r) sep = y ++ sep ++ Lib.join (z :: r) sep := by simp [Lib.join, List.intercalate, List.intersperse]
    rw [hj, List.length_append, List.length_append]
    rcases List.mem_cons.1 h with rfl | h
    · omega
    · have := kid_le sep (z :: r) x h; omega

/-- joined's contract, at any later world -/
def JoinOK (k : Int) (nm : ByteArray) (a b : Int) (l : List Ex) (s : Value) (B : Nat) (sep : List UInt8) : Prop :=
  ∀ w, Kb w B s l → B ≤ w.heap.size → Calls Tryd.prog 39 #[.agg #[.int .i64 k, .string nm, .int .i64 a, .int .i64 b, s], .string (baOf sep)] w (Txt w (Lib.join (l.map (partE k)) sep))

set_option maxRecDepth 100000 in
theorem textK (k : Int) (nm : ByteArray) (a b : Int) (l : List Ex) (A : Option Addr) (cap : Nat) (w : World) (h2 : (k == 2) = false) (h3 : (k == 3) = false) (h4 : (k == 4) = false) :
    Calls Tryd.prog 21 #[.agg #[.int .i64 k, .string nm, .int .i64 a, .int .i64 b, .slice A l.length cap]] w (Txt w nm.data.toList) := by
  have he : baOf nm.data.toList = nm := by apply toList_inj; rw [baOf_toList, ba_toList]
  have HE := Lib.hid he
  clear he
  go_enter Tryd.func21, Tryd.ntmps21
  go_wp2_with fail
  go_ret
  exact ⟨by rw [HE.out]; rfl, box_below _ _⟩
set_option maxRecDepth 100000 in
theorem textJ2 (nm : ByteArray) (a b : Int) (l : List Ex) (A : Option Addr) (cap : Nat) (B : Nat) (w : World) (hs : Kb w B (.slice A l.length cap) l) (hB : B ≤ w.heap.size) (hj : JoinOK 2 nm a b l (.slice A l.length cap) B [32]) :
    Calls Tryd.prog 21 #[.agg #[.int .i64 2, .string nm, .int .i64 a, .int .i64 b, .slice A l.length cap]] w (Txt w (Lib.join (l.map (partE 2)) [32])) := by
  have hb := box_below w (.cells #[.int .i64 2, .string nm, .int .i64 a, .int .i64 b, .slice A l.length cap] 24)
  have C := Lib.hid (hj _ (hs.below (hb.mono hB)) (Nat.le_trans hB hb.size))
  have HB := Lib.hid hb
  clear hj hs hb
  go_enter Tryd.func21, Tryd.ntmps21
  go_wp2_with fail
  refine (C.out).mono ?_
  rintro x w1 ⟨rfl, hb1⟩
  have HB1 := Lib.hid (HB.out.trans (hb1.mono HB.out.size))
  clear C hb1
  go_wp2_with fail
  go_ret
  exact ⟨rfl, HB1.out⟩
set_option maxRecDepth 100000 in
theorem textJ3 (nm : ByteArray) (a b : Int) (l : List Ex) (A : Option Addr) (cap : Nat) (B : Nat) (w : World) (hs : Kb w B (.slice A l.length cap) l) (hB : B ≤ w.heap.size) (hj : JoinOK 3 nm a b l (.slice A l.length cap) B [32, 124, 32]) :
    Calls Tryd.prog 21 #[.agg #[.int .i64 3, .string nm, .int .i64 a, .int .i64 b, .slice A l.length cap]] w (Txt w (Lib.join (l.map (partE 3)) [32, 124, 32])) := by
  have hb := box_below w (.cells #[.int .i64 3, .string nm, .int .i64 a, .int .i64 b, .slice A l.length cap] 24)
  have C := Lib.hid (hj _ (hs.below (hb.mono hB)) (Nat.le_trans hB hb.size))
  have HB := Lib.hid hb
  clear hj hs hb
  go_enter Tryd.func21, Tryd.ntmps21
  go_wp2_with fail
  refine (C.out).mono ?_
  rintro x w1 ⟨rfl, hb1⟩
  have HB1 := Lib.hid (HB.out.trans (hb1.mono HB.out.size))
  clear C hb1
  go_wp2_with fail
  go_ret
  exact ⟨rfl, HB1.out⟩

def Five (w : World) (g : Nat) (c0 c1 c2 c3 c4 : Value) : Prop := w.cell? ⟨g, 0, none⟩ = some c0 ∧ w.cell? ⟨g, 1, none⟩ = some c1 ∧ w.cell? ⟨g, 2, none⟩ = some c2 ∧ w.cell? ⟨g, 3, none⟩ = some c3 ∧ w.cell? ⟨g, 4, none⟩ = some c4
theorem Five.below {w w' : World} {g : Nat} {c0 c1 c2 c3 c4 : Value} (h : Five w g c0 c1 c2 c3 c4) (hb : Below w.heap.size w w') (hg : g < w.heap.size) : Five w' g c0 c1 c2 c3 c4 := by
  obtain ⟨h0, h1, h2, h3, h4⟩ := h
  exact ⟨(hb.cell (p := ⟨g, 0, none⟩) hg).trans h0, (hb.cell (p := ⟨g, 1, none⟩) hg).trans h1, (hb.cell (p := ⟨g, 2, none⟩) hg).trans h2, (hb.cell (p := ⟨g, 3, none⟩) hg).trans h3, (hb.cell (p := ⟨g, 4, none⟩) hg).trans h4⟩
theorem baOf_app (x y : List UInt8) : baOf x ++ baOf y = baOf (x ++ y) := by
  apply toList_inj
  rw [ba_toList, ba_toList, baOf_list]
  simp [ByteArray.data_append, baOf]

set_option maxRecDepth 100000 in
set_option maxHeartbeats 1600000 in
theorem textM (nm : ByteArray) (a b : Int) (l : List Ex) (A : Option Addr) (cap : Nat) (B : Nat) (w : World) (hs : Kb w B (.slice A l.length cap) l) (hB : B ≤ w.heap.size) (hj : JoinOK 4 nm a b l (.slice A l.length cap) B [])
    (hab : (a = 1 ∧ b = -1) ∨ (a = 0 ∧ b = -1) ∨ (a = 2 ∧ b = 3)) (hl : (Lib.join (l.map (partE 4)) []).length ≤ 1000) :
    Calls Tryd.prog 21 #[.agg #[.int .i64 4, .string nm, .int .i64 a, .int .i64 b, .slice A l.length cap]] w (Txt w (Lib.join (l.map (partE 4)) [] ++ signT a b)) := by
  obtain ⟨w0, rfl⟩ : ∃ w0 : World, w0 = w := ⟨_, rfl⟩
  have hb := box_below w0 (.cells #[.int .i64 4, .string nm, .int .i64 a, .int .i64 b, .slice A l.length cap] 24)
  have hk := hs.below (hb.mono hB)
  have C := Lib.hid (hj ((w0.alloc (.cells #[.int .i64 4, .string nm, .int .i64 a, .int .i64 b, .slice A l.length cap] 24)).drew) (Kd.drew hk) (Nat.le_trans hB hb.size))
  have CS := Lib.hid (sign_any a b hab)
  have HB := Lib.hid hb
  have hbs : (signT a b).length ≤ 10 := by unfold signT; split <;> (try split) <;> simp
  have h5 : Five (w0.alloc (.cells #[.int .i64 4, .string nm, .int .i64 a, .int .i64 b, .slice A l.length cap] 24)) w0.heap.size (.int .i64 4) (.string nm) (.int .i64 a) (.int .i64 b) (.slice A l.length cap) := (Bk.five (Bk.new _ _ _)).1
  have H5 := Lib.hid h5
  have H5d : Hid (Five (w0.alloc (.cells #[.int .i64 4, .string nm, .int .i64 a, .int .i64 b, .slice A l.length cap] 24)).drew w0.heap.size (.int .i64 4) (.string nm) (.int .i64 a) (.int .i64 b) (.slice A l.length cap)) := h5
  obtain ⟨X, HX⟩ : ∃ X, Hid (X = Lib.join (l.map (partE 4)) []) := ⟨_, rfl⟩
  obtain ⟨Y, HY⟩ : ∃ Y, Hid (Y = signT a b) := ⟨_, rfl⟩
  revert C
  unfold Txt
  rw [← HX.out]
  intro C
  rw [← HX.out] at hl
  rw [← HY.out] at CS hbs ⊢
  have hx1 : (baOf X).size ≤ 1000 := by rw [baOf_len]; exact hl
  have hy1 : (baOf Y).size ≤ 10 := by rw [baOf_len]; exact hbs
  have hadd : ∀ w : World, (Op.stringOp .add (baOf X) (baOf Y)).run Tryd.prog w = .ok (.string (baOf X ++ baOf Y)) w := fun w => run_string_add_sum w (baOf X) (baOf Y) (by omega)
  have hlt : w0.heap.size < w0.heap.size + 1 := by omega
  clear hj hs hb hk hab h5
  go_enter Tryd.func21, Tryd.ntmps21
  go_wp2_with fail
  go_region_held3 (fun w' => w'.cell? ⟨w0.heap.size, 0, none⟩ = some (.int .i64 4) ∧ w'.cell? ⟨w0.heap.size, 1, none⟩ = some (.string nm) ∧ w'.cell? ⟨w0.heap.size, 2, none⟩ = some (.int .i64 a) ∧ w'.cell? ⟨w0.heap.size, 3, none⟩ = some (.int .i64 b) ∧ w'.cell? ⟨w0.heap.size, 4, none⟩ = some (.slice A l.length cap))
    (first
      | exact H5.out
      | exact H5d.out
      | exact Five.below H5d.out hb1 (by simp)
      | exact Five.below (Five.below H5d.out hb1 (by simp)) hb2 (by have := hb1.size; simp at this; omega))
    (first
      | (go_at_call 39; refine (C.out).mono ?_; rintro x w1 ⟨rfl, hb1⟩)
      | (go_at_call 40; refine (CS.out _).mono ?_; rintro x w2 ⟨rfl, hb2⟩))
  have HB2 : Hid (Below w0.heap.size w0 w2) := (HB.out.drew.trans (hb1.mono (by show w0.heap.size ≤ (w0.alloc _).heap.size; simp))).trans (hb2.mono (by have := hb1.size; simp at this; omega))
  clear hb1 hb2
  go_wp2_with fail
  go_ret
  exact ⟨by rw [← baOf_app]; rfl, HB2.out⟩

/-- text -/
theorem text_any (e : Ex) : okT e → ∀ (s : Value) (B : Nat) (w : World), Kb w B s e.l → B ≤ w.heap.size → Calls Tryd.prog 21 #[exV e s] w (Txt w e.textE) := by
  induction e using Ex.ind with
  | h k nm a b l ih =>
    intro hok s B w hs hB
    obtain ⟨A, cap, hform⟩ := hs.form
    change s = .slice A l.length cap at hform
    subst hform
    obtain ⟨q1, q2, q3⟩ := okT_self hok
    have hkid : ∀ e ∈ l, e.textE.length ≤ 1000 := fun e he => (okT_self (okT_kid hok e he)).1
    have hte : (Ex.mk k nm a b l).textE = if k = 2 then Lib.join (l.map (partE k)) [32] else if k = 3 then Lib.join (l.map (partE k)) [32, 124, 32] else if k = 4 then Lib.join (l.map (partE k)) [] ++ signT a b else nm.data.toList := by
      rw [Ex.textE, partsL_eq]
    have hj : ∀ sep : List UInt8, (Lib.join (l.map (partE k)) sep).length ≤ 1000 → JoinOK k nm a b l (.slice A l.length cap) B sep := by
      intro sep hlen w1 hk1 hB1
      have := joined_any k nm a b l _ B (baOf sep) w1 hk1 hB1 q2 (by rw [baOf_list]; exact hlen) hkid fun e he s' w' hk' hB' => ih e he (okT_kid hok e he) s' B w' hk' hB'
      rw [baOf_list] at this
      exact this
    rw [hte] at q1 ⊢
    show Calls Tryd.prog 21 #[.agg #[.int .i64 k, .string nm, .int .i64 a, .int .i64 b, .slice A l.length cap]] w _
    by_cases h2 : k = 2
    · subst h2
      rw [if_pos rfl] at q1 ⊢
      exact textJ2 nm a b l A cap B w hs hB (hj _ q1)
    rw [if_neg h2] at q1 ⊢
    by_cases h3 : k = 3
    · subst h3
      rw [if_pos rfl] at q1 ⊢
      exact textJ3 nm a b l A cap B w hs hB (hj _ q1)
    rw [if_neg h3] at q1 ⊢
    by_cases h4 : k = 4
    · subst h4
      rw [if_pos rfl] at q1 ⊢
      rw [List.length_append] at q1
      exact textM nm a b l A cap B w hs hB (hj _ (by omega)) (q3 rfl) (by omega)
    rw [if_neg h4]
    exact textK k nm a b l A cap w (ne_beq h2) (ne_beq h3) (ne_beq h4)

/-- Text, of one that may be, and is no long one -/
def TextR (w : World) (x : List UInt8) (e : Ending) (w' : World) : Prop := e = .returned (.tuple #[.string (baOf x), .int .i64 0]) ∧ Below w.heap.size w w'
set_option maxRecDepth 100000 in
theorem Text_any (e : Ex) (hok : okT e) (hc : checkE e = 0) (s : Value) (B : Nat) (w : World) (hs : Kb w B s e.l) (hB : B ≤ w.heap.size) :
    Calls Tryd.prog 11 #[exV e s] w (TextR w e.textE) := by
  obtain ⟨A, cap, rfl⟩ := hs.form
  obtain ⟨w0, rfl⟩ : ∃ w0 : World, w0 = w := ⟨_, rfl⟩
  have hb := box_below w0 (.cells #[.int .i64 e.k, .string e.n, .int .i64 e.a, .int .i64 e.b, .slice A e.l.length cap] 24)
  have hk := hs.below (hb.mono hB)
  have C1 := Lib.hid (Check_any e _ B _ hk (Nat.le_trans hB hb.size))
  rw [hc] at C1
  have C2 := Lib.hid fun w1 (h1 : Below (w0.heap.size + 1) (w0.alloc (.cells #[.int .i64 e.k, .string e.n, .int .i64 e.a, .int .i64 e.b, .slice A e.l.length cap] 24)) w1) => text_any e hok _ B w1 (hk.below (h1.mono (by omega))) (by have := h1.size; simp at this; omega)
  have HQ : Hid (Bk (w0.alloc (.cells #[.int .i64 e.k, .string e.n, .int .i64 e.a, .int .i64 e.b, .slice A e.l.length cap] 24)) w0.heap.size 24 #[.int .i64 e.k, .string e.n, .int .i64 e.a, .int .i64 e.b, .slice A e.l.length cap]) := Bk.new _ _ _
  have HB := Lib.hid hb
  obtain ⟨X, HX⟩ : ∃ X, Hid (X = e.textE) := ⟨_, rfl⟩
  rw [← HX.out] at C2 ⊢
  clear hk hs hb hok hc
  unfold exV at *
  go_enter Tryd.func11, Tryd.ntmps11
  go_wp2_with fail
  refine (C1.out).mono ?_
  clear C1
  rintro x w1 ⟨rfl, hb1⟩
  have hb1' : Below (w0.heap.size + 1) (w0.alloc (.cells #[.int .i64 e.k, .string e.n, .int .i64 e.a, .int .i64 e.b, .slice A e.l.length cap] 24)) w1 := by simpa using hb1
  have C3 := Lib.hid (C2.out w1 hb1')
  obtain ⟨⟨x0, x1, x2, x3, x4⟩, -⟩ := Bk.five (HQ.out.all hb1)
  have HB1 := Lib.hid (HB.out.trans (hb1.mono HB.out.size))
  clear C2 hb1 hb1'
  go_wp2_with fail
  refine (C3.out).mono ?_
  clear C3
  rintro x w2 ⟨rfl, hb2⟩
  have HB2 := Lib.hid (HB1.out.trans (hb2.mono HB1.out.size))
  clear hb2
  go_wp2_with fail
  go_ret2
  exact ⟨rfl, HB2.out⟩
end Go.Proofs.YtfbcafapnagjfaaDoor
