/- ExA, ExB, ExC, merged. -/
import Derived.Test.YtkbileabkfccgaaGreatDoorCz01

/- expr: what is asked of one expression. -/
namespace Go.Proofs.YtkbileabkfccgaaGreatDoor
open Go.RowKit

/-- a bool is handed back; what was there is as it was -/
def RetB (c : Bool) (w : World) (e : Ending) (w' : World) : Prop := e = .returned (.bool c) ∧ Below w.heap.size w w'
theorem retB {c d : Bool} {w w' : World} (h : c = d) (hb : Below w.heap.size w w') : RetB d w (.returned (.bool c)) w' := ⟨by rw [h], hb⟩
theorem sz_str (s : ByteArray) : (s.size = 0) = (s.toList = []) := by rw [empty_iff]

set_option maxRecDepth 100000 in
theorem longE_any (k : Int) (nm : ByteArray) (a b : Int) (l : List Ex) (s : Value) (w : World) :
    Calls Tryz.prog 53 #[exV (.mk k nm a b l) s] w (RetB (longE (.mk k nm a b l)) w) := by
  obtain ⟨c, HF⟩ : ∃ c, Hid (c = longE (.mk k nm a b l)) := ⟨_, rfl⟩
  rw [← HF.out]
  show Calls Tryz.prog 53 #[.agg #[.int .i64 k, .string nm, .int .i64 a, .int .i64 b, s]] w (RetB c w)
  go_enter Tryz.func53, Tryz.ntmps53
  go_wp2
  all_goals
    go_ret
    exact retB (by rw [HF.out]; show _ = (decide (16 < nm.size) || decide (16 < a) || decide (16 < b)); rw [Bool.eq_iff_iff]; simp <;> omega) ((Below.refl _ _).alloc (Nat.le_refl _) _)

set_option maxRecDepth 100000 in
theorem wild_any (k : Int) (nm : ByteArray) (a b : Int) (l : List Ex) (s : Value) (w : World) :
    Calls Tryz.prog 93 #[exV (.mk k nm a b l) s] w (RetB (wildB (.mk k nm a b l)) w) := by
  obtain ⟨c, HF⟩ : ∃ c, Hid (c = wildB (.mk k nm a b l)) := ⟨_, rfl⟩
  rw [← HF.out]
  show Calls Tryz.prog 93 #[.agg #[.int .i64 k, .string nm, .int .i64 a, .int .i64 b, s]] w (RetB c w)
  go_enter Tryz.func93, Tryz.ntmps93
  go_wp2
  all_goals
    go_ret
    exact retB (by rw [HF.out]; show _ = (decide (min a b < -1) || decide (1048576 < max a b)); rw [Bool.eq_iff_iff]; simp <;> omega) ((Below.refl _ _).alloc (Nat.le_refl _) _)

set_option maxRecDepth 100000 in
theorem bare_any (k : Int) (nm : ByteArray) (a b : Int) (l : List Ex) (s : Value) (w : World) :
    Calls Tryz.prog 96 #[exV (.mk k nm a b l) s] w (RetB (bareB (.mk k nm a b l)) w) := by
  obtain ⟨c, HF⟩ : ∃ c, Hid (c = bareB (.mk k nm a b l)) := ⟨_, rfl⟩
  rw [← HF.out]
  show Calls Tryz.prog 96 #[.agg #[.int .i64 k, .string nm, .int .i64 a, .int .i64 b, s]] w (RetB c w)
  go_enter Tryz.func96, Tryz.ntmps96
  go_wp2
  all_goals
    go_ret
    exact retB (by rw [HF.out]; show _ = (decide (a = 0) && decide (b = 0)); rw [Bool.eq_iff_iff]; simp <;> omega) ((Below.refl _ _).alloc (Nat.le_refl _) _)

set_option maxRecDepth 100000 in
theorem row_any (k : Int) (nm : ByteArray) (a b : Int) (l : List Ex) (s : Value) (w : World) :
    Calls Tryz.prog 97 #[exV (.mk k nm a b l) s] w (RetB (isB 2 (.mk k nm a b l)) w) := by
  obtain ⟨c, HF⟩ : ∃ c, Hid (c = isB 2 (.mk k nm a b l)) := ⟨_, rfl⟩
  rw [← HF.out]
  show Calls Tryz.prog 97 #[.agg #[.int .i64 k, .string nm, .int .i64 a, .int .i64 b, s]] w (RetB c w)
  go_enter Tryz.func97, Tryz.ntmps97
  go_wp2
  all_goals
    go_ret
    exact retB (by rw [HF.out]; rfl) ((Below.refl _ _).alloc (Nat.le_refl _) _)

set_option maxRecDepth 100000 in
theorem nothing_any (k : Int) (nm : ByteArray) (a b : Int) (l : List Ex) (A : Option Addr) (cap : Nat) (w : World) :
    Calls Tryz.prog 100 #[exV (.mk k nm a b l) (.slice A l.length cap)] w (RetB (nilB (.mk k nm a b l)) w) := by
  obtain ⟨c, HF⟩ : ∃ c, Hid (c = nilB (.mk k nm a b l)) := ⟨_, rfl⟩
  obtain ⟨d, HD⟩ : ∃ d, Hid (d = isB 2 (.mk k nm a b l)) := ⟨_, rfl⟩
  have hr := fun w => row_any k nm a b l (.slice A l.length cap) w
  rw [← HD.out] at hr
  rw [← HF.out]
  revert hr
  show (∀ w, Calls Tryz.prog 97 #[.agg #[.int .i64 k, .string nm, .int .i64 a, .int .i64 b, .slice A l.length cap]] w (RetB d w)) → Calls Tryz.prog 100 #[.agg #[.int .i64 k, .string nm, .int .i64 a, .int .i64 b, .slice A l.length cap]] w (RetB c w)
  intro hr
  cases d
  all_goals
    go_enter Tryz.func100, Tryz.ntmps100
    go_wp2_with fail
    refine (hr _).mono ?_
    clear hr
    rintro e w1 ⟨rfl, B1⟩
    have B2 := ((Below.refl w.heap.size w).alloc (Nat.le_refl _) (.cells #[.int .i64 k, .string nm, .int .i64 a, .int .i64 b, .slice A l.length cap] 24)).trans (B1.mono (by simp))
    obtain ⟨hc, hf⟩ := bcell B1
    clear B1
    go_wp2
    go_ret
    exact retB (by rw [HF.out]; unfold nilB; rw [← HD.out]; show _ = (_ && decide (l.length = 0)); rw [Bool.eq_iff_iff]; simp <;> omega) B2

set_option maxRecDepth 100000 in
theorem noCh_any (k : Int) (nm : ByteArray) (a b : Int) (l : List Ex) (A : Option Addr) (cap : Nat) (w : World) :
    Calls Tryz.prog 98 #[exV (.mk k nm a b l) (.slice A l.length cap)] w (RetB (noChB (.mk k nm a b l)) w) := by
  obtain ⟨c, HF⟩ : ∃ c, Hid (c = noChB (.mk k nm a b l)) := ⟨_, rfl⟩
  obtain ⟨d, HD⟩ : ∃ d, Hid (d = nilB (.mk k nm a b l)) := ⟨_, rfl⟩
  have hr := fun w => nothing_any k nm a b l A cap w
  rw [← HD.out] at hr
  rw [← HF.out]
  revert hr
  show (∀ w, Calls Tryz.prog 100 #[.agg #[.int .i64 k, .string nm, .int .i64 a, .int .i64 b, .slice A l.length cap]] w (RetB d w)) → Calls Tryz.prog 98 #[.agg #[.int .i64 k, .string nm, .int .i64 a, .int .i64 b, .slice A l.length cap]] w (RetB c w)
  intro hr
  by_cases h1 : k = 3
  · subst h1
    clear hr
    go_enter Tryz.func98, Tryz.ntmps98
    go_wp2_with fail
    go_ret
    exact retB (by rw [HF.out]; simp [noChB, isB, Ex.k]) ((Below.refl _ _).alloc (Nat.le_refl _) _)
  · go_enter Tryz.func98, Tryz.ntmps98
    go_wp2_with fail
    refine (hr _).mono ?_
    clear hr
    rintro e w1 ⟨rfl, B1⟩
    have B2 := ((Below.refl w.heap.size w).alloc (Nat.le_refl _) (.cells #[.int .i64 k, .string nm, .int .i64 a, .int .i64 b, .slice A l.length cap] 24)).trans (B1.mono (by simp))
    clear B1
    go_wp2
    go_ret
    exact retB (by rw [HF.out]; unfold noChB; rw [← HD.out]; show _ = (decide (k = 3) || _); simp [h1]) B2

theorem timesB_eq (a b : Int) : timesB a b = if a < 0 ∨ (a = 1 ∧ b = 1) then false else (decide (b = -1) || decide (max a 1 ≤ b)) := by
  unfold timesB
  split
  · rename_i h; rcases h with h | ⟨h1, h2⟩ <;> simp [*]
  · rename_i h
    have h1 : ¬ a < 0 := fun x => h (.inl x)
    have h2 : ¬ (a = 1 ∧ b = 1) := fun x => h (.inr x)
    have h3 : (decide (a = 1) && decide (b = 1)) = false := by simpa using h2
    simp [h1, h3]

set_option maxRecDepth 100000 in
theorem times_any (a b : Int) (w : World) :
    Calls Tryz.prog 99 #[.int .i64 a, .int .i64 b] w fun e w' => e = .returned (.bool (timesB a b)) ∧ w = w' := by
  obtain ⟨c, HF⟩ : ∃ c, Hid (c = timesB a b) := ⟨_, rfl⟩
  rw [← HF.out]
  by_cases h1 : a < 0
  · go_enter Tryz.func99, Tryz.ntmps99
    go_wp2
    go_ret
    exact ⟨ret_bool (by rw [HF.out, timesB_eq, if_pos (.inl h1)]), rfl⟩
  by_cases h2 : a = 1
  · subst h2
    by_cases h3 : b = 1
    · subst h3
      go_enter Tryz.func99, Tryz.ntmps99
      go_wp2
      go_ret
      exact ⟨ret_bool (by rw [HF.out]; decide), rfl⟩
    · have hh : timesB 1 b = (decide (b = -1) || decide (max 1 1 ≤ b)) := by rw [timesB_eq, if_neg (by omega)]
      go_enter Tryz.func99, Tryz.ntmps99
      go_wp2
      all_goals
        go_ret
        exact ⟨ret_bool (by rw [HF.out, hh]; rw [Bool.eq_iff_iff]; simp <;> omega), rfl⟩
  · have hh : Hid (timesB a b = (decide (b = -1) || decide (max a 1 ≤ b))) := by show _ = _; rw [timesB_eq, if_neg (by omega)]
    go_enter Tryz.func99, Tryz.ntmps99
    go_wp2
    all_goals
      go_ret
      exact ⟨ret_bool (by rw [HF.out, hh.out]; rw [Bool.eq_iff_iff]; simp <;> omega), rfl⟩
end Go.Proofs.YtkbileabkfccgaaGreatDoor

/- expr: slices.IndexFunc, ContainsFunc over expressions, at any function; deeper, holds. -/
namespace Go.Proofs.YtkbileabkfccgaaGreatDoor
open Go.RowKit

def idx {T : Type} (p : T → Bool) (l : List T) : Int := if l.any p then (l.findIdx p : Int) else -1
theorem idx_no {T : Type} {p : T → Bool} {l : List T} (h : ∀ j (hj : j < l.length), p l[j] = false) : idx p l = -1 := by
  unfold idx
  rw [if_neg]
  rw [Bool.not_eq_true, List.any_eq_false]
  intro x hx
  obtain ⟨j, hj, rfl⟩ := List.mem_iff_getElem.1 hx
  rw [h j hj]; simp
theorem idx_at {T : Type} {p : T → Bool} {l : List T} {k : Nat} (hk : k < l.length) (hp : p l[k] = true) (h : ∀ j (hj : j < l.length), j < k → p l[j] = false) : idx p l = k := by
  unfold idx
  rw [if_pos (List.any_eq_true.2 ⟨_, List.getElem_mem hk, hp⟩)]
  congr 1
  rw [List.findIdx_eq hk]
  exact ⟨hp, fun j hj => by simpa using h j (by omega) hj⟩
theorem idx_ge {T : Type} (p : T → Bool) (l : List T) : decide (0 ≤ idx p l) = l.any p := by
  unfold idx
  cases h : l.any p <;> simp

/-- a call of a function that has a body enters it -/
def Enters (P : Program) (f : FuncId) : Prop := ∀ (args : Array Value) (w : World), (callFunc f args).run P w = .ok (.enter f args) w
theorem enters {P : Program} {f : FuncId} {fn : Func} (hf : P.funcs[f]? = some fn) (hname : (fn.name == "runtime.NumGoroutine") = false) (hb : fn.body.isNone = false) : Enters P f := by
  intro args w
  have h1 : fn.name ≠ "runtime.NumGoroutine" := by simpa using hname
  have h2 : ¬ fn.body = none := by
    intro h; rw [h] at hb; cases hb
  simp [callFunc, hf, h1, h2]

theorem two_args (a b : Value) : (#[a] ++ #[b] : Array Value) = #[a, b] := by simp
theorem one_arg (a : Value) : (#[a] ++ #[] : Array Value) = #[a] := by simp
/-- at each expression of l, and any later world, function value K at caps answers p -/
def Asks (P : Program) (p : Ex → Bool) (K : Nat) (caps : Array Value) (B : Nat) (w : World) (l : List Ex) : Prop :=
  Enters P K ∧ ∀ e, e ∈ l → ∀ s w', Below w.heap.size w w' → Kb w' B s e.l → Calls P K (#[exV e s] ++ caps) w' (RetB (p e) w')

set_option maxRecDepth 100000 in
theorem idxF_any (p : Ex → Bool) (K : Nat) (caps : Array Value) (v : Value) (l : List Ex) (B : Nat) (w : World) (hv : Kb w B v l) (hB : B ≤ w.heap.size) (hf : Asks Tryz.prog p K caps B w l) :
    Calls Tryz.prog 124 #[v, .func (.func K) #[] caps] w fun e w' => e = .returned (.int .i64 (idx p l)) ∧ Below w.heap.size w w' := by
  obtain ⟨A, cap, rfl⟩ := hv.form
  have hm := hv.max
  unfold maxLen at hm
  go_enter Tryz.func124, Tryz.ntmps124
  go_wp2
  go_loopw [8] (fun i wr => ∃ k : Nat, k ≤ l.length ∧ i = .int .i64 k ∧ Below w.heap.size w wr ∧ Hid (∀ j (hj : j < l.length), j < k → p l[j] = false)) (fun i _ => l.length - (intOf i).toNat)
  case atStart => exact ⟨0, Nat.zero_le _, rfl, Below.refl _ _, fun j _ hj => by omega⟩
  case round =>
    obtain ⟨k, hk, rfl, hb, hall⟩ := hrel
    by_cases hlt : k < l.length
    · obtain ⟨b, off, s, rfl, hbB, hcap, hks, hc0, hc1, hc2, hc3, hc4⟩ := Kd.at (hv.below (hb.mono hB)) hlt
      have hcall := Lib.hid (hf.2 l[k] (List.getElem_mem hlt) s wr hb hks)
      have hent := hf.1 (#[exV l[k] s] ++ caps) wr
      unfold exV at hent
      have hp0 := Lib.hid (rfl : p l[k] = p l[k])
      clear hf
      go_wp2_with fail
      refine (hcall.out).mono ?_
      rintro e w1 ⟨rfl, hb1⟩
      clear hcall
      have hb2 := hb.trans (hb1.mono hb.size)
      clear hb1
      by_cases hp : p l[k] = true
      · have hfin : Hid (idx p l = k) := idx_at hlt hp hall.out
        go_wp2
        go_ret
        exact ⟨ret_int hfin.out.symm, hb2⟩
      · have hp : p l[k] = false := by simpa using hp
        have hall' : Hid (∀ j (hj : j < l.length), j < k + 1 → p l[j] = false) := by
          show ∀ j, _
          intro j hj hjk
          by_cases e : j = k
          · subst e; exact hp
          · exact hall.out j hj (by omega)
        go_wp2
        go_roundw
        case rel => exact ⟨k + 1, by omega, by go_num, hb2, hall'⟩
        case measure => simp [intOf]; omega
    · have hfin : Hid (idx p l = -1) := idx_no fun j hj => hall.out j hj (by omega)
      go_wp2
      go_ret
      exact ⟨ret_int hfin.out.symm, hb⟩

set_option maxRecDepth 100000 in
theorem contF_any (p : Ex → Bool) (K : Nat) (caps : Array Value) (v : Value) (l : List Ex) (B : Nat) (w : World) (hv : Kb w B v l) (hB : B ≤ w.heap.size) (hf : Asks Tryz.prog p K caps B w l) :
    Calls Tryz.prog 90 #[v, .func (.func K) #[] caps] w (RetB (l.any p) w) := by
  obtain ⟨A, cap, rfl⟩ := hv.form
  have hi := Lib.hid (idxF_any p K caps _ l B w hv hB hf)
  have hfin := Lib.hid (idx_ge p l)
  clear hf
  go_enter Tryz.func90, Tryz.ntmps90
  go_wp2_with fail
  refine (hi.out).mono ?_
  rintro e w1 ⟨rfl, hb1⟩
  clear hi
  go_wp2
  go_ret
  exact retB hfin.out hb1

set_option maxRecDepth 100000 in
theorem deeper1_any (d : Bool) (n : Nat) (k : Int) (nm : ByteArray) (a b : Int) (s : Value) (p : Addr) (w : World) (hp : w.cell? p = some (.int .i64 ((n : Int) + 1))) (hpb : p.block < w.heap.size) (hn : n ≤ 1000000)
    (hq : ∀ w', Below w.heap.size w w' → Calls Tryz.prog 51 #[.agg #[.int .i64 k, .string nm, .int .i64 a, .int .i64 b, s], .int .i64 n] w' (RetB d w')) :
    Calls Tryz.prog 91 #[.agg #[.int .i64 k, .string nm, .int .i64 a, .int .i64 b, s], .pointer (some p)] w (RetB d w) := by
  have B2 : Below w.heap.size w (w.alloc (.cells #[.int .i64 k, .string nm, .int .i64 a, .int .i64 b, s] 24)) := (Below.refl _ _).alloc (Nat.le_refl _) _
  have HQ := Lib.hid (hq _ B2)
  clear hq
  have hi : (n : Int) + 1 - 1 = n := by omega
  go_enter Tryz.func91, Tryz.ntmps91
  go_wp2_with fail
  refine (HQ.out).mono ?_
  clear HQ
  rintro e w1 ⟨rfl, hb1⟩
  have B3 := B2.trans (hb1.mono (by simp))
  clear hb1 B2
  go_wp2
  go_ret
  exact retB rfl B3

theorem entD1 : Enters Tryz.prog 91 := enters Tryz.func91 (by kernel_rfl) (by kernel_rfl)

set_option maxRecDepth 100000 in
theorem deeper0_any (k : Int) (nm : ByteArray) (a b : Int) (s : Value) (w : World) :
    Calls Tryz.prog 51 #[.agg #[.int .i64 k, .string nm, .int .i64 a, .int .i64 b, s], .int .i64 0] w (RetB true w) := by
  go_enter Tryz.func51, Tryz.ntmps51
  go_wp2_with fail
  go_ret
  exact retB rfl (((Below.refl _ _).alloc (Nat.le_refl _) _).alloc (by simp) _)

set_option maxRecDepth 100000 in
theorem deeperS_any (c : Bool) (m : Int) (k : Int) (nm : ByteArray) (a b : Int) (s : Value) (w : World) (hm : 0 < m)
    (hc : ∀ w1, Below w.heap.size w w1 → w1.cell? ⟨w.heap.size + 1, 0, none⟩ = some (.int .i64 m) → w.heap.size + 2 ≤ w1.heap.size →
      Calls Tryz.prog 90 #[s, .func (.func 91) #[] #[.pointer (some ⟨w.heap.size + 1, 0, none⟩)]] w1 (RetB c w1)) :
    Calls Tryz.prog 51 #[.agg #[.int .i64 k, .string nm, .int .i64 a, .int .i64 b, s], .int .i64 m] w (RetB c w) := by
  have B1 : Below w.heap.size w ((w.alloc (.cells #[.int .i64 k, .string nm, .int .i64 a, .int .i64 b, s] 24)).alloc (.cells #[.int .i64 m] 3)) := ((Below.refl _ _).alloc (Nat.le_refl _) _).alloc (by simp) _
  have hcont := Lib.hid (hc _ B1 (by go_simp) (by simp))
  have hm0 : (m == 0) = false := by simp; omega
  clear hc
  go_enter Tryz.func51, Tryz.ntmps51
  go_wp2_with fail
  refine (hcont.out).mono ?_
  clear hcont
  rintro e w1 ⟨rfl, hb1⟩
  have B3 := B1.trans (hb1.mono B1.size)
  clear hb1 B1
  go_wp2
  go_ret
  exact retB rfl B3

/-- deeper -/
theorem deeper_any (n : Nat) : ∀ (e : Ex) (s : Value) (B : Nat) (w : World), Kb w B s e.l → B ≤ w.heap.size → n ≤ 1000 →
    Calls Tryz.prog 51 #[exV e s, .int .i64 n] w (RetB (deepN n e) w) := by
  induction n with
  | zero => intro e s B w _ _ _; exact deeper0_any _ _ _ _ _ _
  | succ n ih =>
    intro e s B w hs hB hn
    refine deeperS_any (e.l.any (deepN n)) _ _ _ _ _ _ _ (by omega) fun w1 hb1 hp hz => ?_
    refine contF_any (deepN n) _ _ s e.l B w1 (hs.below (hb1.mono hB)) (by omega) ⟨entD1, fun x _ s' w' hb hk => ?_⟩
    rw [two_args]
    have hp1 : w'.cell? ⟨w.heap.size + 1, 0, none⟩ = some (.int .i64 ((n : Int) + 1)) := (hb.cell (p := ⟨w.heap.size + 1, 0, none⟩) (by show w.heap.size + 1 < _; omega)).trans hp
    have hsz := hb.size
    exact deeper1_any _ n _ _ _ _ s' _ w' hp1 (by show w.heap.size + 1 < _; omega) (by omega) fun w2 hb2 => ih x s' B w2 (hk.below (hb2.mono (by omega))) (by have := hb2.size; omega) (by omega)

/-! ## holds -/
set_option maxRecDepth 100000 in
theorem holds1_any (d : Bool) (K : Nat) (k : Int) (nm : ByteArray) (a b : Int) (s : Value) (p : Addr) (w : World) (hp : w.cell? p = some (.func (.func K) #[] #[])) (hpb : p.block < w.heap.size)
    (hq : ∀ w', Below w.heap.size w w' → Calls Tryz.prog 52 #[.agg #[.int .i64 k, .string nm, .int .i64 a, .int .i64 b, s], .func (.func K) #[] #[]] w' (RetB d w')) :
    Calls Tryz.prog 92 #[.agg #[.int .i64 k, .string nm, .int .i64 a, .int .i64 b, s], .pointer (some p)] w (RetB d w) := by
  have B2 : Below w.heap.size w (w.alloc (.cells #[.int .i64 k, .string nm, .int .i64 a, .int .i64 b, s] 24)) := (Below.refl _ _).alloc (Nat.le_refl _) _
  have HQ := Lib.hid (hq _ B2)
  clear hq
  go_enter Tryz.func92, Tryz.ntmps92
  go_wp2_with fail
  refine (HQ.out).mono ?_
  clear HQ
  rintro e w1 ⟨rfl, hb1⟩
  have B3 := B2.trans (hb1.mono (by simp))
  clear hb1 B2
  go_wp2
  go_ret
  exact retB rfl B3

theorem entH1 : Enters Tryz.prog 92 := enters Tryz.func92 (by kernel_rfl) (by kernel_rfl)

set_option maxRecDepth 100000 in
theorem holds_any (p : Ex → Bool) (K : Nat) (hK : Enters Tryz.prog K) (hp : ∀ (e : Ex) (s : Value) (B : Nat) (w : World), Kb w B s e.l → B ≤ w.heap.size → Calls Tryz.prog K #[exV e s] w (RetB (p e) w)) (e : Ex) :
    ∀ (s : Value) (B : Nat) (w : World), Kb w B s e.l → B ≤ w.heap.size → Calls Tryz.prog 52 #[exV e s, .func (.func K) #[] #[]] w (RetB (e.anyE p) w) := by
  induction e using Ex.ind with
  | h k nm a b l ih =>
    intro s B w hs hB
    have B1 : Below w.heap.size w ((w.alloc (.cells #[.int .i64 k, .string nm, .int .i64 a, .int .i64 b, s] 24)).alloc (.cells #[.func (.func K) #[] #[]] 64)) := ((Below.refl _ _).alloc (Nat.le_refl _) _).alloc (by simp) _
    have hs1 : Kb _ B s l := Kb.below hs (B1.mono hB)
    have hcall := Lib.hid (hp (.mk k nm a b l) s B _ hs1 (Nat.le_trans hB B1.size))
    obtain ⟨c, HC⟩ : ∃ c, Hid (c = p (.mk k nm a b l)) := ⟨_, rfl⟩
    obtain ⟨d, HD⟩ : ∃ d, Hid (d = l.any (Ex.anyE p)) := ⟨_, rfl⟩
    rw [← HC.out] at hcall
    have hall : (Ex.mk k nm a b l).anyE p = (c || d) := by rw [anyE_eq, HC.out, HD.out]; rfl
    rw [hall]
    clear hall
    show Calls Tryz.prog 52 #[.agg #[.int .i64 k, .string nm, .int .i64 a, .int .i64 b, s], .func (.func K) #[] #[]] w (RetB (c || d) w)
    have hent : ∀ (args : Array Value) (w : World), (callFunc K args).run Tryz.prog w = .ok (.enter K args) w := hK
    have hcont : ∀ w1, Below (w.heap.size + 2) ((w.alloc (.cells #[.int .i64 k, .string nm, .int .i64 a, .int .i64 b, s] 24)).alloc (.cells #[.func (.func K) #[] #[]] 64)) w1 →
        Calls Tryz.prog 90 #[s, .func (.func 92) #[] #[.pointer (some ⟨w.heap.size + 1, 0, none⟩)]] w1 (RetB (l.any (Ex.anyE p)) w1) := fun w1 hb1 =>
      contF_any (Ex.anyE p) 92 #[.pointer (some ⟨w.heap.size + 1, 0, none⟩)] s l B _ (hs1.below (hb1.mono (by omega))) (by have := hb1.size; simp at this; omega) ⟨entH1, fun e he s' w' hb hk => by
        obtain ⟨k', nm', a', b', l'⟩ := e
        have hsz : w.heap.size + 2 ≤ w1.heap.size := by have := hb1.size; simpa using this
        have hsz2 := hb.size
        have hp1 : w'.cell? ⟨w.heap.size + 1, 0, none⟩ = some (.func (.func K) #[] #[]) := by
          have h1 := hb.cell (p := ⟨w.heap.size + 1, 0, none⟩) (by show w.heap.size + 1 < _; omega)
          have h2 := hb1.cell (p := ⟨w.heap.size + 1, 0, none⟩) (by show w.heap.size + 1 < _; omega)
          rw [h1, h2]; go_simp
        rw [two_args]
        exact holds1_any _ K k' nm' a' b' s' _ w' hp1 (by show w.heap.size + 1 < _; omega) fun w2 hb2 => ih _ he s' B w2 (Kb.below hk (hb2.mono (by omega))) (by have := hb2.size; omega)⟩
    rw [← HD.out] at hcont
    have HCT := Lib.hid hcont
    clear hcont ih hp hs hs1
    cases c
    · go_enter Tryz.func52, Tryz.ntmps52
      go_wp2_with fail
      refine (hcall.out).mono ?_
      rintro e w1 ⟨rfl, hb1⟩
      have HQ := Lib.hid (HCT.out w1 (by simpa using hb1))
      have B2 := B1.trans (hb1.mono B1.size)
      obtain ⟨hc, hf⟩ := bcell hb1
      have hz : w.heap.size + 2 ≤ w1.heap.size := by have := hb1.size; simpa using this
      clear hcall HCT hb1 B1 hent
      go_wp2_with fail
      refine (HQ.out).mono ?_
      rintro e w2 ⟨rfl, hb2⟩
      have B3 := B2.trans (hb2.mono B2.size)
      clear HQ hb2 B2 hc hf
      go_wp2
      go_ret
      exact retB rfl B3
    · clear HCT
      go_enter Tryz.func52, Tryz.ntmps52
      go_wp2_with fail
      refine (hcall.out).mono ?_
      rintro e w1 ⟨rfl, hb1⟩
      have B2 := B1.trans (hb1.mono B1.size)
      clear hcall hb1 B1 hent
      go_wp2
      go_ret
      exact retB rfl B2
end Go.Proofs.YtkbileabkfccgaaGreatDoor

/- expr: Size, Check. -/
namespace Go.Proofs.YtkbileabkfccgaaGreatDoor
open Go.RowKit

theorem ret_i {a b : Int} {w w' : World} (h : a = b) (hb : Below w.heap.size w w') : Ending.returned (.int .i64 a) = .returned (.int .i64 b) ∧ Below w.heap.size w w' := ⟨by rw [h], hb⟩

/-! ## the size -/
/-- what can be reckoned with: no number of it is wild -/
def tameE (e : Ex) : Prop := e.anyE wildB = false
theorem tame_kid {e : Ex} (h : tameE e) : ∀ x ∈ e.l, tameE x := by
  unfold tameE at h
  rw [anyE_eq, Bool.or_eq_false_iff, List.any_eq_false] at h
  intro x hx
  simpa [tameE] using h.2 x hx
theorem tame_self {k : Int} {nm : ByteArray} {a b : Int} {l : List Ex} (h : tameE (.mk k nm a b l)) : -1 ≤ a ∧ -1 ≤ b ∧ a ≤ 1048576 ∧ b ≤ 1048576 := by
  unfold tameE at h
  rw [anyE_eq, Bool.or_eq_false_iff] at h
  have h1 : (decide (min a b < -1) || decide (1048576 < max a b)) = false := h.1
  simp at h1
  omega
theorem sizeL_bd (l : List Ex) (h : ∀ e ∈ l, 0 ≤ e.sizeE) : ∀ s : Int, 0 ≤ s → s ≤ exMost → 0 ≤ Ex.sizeL s l ∧ Ex.sizeL s l ≤ exMost := by
  induction l with
  | nil => intro s h0 h1; exact ⟨by rw [Ex.sizeL]; exact h0, by rw [Ex.sizeL]; exact h1⟩
  | cons e l ih =>
    intro s h0 h1
    rw [Ex.sizeL]
    have := h e (by simp)
    unfold exMost at *
    exact ih (fun x hx => h x (by simp [hx])) _ (by omega) (by omega)
theorem mul_bd {x y : Int} (h0 : 0 ≤ x) (h1 : x ≤ 1073741824) (h2 : 0 ≤ y) (h3 : y ≤ 1048577) : 0 ≤ x * y ∧ x * y ≤ 1125900980584448 := by
  constructor
  · exact Int.mul_nonneg h0 h2
  · calc x * y ≤ 1073741824 * y := Int.mul_le_mul_of_nonneg_right h1 h2
      _ ≤ 1073741824 * 1048577 := Int.mul_le_mul_of_nonneg_left h3 (by omega)
      _ = 1125900980584448 := by decide
theorem size_bd (e : Ex) : tameE e → 0 ≤ e.sizeE ∧ e.sizeE ≤ exMost := by
  induction e using Ex.ind with
  | h k nm a b l ih =>
    intro ht
    obtain ⟨ha, hb, ha2, hb2⟩ := tame_self ht
    have hL := sizeL_bd l (fun e he => (ih e he (tame_kid ht e he)).1) 0 (by omega) (by unfold exMost; omega)
    rw [Ex.sizeE]
    unfold exMost at *
    split
    · omega
    · split
      · exact hL
      · split
        · have := mul_bd hL.1 hL.2 (show 0 ≤ a + 1 by omega) (by omega)
          omega
        · have := mul_bd hL.1 hL.2 (show 0 ≤ b by omega) (by omega)
          omega
theorem sizeL_app : ∀ (l m : List Ex) (s : Int), Ex.sizeL s (l ++ m) = Ex.sizeL (Ex.sizeL s l) m
  | [], m, s => by rw [List.nil_append, Ex.sizeL]
  | e :: l, m, s => by rw [List.cons_append, Ex.sizeL, Ex.sizeL, sizeL_app l m]
theorem sizeL_take (l : List Ex) (k : Nat) (hk : k < l.length) : Ex.sizeL 0 (l.take (k + 1)) = min (Ex.sizeL 0 (l.take k) + l[k].sizeE) exMost := by
  rw [List.take_succ_eq_append_getElem hk, sizeL_app]
  rw [Ex.sizeL, Ex.sizeL]

set_option maxRecDepth 100000 in
set_option maxHeartbeats 800000 in
theorem sizeS_any (k : Int) (nm : ByteArray) (a b : Int) (l : List Ex) (s : Value) (B : Nat) (w : World) (hs : Kb w B s l) (hB : B ≤ w.heap.size) (ht : tameE (.mk k nm a b l))
    (ih : ∀ e ∈ l, ∀ (s : Value) (w : World), Kb w B s e.l → B ≤ w.heap.size → Calls Tryz.prog 94 #[exV e s] w fun x w' => x = .returned (.int .i64 e.sizeE) ∧ Below w.heap.size w w') :
    Calls Tryz.prog 94 #[.agg #[.int .i64 k, .string nm, .int .i64 a, .int .i64 b, s]] w fun x w' => x = .returned (.int .i64 (Ex.mk k nm a b l).sizeE) ∧ Below w.heap.size w w' := by
  obtain ⟨c, HC⟩ : ∃ c, Hid (c = (Ex.mk k nm a b l).sizeE) := ⟨_, rfl⟩
  rw [← HC.out]
  have B1 : Below w.heap.size w (w.alloc (.cells #[.int .i64 k, .string nm, .int .i64 a, .int .i64 b, s] 24)) := (Below.refl _ _).alloc (Nat.le_refl _) _
  by_cases h1 : k = 1
  · subst h1
    clear ih
    have hk1 : ((1 : Int) == 1) = true := rfl
    go_enter Tryz.func94, Tryz.ntmps94
    go_wp2_with fail
    go_ret
    exact ret_i (by rw [HC.out, Ex.sizeE, if_pos rfl]) B1
  have hk1 : (k == 1) = false := by simpa using h1
  obtain ⟨A, cap, rfl⟩ := hs.form
  have hm := hs.max
  unfold maxLen at hm
  have hkid := fun e he => size_bd e (tame_kid ht e he)
  have hs1 := hs.below (B1.mono hB)
  obtain ⟨ha, hb, ha2, hb2⟩ := tame_self ht
  have hLL := sizeL_bd l (fun e he => (hkid e he).1) 0 (by omega) (by unfold exMost; omega)
  have HL := Lib.hid hLL
  have HK := Lib.hid hkid
  have HI := Lib.hid ih
  clear ih hkid hLL hs h1
  have hW : Hid ((w.alloc (.cells #[.int .i64 k, .string nm, .int .i64 a, .int .i64 b, .slice A l.length cap] 24)).heap.size = w.heap.size + 1) := by show _ = _; simp
  obtain ⟨W0, hW0⟩ : ∃ W0 : World, Hid (W0 = w.alloc (.cells #[.int .i64 k, .string nm, .int .i64 a, .int .i64 b, .slice A l.length cap] 24)) := ⟨_, rfl⟩
  go_enter Tryz.func94, Tryz.ntmps94
  go_wp2_with fail
  rw [← hW0.out] at hs1 B1 hW ⊢
  have hself : ∀ j u, (#[Value.int .i64 k, .string nm, .int .i64 a, .int .i64 b, .slice A l.length cap] : Array Value)[j]? = some u → W0.cell? ⟨w.heap.size, j, none⟩ = some u := by
    intro j u hu; rw [hW0.out, cell_of_row _ w.heap.size j _ _ _ (heap_alloc_new w _)]; exact hu
  have HS := Lib.hid hself
  clear hself
  go_loopw [3, 12] (fun t i wr => ∃ n : Nat, n ≤ l.length ∧ i = .int .i64 n ∧ t = .int .i64 (Ex.sizeL 0 (l.take n)) ∧ Hid (Below W0.heap.size W0 wr)) (fun _ i _ => l.length - (intOf i).toNat)
  case atStart => exact ⟨0, Nat.zero_le _, rfl, by rw [List.take_zero, Ex.sizeL], Below.refl _ _⟩
  case round =>
    obtain ⟨n, hn, rfl, rfl, hbw⟩ := hrel
    by_cases hlt : n < l.length
    · obtain ⟨bb, off, s', rfl, hbB, hcap, hks, hc0, hc1, hc2, hc3, hc4⟩ := Kd.at (hs1.below (hbw.out.mono (by have := B1.size; omega))) hlt
      have hsz := hbw.out.size
      have hszW := hW.out
      have hsum := sizeL_bd (l.take n) (fun e he => (HK.out e (List.mem_of_mem_take he)).1) 0 (by omega) (by unfold exMost; omega)
      have hone := HK.out l[n] (List.getElem_mem hlt)
      unfold exMost at hsum hone
      have hadd : Hid (Ex.sizeL 0 (l.take (n + 1)) = min (Ex.sizeL 0 (l.take n) + l[n].sizeE) 1073741824) := sizeL_take l n hlt
      obtain ⟨A2, cap2, rfl⟩ := hks.form
      have hcall := Lib.hid (HI.out l[n] (List.getElem_mem hlt) _ (wr.alloc (.cells #[.int .i64 l[n].k, .string l[n].n, .int .i64 l[n].a, .int .i64 l[n].b, .slice A2 l[n].l.length cap2] 24)) (Kb.below hks ((Below.refl _ _).alloc (by omega) _)) (by simp; omega))
      generalize Ex.sizeL 0 (List.take n l) = sn at *
      generalize Ex.sizeE l[n] = en at *
      obtain ⟨hsum1, hsum2⟩ := hsum
      obtain ⟨hone1, hone2⟩ := hone
      go_wp2_with fail
      refine (hcall.out).mono ?_
      rintro e w1 ⟨rfl, hb1⟩
      have hbf : Hid (Below W0.heap.size W0 w1) := (hbw.out.alloc (by omega) _).trans (hb1.mono (by simp; omega))
      clear hcall hb1 hbw
      go_wp2_with fail
      all_goals
        go_roundw
        case rel => exact ⟨n + 1, by omega, by go_num, by rw [hadd.out]; go_num, hbf⟩
        case measure => simp [intOf]; omega
    · obtain rfl : n = l.length := by omega
      have hszW := hW.out
      have hcw : ∀ j u, (#[Value.int .i64 k, .string nm, .int .i64 a, .int .i64 b, .slice A l.length cap] : Array Value)[j]? = some u → wr.cell? ⟨w.heap.size, j, none⟩ = some u := fun j u hu => (hbw.out.cell (p := ⟨w.heap.size, j, none⟩) (by show w.heap.size < _; omega)).trans (HS.out j u hu)
      have g0 := hcw 0 _ rfl
      have g2 := hcw 2 _ rfl
      have g3 := hcw 3 _ rfl
      have hfin : Hid (Ex.sizeL 0 (l.take l.length) = Ex.sizeL 0 l) := by show _ = _; rw [List.take_length]
      have B2 := B1.trans (hbw.out.mono B1.size)
      rw [hfin.out]
      clear hcw hbw HI HK hfin hlt hs1
      have hL := HL.out
      have hE : Hid (c = if k ≠ 4 then Ex.sizeL 0 l else if b = -1 then min (Ex.sizeL 0 l * (a + 1)) 1073741824 else min (Ex.sizeL 0 l * b) 1073741824) := by
        show _ = _; rw [HC.out, Ex.sizeE, if_neg (by simpa using hk1)]; rfl
      unfold exMost at hL
      generalize Ex.sizeL 0 l = sl at *
      obtain ⟨hL1, hL2⟩ := hL
      by_cases h4 : k = 4
      · have hk4 : (k != 4) = false := by simpa using h4
        have hE2 : Hid (c = if b = -1 then min (sl * (a + 1)) 1073741824 else min (sl * b) 1073741824) := by show _ = _; rw [hE.out, if_neg (by simpa using h4)]
        clear hE h4
        by_cases hb1 : b = -1
        · have hkb : (b == -1) = true := by simpa using hb1
          have hE3 : Hid (c = min (sl * (a + 1)) 1073741824) := by show _ = _; rw [hE2.out, if_pos hb1]
          obtain ⟨mb0, mb1⟩ := mul_bd hL1 hL2 (show 0 ≤ a + 1 by omega) (by omega)
          have hw1 : IntKind.i64.wrap (sl * (a + 1)) = sl * (a + 1) := IntWalk.i64_in _ (by omega)
          clear hE2 hb1
          go_wp2_with fail
          all_goals
            go_ret
            exact ret_i (by rw [hE3.out]; omega) B2
        · have hkb : (b == -1) = false := by simpa using hb1
          have hE3 : Hid (c = min (sl * b) 1073741824) := by show _ = _; rw [hE2.out, if_neg hb1]
          obtain ⟨mb0, mb1⟩ := mul_bd hL1 hL2 (show 0 ≤ b by omega) (by omega)
          have hw1 : IntKind.i64.wrap (sl * b) = sl * b := IntWalk.i64_in _ (by omega)
          clear hE2 hb1
          go_wp2_with fail
          all_goals
            go_ret
            exact ret_i (by rw [hE3.out]; omega) B2
      · have hk4 : (k != 4) = true := by simpa using h4
        have hE2 : Hid (c = sl) := by show _ = _; rw [hE.out, if_pos h4]
        clear hE h4
        go_wp2_with fail
        go_ret
        exact ret_i hE2.out.symm B2

/-- size -/
theorem size_any (e : Ex) : ∀ (s : Value) (B : Nat) (w : World), Kb w B s e.l → B ≤ w.heap.size → tameE e →
    Calls Tryz.prog 94 #[exV e s] w fun x w' => x = .returned (.int .i64 e.sizeE) ∧ Below w.heap.size w w' := by
  induction e using Ex.ind with
  | h k nm a b l ih =>
    intro s B w hs hB ht
    exact sizeS_any k nm a b l s B w hs hB ht fun e he s' w' hk hB' => ih e he s' B w' hk hB' (tame_kid ht e he)

theorem entWild : Enters Tryz.prog 93 := enters Tryz.func93 (by kernel_rfl) (by kernel_rfl)
theorem entLong : Enters Tryz.prog 53 := enters Tryz.func53 (by kernel_rfl) (by kernel_rfl)
theorem entWrong : Enters Tryz.prog 55 := enters Tryz.func55 (by kernel_rfl) (by kernel_rfl)
theorem entRow : Enters Tryz.prog 97 := enters Tryz.func97 (by kernel_rfl) (by kernel_rfl)
theorem entNoCh : Enters Tryz.prog 98 := enters Tryz.func98 (by kernel_rfl) (by kernel_rfl)
theorem wildH_any (e : Ex) (s : Value) (B : Nat) (w : World) (hs : Kb w B s e.l) (hB : B ≤ w.heap.size) : Calls Tryz.prog 52 #[exV e s, .func (.func 93) #[] #[]] w (RetB (e.anyE wildB) w) :=
  holds_any wildB _ entWild (fun e s B w _ _ => by cases e; exact wild_any _ _ _ _ _ _ _) e s B w hs hB
theorem longH_any (e : Ex) (s : Value) (B : Nat) (w : World) (hs : Kb w B s e.l) (hB : B ≤ w.heap.size) : Calls Tryz.prog 52 #[exV e s, .func (.func 53) #[] #[]] w (RetB (e.anyE longE) w) :=
  holds_any longE _ entLong (fun e s B w _ _ => by cases e; exact longE_any _ _ _ _ _ _ _) e s B w hs hB

/-- what boxes an expression: the world behind it -/
theorem box_below (w : World) (o : Obj) : Below w.heap.size w (w.alloc o) := (Below.refl _ _).alloc (Nat.le_refl _) _

set_option maxRecDepth 100000 in
/-- Size -/
theorem Size_any (e : Ex) (s : Value) (B : Nat) (w : World) (hs : Kb w B s e.l) (hB : B ≤ w.heap.size) :
    Calls Tryz.prog 54 #[exV e s] w fun x w' => x = .returned (.int .i64 (sizeN e)) ∧ Below w.heap.size w w' := by
  obtain ⟨c, HC⟩ : ∃ c, Hid (c = sizeN e) := ⟨_, rfl⟩
  rw [← HC.out]
  obtain ⟨A, cap, rfl⟩ := hs.form
  obtain ⟨w0, rfl⟩ : ∃ w0 : World, w0 = w := ⟨_, rfl⟩
  have B1 := box_below w0 (.cells #[.int .i64 e.k, .string e.n, .int .i64 e.a, .int .i64 e.b, .slice A e.l.length cap] 24)
  have hs1 := hs.below (B1.mono hB)
  have hd := Lib.hid (deeper_any 64 e _ B _ hs1 (Nat.le_trans hB B1.size) (by omega))
  have hw := fun w1 (hb : Below (w0.heap.size + 1) (w0.alloc (.cells #[.int .i64 e.k, .string e.n, .int .i64 e.a, .int .i64 e.b, .slice A e.l.length cap] 24)) w1) =>
    wildH_any e _ B w1 (hs1.below (hb.mono (by omega))) (by have := hb.size; simp at this; omega)
  have hz := fun w1 (hb : Below (w0.heap.size + 1) (w0.alloc (.cells #[.int .i64 e.k, .string e.n, .int .i64 e.a, .int .i64 e.b, .slice A e.l.length cap] 24)) w1) ht =>
    size_any e _ B w1 (hs1.below (hb.mono (by omega))) (by have := hb.size; simp at this; omega) ht
  have HW := Lib.hid hw
  have HZ := Lib.hid hz
  clear hw hz hs1 hs
  obtain ⟨d, HD⟩ : ∃ d, Hid (d = deepN 64 e) := ⟨_, rfl⟩
  rw [← HD.out] at hd
  revert hd
  unfold exV
  intro hd
  cases d
  · go_enter Tryz.func54, Tryz.ntmps54
    go_wp2_with fail
    refine (hd.out).mono ?_
    rintro x w1 ⟨rfl, hb1⟩
    clear hd
    have hb1' : Below (w0.heap.size + 1) (w0.alloc (.cells #[.int .i64 e.k, .string e.n, .int .i64 e.a, .int .i64 e.b, .slice A e.l.length cap] 24)) w1 := by simpa using hb1
    obtain ⟨hc, hf⟩ := bcell hb1
    have hq := Lib.hid (HW.out w1 hb1')
    unfold exV at hq
    obtain ⟨g, HG⟩ : ∃ g, Hid (g = e.anyE wildB) := ⟨_, rfl⟩
    rw [← HG.out] at hq
    have hz1 : w0.heap.size + 1 ≤ w1.heap.size := by have := hb1'.size; simpa using this
    have HB1 := Lib.hid hb1'
    clear hb1 hb1' HW
    go_wp2_with fail
    refine (hq.out).mono ?_
    rintro x w2 ⟨rfl, hb2⟩
    clear hq
    have HB2 := Lib.hid (HB1.out.trans (hb2.mono hz1))
    have hz2 := hb2.size
    clear hc hf hb2
    obtain ⟨hc, hf⟩ := bcell HB2.out
    cases g
    · have hq := Lib.hid (HZ.out w2 HB2.out HG.out.symm)
      unfold exV at hq
      have hlt : w0.heap.size < w0.heap.size + 1 := by omega
      go_wp2_with fail
      refine (hq.out).mono ?_
      rintro x w3 ⟨rfl, hb3⟩
      clear hq hc hf
      go_wp2_with fail
      go_ret
      exact ret_i (by rw [HC.out]; unfold sizeN; rw [← HD.out, ← HG.out]; rfl) (B1.trans ((HB2.out.mono (by omega)).trans (hb3.mono (by omega))))
    · go_wp2_with fail
      go_ret
      exact ret_i (by rw [HC.out]; unfold sizeN; rw [← HD.out, ← HG.out]; rfl) (B1.trans (HB2.out.mono (by omega)))
  · clear HW HZ
    go_enter Tryz.func54, Tryz.ntmps54
    go_wp2_with fail
    refine (hd.out).mono ?_
    rintro x w1 ⟨rfl, hb1⟩
    clear hd
    go_wp2_with fail
    go_ret
    exact ret_i (by rw [HC.out]; unfold sizeN; rw [← HD.out]; rfl) (B1.trans (hb1.mono (by simp)))
end Go.Proofs.YtkbileabkfccgaaGreatDoor
