/- expr: what is asked of one expression. -/
import Derived.Test.YtfbcafapnagjfaaDoorExT
import Derived.Test.YtfbcafapnagjfaaDoorNm
namespace Go.Proofs.YtfbcafapnagjfaaDoor
open Go.RowKit

/-- a bool is handed back; what was there is as it was -/
def RetB (c : Bool) (w : World) (e : Ending) (w' : World) : Prop := e = .returned (.bool c) ∧ Below w.heap.size w w'
theorem retB {c d : Bool} {w w' : World} (h : c = d) (hb : Below w.heap.size w w') : RetB d w (.returned (.bool c)) w' := ⟨by rw [h], hb⟩
theorem sz_str (s : ByteArray) : (s.size = 0) = (s.toList = []) := by rw [empty_iff]

set_option maxRecDepth 100000 in
theorem longE_any (k : Int) (nm : ByteArray) (a b : Int) (l : List Ex) (s : Value) (w : World) :
    Calls Tryd.prog 16 #[exV (.mk k nm a b l) s] w (RetB (longE (.mk k nm a b l)) w) := by
  obtain ⟨c, HF⟩ : ∃ c, Hid (c = longE (.mk k nm a b l)) := ⟨_, rfl⟩
  rw [← HF.out]
  show Calls Tryd.prog 16 #[.agg #[.int .i64 k, .string nm, .int .i64 a, .int .i64 b, s]] w (RetB c w)
  go_enter Tryd.func16, Tryd.ntmps16
  go_wp2
  all_goals
    go_ret
    exact retB (by rw [HF.out]; show _ = (decide (16 < nm.size) || decide (16 < a) || decide (16 < b)); rw [Bool.eq_iff_iff]; simp <;> omega) ((Below.refl _ _).alloc (Nat.le_refl _) _)

set_option maxRecDepth 100000 in
theorem wild_any (k : Int) (nm : ByteArray) (a b : Int) (l : List Ex) (s : Value) (w : World) :
    Calls Tryd.prog 27 #[exV (.mk k nm a b l) s] w (RetB (wildB (.mk k nm a b l)) w) := by
  obtain ⟨c, HF⟩ : ∃ c, Hid (c = wildB (.mk k nm a b l)) := ⟨_, rfl⟩
  rw [← HF.out]
  show Calls Tryd.prog 27 #[.agg #[.int .i64 k, .string nm, .int .i64 a, .int .i64 b, s]] w (RetB c w)
  go_enter Tryd.func27, Tryd.ntmps27
  go_wp2
  all_goals
    go_ret
    exact retB (by rw [HF.out]; show _ = (decide (min a b < -1) || decide (1048576 < max a b)); rw [Bool.eq_iff_iff]; simp <;> omega) ((Below.refl _ _).alloc (Nat.le_refl _) _)

set_option maxRecDepth 100000 in
theorem bare_any (k : Int) (nm : ByteArray) (a b : Int) (l : List Ex) (s : Value) (w : World) :
    Calls Tryd.prog 30 #[exV (.mk k nm a b l) s] w (RetB (bareB (.mk k nm a b l)) w) := by
  obtain ⟨c, HF⟩ : ∃ c, Hid (c = bareB (.mk k nm a b l)) := ⟨_, rfl⟩
  rw [← HF.out]
  show Calls Tryd.prog 30 #[.agg #[.int .i64 k, .string nm, .int .i64 a, .int .i64 b, s]] w (RetB c w)
  go_enter Tryd.func30, Tryd.ntmps30
  go_wp2
  all_goals
    go_ret
    exact retB (by rw [HF.out]; show _ = (decide (a = 0) && decide (b = 0)); rw [Bool.eq_iff_iff]; simp <;> omega) ((Below.refl _ _).alloc (Nat.le_refl _) _)

set_option maxRecDepth 100000 in
theorem row_any (k : Int) (nm : ByteArray) (a b : Int) (l : List Ex) (s : Value) (w : World) :
    Calls Tryd.prog 31 #[exV (.mk k nm a b l) s] w (RetB (isB 2 (.mk k nm a b l)) w) := by
  obtain ⟨c, HF⟩ : ∃ c, Hid (c = isB 2 (.mk k nm a b l)) := ⟨_, rfl⟩
  rw [← HF.out]
  show Calls Tryd.prog 31 #[.agg #[.int .i64 k, .string nm, .int .i64 a, .int .i64 b, s]] w (RetB c w)
  go_enter Tryd.func31, Tryd.ntmps31
  go_wp2
  all_goals
    go_ret
    exact retB (by rw [HF.out]; rfl) ((Below.refl _ _).alloc (Nat.le_refl _) _)

set_option maxRecDepth 100000 in
theorem nothing_any (k : Int) (nm : ByteArray) (a b : Int) (l : List Ex) (A : Option Addr) (cap : Nat) (w : World) :
    Calls Tryd.prog 34 #[exV (.mk k nm a b l) (.slice A l.length cap)] w (RetB (nilB (.mk k nm a b l)) w) := by
  obtain ⟨c, HF⟩ : ∃ c, Hid (c = nilB (.mk k nm a b l)) := ⟨_, rfl⟩
  obtain ⟨d, HD⟩ : ∃ d, Hid (d = isB 2 (.mk k nm a b l)) := ⟨_, rfl⟩
  have hr := fun w => row_any k nm a b l (.slice A l.length cap) w
  rw [← HD.out] at hr
  rw [← HF.out]
  revert hr
  show (∀ w, Calls Tryd.prog 31 #[.agg #[.int .i64 k, .string nm, .int .i64 a, .int .i64 b, .slice A l.length cap]] w (RetB d w)) → Calls Tryd.prog 34 #[.agg #[.int .i64 k, .string nm, .int .i64 a, .int .i64 b, .slice A l.length cap]] w (RetB c w)
  intro hr
  cases d
  all_goals
    go_enter Tryd.func34, Tryd.ntmps34
    go_wp2_with fail
    refine (hr _).mono ?_
    clear hr
    rintro e w1 ⟨rfl, B1⟩
    have B2 := ((Below.refl w.heap.size w).alloc (Nat.le_refl _) (.cells #[.int .i64 k, .string nm, .int .i64 a, .int .i64 b, .slice A l.length cap] 24)).trans (B1.mono (by simp))
    obtain ⟨hc, hf⟩ := bcell B1
    clear B1
    go_wp2
    go_ret
    exact retB (by rw [HF.out]; unfold nilB; rw [← HD.out]; show _ = (_ && decide (l.length = 0)); rw [Bool.eq_iff_iff]; simp <;> omega) B2

set_option maxRecDepth 100000 in
theorem noCh_any (k : Int) (nm : ByteArray) (a b : Int) (l : List Ex) (A : Option Addr) (cap : Nat) (w : World) :
    Calls Tryd.prog 32 #[exV (.mk k nm a b l) (.slice A l.length cap)] w (RetB (noChB (.mk k nm a b l)) w) := by
  obtain ⟨c, HF⟩ : ∃ c, Hid (c = noChB (.mk k nm a b l)) := ⟨_, rfl⟩
  obtain ⟨d, HD⟩ : ∃ d, Hid (d = nilB (.mk k nm a b l)) := ⟨_, rfl⟩
  have hr := fun w => nothing_any k nm a b l A cap w
  rw [← HD.out] at hr
  rw [← HF.out]
  revert hr
  show (∀ w, Calls Tryd.prog 34 #[.agg #[.int .i64 k, .string nm, .int .i64 a, .int .i64 b, .slice A l.length cap]] w (RetB d w)) → Calls Tryd.prog 32 #[.agg #[.int .i64 k, .string nm, .int .i64 a, .int .i64 b, .slice A l.length cap]] w (RetB c w)
  intro hr
  by_cases h1 : k = 3
  · subst h1
    clear hr
    go_enter Tryd.func32, Tryd.ntmps32
    go_wp2_with fail
    go_ret
    exact retB (by rw [HF.out]; simp [noChB, isB, Ex.k]) ((Below.refl _ _).alloc (Nat.le_refl _) _)
  · go_enter Tryd.func32, Tryd.ntmps32
    go_wp2_with fail
    refine (hr _).mono ?_
    clear hr
    rintro e w1 ⟨rfl, B1⟩
    have B2 := ((Below.refl w.heap.size w).alloc (Nat.le_refl _) (.cells #[.int .i64 k, .string nm, .int .i64 a, .int .i64 b, .slice A l.length cap] 24)).trans (B1.mono (by simp))
    clear B1
    go_wp2
    go_ret
    exact retB (by rw [HF.out]; unfold noChB; rw [← HD.out]; show _ = (decide (k = 3) || _); simp [h1]) B2

theorem timesB_eq (a b : Int) : timesB a b = if a < 0 ∨ (a = 1 ∧ b = 1) then false else (decide (b = -1) || decide (max a 1 ≤ b)) := by
  unfold timesB
  split
  · rename_i h; rcases h with h | ⟨h1, h2⟩ <;> simp [*]
  · rename_i h
    have h1 : ¬ a < 0 := fun x => h (.inl x)
    have h2 : ¬ (a = 1 ∧ b = 1) := fun x => h (.inr x)
    have h3 : (decide (a = 1) && decide (b = 1)) = false := by simpa using h2
    simp [h1, h3]

set_option maxRecDepth 100000 in
theorem times_any (a b : Int) (w : World) :
    Calls Tryd.prog 33 #[.int .i64 a, .int .i64 b] w fun e w' => e = .returned (.bool (timesB a b)) ∧ w = w' := by
  obtain ⟨c, HF⟩ : ∃ c, Hid (c = timesB a b) := ⟨_, rfl⟩
  rw [← HF.out]
  by_cases h1 : a < 0
  · go_enter Tryd.func33, Tryd.ntmps33
    go_wp2
    go_ret
    exact ⟨ret_bool (by rw [HF.out, timesB_eq, if_pos (.inl h1)]), rfl⟩
  by_cases h2 : a = 1
  · subst h2
    by_cases h3 : b = 1
    · subst h3
      go_enter Tryd.func33, Tryd.ntmps33
      go_wp2
      go_ret
      exact ⟨ret_bool (by rw [HF.out]; decide), rfl⟩
    · have hh : timesB 1 b = (decide (b = -1) || decide (max 1 1 ≤ b)) := by rw [timesB_eq, if_neg (by omega)]
      go_enter Tryd.func33, Tryd.ntmps33
      go_wp2
      all_goals
        go_ret
        exact ⟨ret_bool (by rw [HF.out, hh]; rw [Bool.eq_iff_iff]; simp <;> omega), rfl⟩
  · have hh : Hid (timesB a b = (decide (b = -1) || decide (max a 1 ≤ b))) := by show _ = _; rw [timesB_eq, if_neg (by omega)]
    go_enter Tryd.func33, Tryd.ntmps33
    go_wp2
    all_goals
      go_ret
      exact ⟨ret_bool (by rw [HF.out, hh.out]; rw [Bool.eq_iff_iff]; simp <;> omega), rfl⟩
end Go.Proofs.YtfbcafapnagjfaaDoor
