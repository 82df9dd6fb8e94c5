/- WireNil: a reader that is not there, or that nobody made, tells nothing: the walk. -/
import Derived.Test.YtnnimiemmgakcaaLives
namespace Go.Proofs.Ytnnimiemmgakcaa
open Go.RowKit

/-- a reader that is not there, or that New did not make -/
def NoRdr (w : World) (v : Value) : Prop := v = .pointer none ∨ ∃ g a b, v = .pointer (some ⟨g, 0, none⟩) ∧ Bk w g 37 #[.pointer none, a, b]

theorem eql_nil_ptr (w : World) (g : Nat) : (binOp .eql 35 (.pointer none) (.pointer (some ⟨g, 0, none⟩))).run Try.prog w = .ok (.bool false) w := by
  have h : ∀ d : Nat, (Op.equalIn (d + 1) 35 (.pointer none) (.pointer (some ⟨g, 0, none⟩))).run Try.prog w = .ok false w := fun d => by
    simp [Op.equalIn, run_underlying Try.underlying35]
  simp only [binOp]
  simp [Op.equal, Op.maxDepth, h 9999]

set_option maxRecDepth 100000 in
set_option maxHeartbeats 400000 in
theorem made_no (v : Value) (w : World) (h : NoRdr w v) :
    Calls Try.prog 28 #[v] w fun e w' => e = .returned (.bool false) ∧ w = w' := by
  rcases h with rfl | ⟨g, a, b, rfl, h1⟩
  · go_enter Try.func28, Try.ntmps28
    go_wp2
    go_ret
    exact ⟨rfl, rfl⟩
  · have hc := h1.cell 0
    simp at hc
    have he := eql_nil_ptr w g
    go_enter Try.func28, Try.ntmps28
    go_wp2
    go_ret
    exact ⟨rfl, rfl⟩

set_option maxRecDepth 100000 in
set_option maxHeartbeats 400000 in
theorem err_no (v : Value) (w : World) (h : NoRdr w v) :
    Calls Try.prog 22 #[v] w fun e w' => e = .returned (.int .i64 1) ∧ w = w' := by
  go_enter Try.func22, Try.ntmps22
  go_wp2_with fail
  refine (made_no v w h).mono ?_
  rintro e w' ⟨rfl, rfl⟩
  go_wp2
  go_ret
  exact ⟨rfl, rfl⟩

set_option maxRecDepth 100000 in
set_option maxHeartbeats 400000 in
theorem left_no (v : Value) (w : World) (h : NoRdr w v) :
    Calls Try.prog 21 #[v] w fun e w' => e = .returned (.int .i64 0) ∧ w = w' := by
  go_enter Try.func21, Try.ntmps21
  go_wp2_with fail
  refine (made_no v w h).mono ?_
  rintro e w' ⟨rfl, rfl⟩
  go_wp2
  go_ret
  exact ⟨rfl, rfl⟩

set_option maxRecDepth 100000 in
set_option maxHeartbeats 400000 in
theorem end_no (v : Value) (w : World) (h : NoRdr w v) :
    Calls Try.prog 23 #[v] w fun e w' => e = .returned (.int .i64 1) ∧ w = w' := by
  go_enter Try.func23, Try.ntmps23
  go_wp2_with fail
  refine (err_no v w h).mono ?_
  rintro e w' ⟨rfl, rfl⟩
  go_wp2
  go_ret
  exact ⟨rfl, rfl⟩

set_option maxRecDepth 100000 in
set_option maxHeartbeats 400000 in
theorem num_no (v : Value) (w : World) (h : NoRdr w v) :
    Calls Try.prog 19 #[v] w fun e w' => e = .returned (.int .u64 0) ∧ w = w' := by
  go_enter Try.func19, Try.ntmps19
  go_wp2_with fail
  refine (err_no v w h).mono ?_
  rintro e w' ⟨rfl, rfl⟩
  go_wp2
  go_ret
  exact ⟨rfl, rfl⟩

set_option maxRecDepth 100000 in
set_option maxHeartbeats 400000 in
theorem pce_no (v : Value) (w : World) (h : NoRdr w v) :
    Calls Try.prog 20 #[v] w fun e w' => e = .returned (.string ⟨#[]⟩) ∧ w = w' := by
  go_enter Try.func20, Try.ntmps20
  go_wp2_with fail
  refine (err_no v w h).mono ?_
  rintro e w' ⟨rfl, rfl⟩
  go_wp2
  go_ret
  exact ⟨rfl, rfl⟩

set_option maxRecDepth 100000 in
set_option maxHeartbeats 1000000 in
theorem wireNil_walk (w : World) : Calls Try.prog 5 #[] w (Yes w) := by
  go_enter Try.func5, Try.ntmps5
  go_wp2
  have hb : Below w.heap.size w ((w.alloc (.cells #[.pointer none, .slice none 0 0, .int .i64 0] 37)).alloc (.cells #[.pointer none, .pointer (some ⟨w.heap.size, 0, none⟩)] 35)) :=
    ((Below.refl _ w).alloc (Nat.le_refl _) _).alloc (by simp) _
  have hk1 : Bk ((w.alloc (.cells #[.pointer none, .slice none 0 0, .int .i64 0] 37)).alloc (.cells #[.pointer none, .pointer (some ⟨w.heap.size, 0, none⟩)] 35)) w.heap.size 37 #[.pointer none, .slice none 0 0, .int .i64 0] :=
    (Bk.new w _ _).alloc _
  have hk2 : Bk ((w.alloc (.cells #[.pointer none, .slice none 0 0, .int .i64 0] 37)).alloc (.cells #[.pointer none, .pointer (some ⟨w.heap.size, 0, none⟩)] 35)) (w.heap.size + 1) 35 #[.pointer none, .pointer (some ⟨w.heap.size, 0, none⟩)] := by
    have := Bk.new (w.alloc (.cells #[.pointer none, .slice none 0 0, .int .i64 0] 37)) 35 #[.pointer none, .pointer (some ⟨w.heap.size, 0, none⟩)]
    rwa [World.size_alloc] at this
  generalize ((w.alloc (.cells #[.pointer none, .slice none 0 0, .int .i64 0] 37)).alloc (.cells #[.pointer none, .pointer (some ⟨w.heap.size, 0, none⟩)] 35)) = W at hb hk1 hk2 ⊢
  have hcell : ∀ k, k < 2 → ∃ v, Hid (W.cell? ⟨w.heap.size + 1, k, none⟩ = some v) ∧ Hid (NoRdr W v) := by
    intro k hk
    match k, hk with
    | 0, _ => exact ⟨_, hk2.cell 0, .inl rfl⟩
    | 1, _ => exact ⟨_, hk2.cell 1, .inr ⟨_, _, _, rfl, hk1⟩⟩
  clear hk1 hk2
  go_loop [2] (fun i => ∃ k : Nat, k ≤ 2 ∧ i = .int .i64 k) (fun i => 2 - (intOf i).toNat)
  case atStart => exact ⟨0, by omega, rfl⟩
  case round =>
    obtain ⟨k, hk, rfl⟩ := hrel
    by_cases hlt : k < 2
    · obtain ⟨v, hv, hno⟩ := hcell k hlt
      have hv := hv.out
      clear hcell
      go_wp2_with fail
      refine (num_no v W hno.out).mono ?_
      rintro e w' ⟨rfl, rfl⟩
      go_wp2_with fail
      refine (pce_no v W hno.out).mono ?_
      rintro e w' ⟨rfl, rfl⟩
      go_wp2_with fail
      refine (left_no v W hno.out).mono ?_
      rintro e w' ⟨rfl, rfl⟩
      go_wp2_with fail
      refine (err_no v W hno.out).mono ?_
      rintro e w' ⟨rfl, rfl⟩
      go_wp2_with fail
      refine (end_no v W hno.out).mono ?_
      rintro e w' ⟨rfl, rfl⟩
      go_wp2
      go_round
      case rel => exact ⟨k + 1, by omega, by go_num⟩
      case measure => simp [intOf]; omega
    · clear hcell
      go_wp2_with fail
      refine (lives_any W).mono ?_
      rintro e w' ⟨rfl, hb'⟩
      have B := hb.trans (hb'.mono hb.size)
      clear hb hb'
      go_wp2
      go_ret
      exact ⟨rfl, B⟩
end Go.Proofs.Ytnnimiemmgakcaa
