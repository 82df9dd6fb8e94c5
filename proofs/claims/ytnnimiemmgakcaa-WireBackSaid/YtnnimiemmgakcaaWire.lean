/- Contracts of package wire's functions that put together, and of the kit's Own and Bytes, over any world. -/
import Derived.Test.YtnnimiemmgakcaaRows
import Derived.Test.YtnnimiemmgakcaaWords
import Derived.WalkLawsBesides
import Derived.Lib.Hide
import Derived.Deep.DeepFit
import Derived.Deep.QuietTactic
import Derived.BigQuiet
namespace Go.Proofs.Ytnnimiemmgakcaa
open Go.RowKit

def szN (x : Nat) : Nat := (Lib.uvarint x).length
def U64 (x : Nat) : Prop := x < 18446744073709551616
theorem szN_le {x : Nat} (h : U64 x) : szN x ≤ 10 := Lib.uvarint_length64 h
theorem szN_pos (x : Nat) : 1 ≤ szN x := Lib.uvarint_pos x
theorem szN_small {x : Nat} (h : x < 128) : szN x = 1 := by simp [szN, Lib.uvarint_small h]
theorem szN_big {x : Nat} (h : 128 ≤ x) : szN x = szN (x / 128) + 1 := by simp [szN, Lib.uvarint_big h]
theorem U64.div {x : Nat} (h : U64 x) : U64 (x / 128) := by unfold U64 at *; omega

theorem ret_int {k : IntKind} {a b : Int} (h : a = b) : Ending.returned (.int k a) = .returned (.int k b) := by rw [h]

set_option maxRecDepth 100000 in
set_option maxHeartbeats 400000 in
theorem size_any (x : Nat) (hx : U64 x) (w : World) :
    Calls Try.prog 11 #[.int .u64 x] w fun e w' => e = .returned (.int .i64 (szN x)) ∧ w = w' := by
  have h10 := szN_le hx
  go_enter Try.func11, Try.ntmps11
  go_wp2
  go_loop [0, 3] (fun a n => ∃ y k : Nat, U64 y ∧ a = .int .u64 y ∧ n = .int .i64 k ∧ Hid (k + szN y = szN x + 1)) (fun a _ => (intOf a).toNat)
  case atStart => exact ⟨x, 1, hx, rfl, rfl, Nat.add_comm _ _⟩
  case round =>
    obtain ⟨y, k, hy, rfl, rfl, hk⟩ := hrel
    have hk1 : k ≤ 10 := by have := hk.out; have := szN_pos y; omega
    go_wp2
    · have h128 : 128 ≤ (y : Int) := by assumption
      go_round
      case rel => exact ⟨y / 128, k + 1, hy.div, by go_num, by go_num, by have := hk.out; have := szN_big (x := y) (by omega); unfold Hid; omega⟩
      case measure => simp [intOf]; omega
    · have h128 : (y : Int) < 128 := by assumption
      go_ret
      exact ⟨ret_int (by have := hk.out; have := szN_small (x := y) (by omega); omega), rfl⟩

theorem infoB : (Try.prog.info? 5).map (fun i => (i.zero, i.size, i.bytes)) = some (some (.int .u8 0), 1, 1) := by kernel_rfl

set_option maxRecDepth 100000 in
set_option maxHeartbeats 400000 in
theorem number_any (v : Value) (l : List UInt8) (b : Nat) (x : Nat) (hx : U64 x) (w : World) (hv : Bs w b v l) (hl : l.length ≤ 1000000000) :
    Calls Try.prog 8 #[v, .int .u64 x] w (Makes 5 w (l ++ Lib.uvarint x)) := by
  have h10 := szN_le hx
  obtain ⟨i0, hi, hz0, hz1, hz2⟩ := info_parts infoB
  have hv' := hv
  obtain ⟨A, cap, rfl, hc, hm, hcells⟩ := hv
  go_enter Try.func8, Try.ntmps8
  go_wp2_with fail
  refine (size_any x hx w).mono ?_
  rintro e w' ⟨rfl, rfl⟩
  go_wp2_with (at_make; refine wpList_make_own _ rfl _ _ 22 rfl w.heap.size 5 i0 (.int .u8 0) 1 Try.underlying22 hi hz0 hz1 _ _ _ (l.length + szN x) rfl rfl ?_ ?_ ?_ ?_ ?_)
  · omega
  · rw [hz2]; omega
  · unfold maxLen; omega
  · exact Nat.le_refl _
  intro w1 hown hgrow
  go_wp2_with (at_builtin; refine wpList_app w1 rfl _ _ _ _ rfl Try.underlying22 infoB w.heap.size rfl rfl (l := []) hown (hv'.grown hgrow (.inl (by simp))) ?_ hgrow.size ?_)
  · simp; omega
  intro v2 w2 hown2 hgrow2 _
  have hb2 : Below w.heap.size w w2 := ((Below.refl _ _).grown hgrow (Nat.le_refl _) (by simp)).grown hgrow2 hgrow.size (fun k hk => (Ow.lt (l := []) hown k hk).1)
  clear hgrow2 hgrow hown hv' hcells hc

  go_wp2_with fail
  go_loopw [1, 5] (fun y v wr => ∃ (n : Nat) (m : List UInt8), U64 n ∧ y = .int .u64 n ∧ m.length ≤ 10 ∧ Ow wr 5 w.heap.size v (l ++ m) ∧ Below w.heap.size w wr ∧ Hid (m ++ Lib.uvarint n = Lib.uvarint x)) (fun y _ _ => (intOf y).toNat)
  case atStart => exact ⟨x, [], hx, rfl, by simp, by rw [List.append_nil]; exact hown2, hb2, rfl⟩
  case round =>
    obtain ⟨n, m, hn, rfl, hm10, ho, hb, hk⟩ := hrel
    have hwb := hb.size
    by_cases h128 : 128 ≤ n
    · obtain ⟨c, hc⟩ : ∃ c : UInt8, Hid (c = (n % 128 + 128).toUInt8) := ⟨_, rfl⟩
      obtain ⟨m', hm'⟩ : ∃ m' : List UInt8, Hid (m' = m ++ [c]) := ⟨_, rfl⟩
      have hcs : Hid (bits BinOp.or IntKind.u8 ((n : Int) % 256) 128 = (c.toNat : Int)) := by
        show _ = _
        rw [Lib.u8_or128_any _ (by omega) (by omega), hc.out]
        simp [Nat.toUInt8]; omega
      go_wp2_with (at_builtin; refine wpList_app _ rfl _ _ _ _ rfl Try.underlying22 infoB w.heap.size rfl rfl (ho.alloc _) (Bs.lit1 _ _ _ c hcs.out) ?_ ?_ ?_)
      · simp; omega
      · simp; omega
      intro v3 w3 ho3 hg3 _
      have hb3 : Below w.heap.size w w3 := (hb.alloc hwb _).grown hg3 (by simp; omega) (fun k hk => (ho.lt k hk).1)
      have ho4 : Ow w3 5 w.heap.size v3 (l ++ m') := by rw [hm'.out]; exact ho3
      have hk' : Hid (m' ++ Lib.uvarint (n / 128) = Lib.uvarint x) := by
        show _ = _
        rw [hm'.out, ← hk.out, Lib.uvarint_big h128, hc.out]
        simp
      have hl' : m'.length ≤ 10 := by have := congrArg List.length hk'.out; simp [szN] at this h10; omega
      clear ho3 hg3 hk hcs hb ho hm' hc
      go_wp2
      go_roundw
      case rel => exact ⟨n / 128, m', hn.div, by go_num, hl', ho4, hb3, hk'⟩
      case measure => simp [intOf]; omega
    · obtain ⟨c, hc⟩ : ∃ c : UInt8, Hid (c = n.toUInt8) := ⟨_, rfl⟩
      have hcs : Hid ((n : Int) = (c.toNat : Int)) := by show _ = _; rw [hc.out]; simp [Nat.toUInt8]; omega
      go_wp2_with (at_builtin; refine wpList_app _ rfl _ _ _ _ rfl Try.underlying22 infoB w.heap.size rfl rfl (ho.alloc _) (Bs.lit1 _ _ _ c hcs.out) ?_ ?_ ?_)
      · simp; omega
      · simp; omega
      intro v3 w3 ho3 hg3 _
      have hb3 : Below w.heap.size w w3 := (hb.alloc hwb _).grown hg3 (by simp; omega) (fun k hk => (ho.lt k hk).1)
      have ho4 : Ow w3 5 w.heap.size v3 (l ++ Lib.uvarint x) := by
        rw [← hk.out, Lib.uvarint_small (by omega), ← hc.out]; exact ho3
      clear ho3 hg3 hk hcs hb ho hc
      go_wp2
      go_ret
      exact ⟨_, rfl, ho4, hb3⟩

set_option maxRecDepth 100000 in
set_option maxHeartbeats 400000 in
/-- Own: the same bytes, in new memory -/
theorem own_any (v : Value) (l : List UInt8) (b : Nat) (w : World) (hv : Bs w b v l) (hl : l.length ≤ 1000000000) :
    Calls Try.prog 12 #[v] w (Makes 5 w l) := by
  go_enter Try.func12, Try.ntmps12
  have hown : Ow (w.alloc (.cells #[] 5)) 5 w.heap.size (.slice (some ⟨w.heap.size, 0, none⟩) 0 0) [] := Ow.lit w _ _ [] #[] 0 (Nat.le_refl _) rfl (by omega) rfl
  go_wp2_with (at_builtin; refine wpList_app _ rfl _ _ _ _ rfl Try.underlying22 infoB w.heap.size rfl rfl hown (hv.alloc _) ?_ ?_ ?_)
  · simp; omega
  · simp
  intro v3 w3 ho3 hg3 _
  have hb3 : Below w.heap.size w w3 := ((Below.refl _ w).alloc (Nat.le_refl _) _).grown hg3 (by simp) (fun k hk => (hown.lt k hk).1)
  clear hg3 hown
  go_wp2
  go_ret
  exact ⟨_, rfl, ho3, hb3⟩

set_option maxRecDepth 100000 in
set_option maxHeartbeats 400000 in
/-- Bytes -/
theorem bytes_any (v v2 : Value) (l l2 : List UInt8) (b b2 : Nat) (w : World) (hv : Bs w b v l) (hv2 : Bs w b2 v2 l2) :
    Calls Try.prog 14 #[v, v2] w fun e w' => e = .returned (.bool (l == l2)) ∧ w = w' := by
  have h1 := fun dst hd => run_str (P := Try.prog) w 22 dst 5 Try.underlying22 Try.underlying5 hd hv
  have h2 := fun dst hd => run_str (P := Try.prog) w 22 dst 5 Try.underlying22 Try.underlying5 hd hv2
  have h1' := h1 9 Try.underlying9
  have h2' := h2 9 Try.underlying9
  clear h1 h2
  go_enter Try.func14, Try.ntmps14
  go_wp2
  go_ret
  exact ⟨rfl, rfl⟩

/-- two results: new bytes, and a number -/
def MakesE (e : TypeId) (w : World) (l : List UInt8) (n : Int) (x : Ending) (w' : World) : Prop :=
  ∃ v, x = .returned (.tuple #[v, .int .i64 n]) ∧ Ow w' e w.heap.size v l ∧ Below w.heap.size w w'

set_option maxRecDepth 100000 in
set_option maxHeartbeats 400000 in
theorem piece_any (v : Value) (l : List UInt8) (b : Nat) (p : ByteArray) (w : World) (hv : Bs w b v l) (hl : l.length ≤ 900000000) (hp : p.size ≤ 1048576) :
    Calls Try.prog 9 #[v, .string p] w (MakesE 5 w (l ++ Lib.uvarint p.size ++ p.data.toList) 0) := by
  have hx : U64 p.size := by unfold U64; omega
  have h10 : (Lib.uvarint p.size).length ≤ 10 := szN_le hx
  go_enter Try.func9, Try.ntmps9
  go_wp2_with fail
  refine (number_any v l b p.size hx w hv (by omega)).mono ?_
  rintro e w' ⟨v', rfl, ho, hb⟩
  go_wp2_with (at_builtin; refine wpList_app_str _ rfl _ _ _ _ _ rfl Try.underlying22 Try.underlying9 infoB w.heap.size rfl rfl ho ?_ ?_ ?_)
  · simp; omega
  · exact hb.size
  intro v3 w3 ho3 hg3
  have hb3 : Below w.heap.size w w3 := hb.grown hg3 hb.size (fun k hk => (ho.lt k hk).1)
  have ho4 : Ow w3 5 w.heap.size v3 (l ++ Lib.uvarint p.size ++ p.data.toList) := by first | exact ho3 | (rw [List.append_assoc]; exact ho3)
  clear hg3 ho hb ho3
  go_wp2
  go_ret2
  exact ⟨_, rfl, ho4, hb3⟩

set_option maxRecDepth 100000 in
set_option maxHeartbeats 400000 in
theorem piece_long (v : Value) (p : ByteArray) (w : World) (hp : 1048576 < p.size) :
    Calls Try.prog 9 #[v, .string p] w fun e w' => e = .returned (.tuple #[.slice none 0 0, .int .i64 3]) ∧ w = w' := by
  go_enter Try.func9, Try.ntmps9
  go_wp2_with fail
  go_ret2
  exact ⟨rfl, rfl⟩
end Go.Proofs.Ytnnimiemmgakcaa
