/- Contracts of the reference's functions that put together. -/
import Derived.Test.YtnnimiemmgakcaaWire
namespace Go.Proofs.Ytnnimiemmgakcaa
open Go.RowKit

theorem U64.quo {n : Nat} (h : U64 n) : IntKind.u64.wrap ((n : Int) / 128) = ((n / 128 : Nat) : Int) := by
  unfold U64 at h
  rw [IntWalk.u64_in _ ⟨by omega, by omega⟩]; omega

/-- what is handed back is the call's own from base on, and holds l; below base nothing has turned -/
def Grows (e : TypeId) (base : Nat) (w : World) (l : List UInt8) (x : Ending) (w' : World) : Prop := ∃ v, x = .returned v ∧ Ow w' e base v l ∧ Below base w w'
def GrowsE (e : TypeId) (base : Nat) (w : World) (l : List UInt8) (n : Int) (x : Ending) (w' : World) : Prop :=
  ∃ v, x = .returned (.tuple #[v, .int .i64 n]) ∧ Ow w' e base v l ∧ Below base w w'

set_option maxRecDepth 100000 in
set_option maxHeartbeats 400000 in
theorem refNumber_any (v : Value) (l : List UInt8) (base : Nat) (x : Nat) (hx : U64 x) (w : World) (hv : Ow w 5 base v l) (hl : l.length ≤ 1000000000) (hbase : base ≤ w.heap.size) :
    Calls Try.prog 15 #[v, .int .u64 x] w (Grows 5 base w (l ++ Lib.uvarint x)) := by
  have h10 : (Lib.uvarint x).length ≤ 10 := szN_le hx
  go_enter Try.func15, Try.ntmps15
  go_wp2
  go_loopw [0, 1] (fun v y wr => ∃ (n : Nat) (m : List UInt8), U64 n ∧ y = .int .u64 n ∧ m.length ≤ 10 ∧ Ow wr 5 base v (l ++ m) ∧ Below base w wr ∧ Hid (m ++ Lib.uvarint n = Lib.uvarint x)) (fun _ y _ => (intOf y).toNat)
  case atStart => exact ⟨x, [], hx, rfl, by simp, by rw [List.append_nil]; exact hv, Below.refl _ _, rfl⟩
  case round =>
    obtain ⟨n, m, hn, rfl, hm10, ho, hb, hk⟩ := hrel
    have hwb : base ≤ wr.heap.size := Nat.le_trans hbase hb.size
    by_cases h128 : 128 ≤ n
    · obtain ⟨c, hc⟩ : ∃ c : UInt8, Hid (c = (n % 128 + 128).toUInt8) := ⟨_, rfl⟩
      obtain ⟨m', hm'⟩ : ∃ m' : List UInt8, Hid (m' = m ++ [c]) := ⟨_, rfl⟩
      have hcs : Hid ((n : Int) % 128 + 128 = (c.toNat : Int)) := by
        show _ = _
        rw [hc.out]
        simp [Nat.toUInt8]; omega
      go_wp2_with (at_builtin; refine wpList_app _ rfl _ _ _ _ rfl Try.underlying22 infoB base rfl rfl (ho.alloc _) (Bs.lit1 _ _ _ c hcs.out) ?_ ?_ ?_)
      · simp; omega
      · simp; omega
      intro v3 w3 ho3 hg3 _
      have hb3 : Below base w w3 := (hb.alloc hwb _).grown hg3 (by simp; omega) (fun k hk => (ho.lt k hk).1)
      have ho4 : Ow w3 5 base v3 (l ++ m') := by rw [hm'.out]; exact ho3
      have hk' : Hid (m' ++ Lib.uvarint (n / 128) = Lib.uvarint x) := by
        show _ = _
        rw [hm'.out, ← hk.out, Lib.uvarint_big h128, hc.out]
        simp
      have hl' : m'.length ≤ 10 := by have := congrArg List.length hk'.out; simp at this; omega
      clear ho3 hg3 hk hcs hb ho hm' hc hv
      go_wp2
      go_roundw
      case rel => exact ⟨n / 128, m', hn.div, by rw [hn.quo], hl', ho4, hb3, hk'⟩
      case measure => simp [intOf, hn.quo]; omega
    · obtain ⟨c, hc⟩ : ∃ c : UInt8, Hid (c = n.toUInt8) := ⟨_, rfl⟩
      have hcs : Hid ((n : Int) = (c.toNat : Int)) := by show _ = _; rw [hc.out]; simp [Nat.toUInt8]; omega
      go_wp2_with (at_builtin; refine wpList_app _ rfl _ _ _ _ rfl Try.underlying22 infoB base rfl rfl (ho.alloc _) (Bs.lit1 _ _ _ c hcs.out) ?_ ?_ ?_)
      · simp; omega
      · simp; omega
      intro v3 w3 ho3 hg3 _
      have hb3 : Below base w w3 := (hb.alloc hwb _).grown hg3 (by simp; omega) (fun k hk => (ho.lt k hk).1)
      have ho4 : Ow w3 5 base v3 (l ++ Lib.uvarint x) := by
        rw [← hk.out, Lib.uvarint_small (by omega), ← hc.out]; exact ho3
      clear ho3 hg3 hk hcs hb ho hc hv
      go_wp2
      go_ret
      exact ⟨_, rfl, ho4, hb3⟩

set_option maxRecDepth 100000 in
set_option maxHeartbeats 400000 in
theorem refSize_any (x : Nat) (hx : U64 x) (w : World) :
    Calls Try.prog 16 #[.int .u64 x] w fun e w' => e = .returned (.int .i64 (szN x)) ∧ Below w.heap.size w w' := by
  go_enter Try.func16, Try.ntmps16
  go_wp2_with fail
  refine (refNumber_any (.slice none 0 0) [] w.heap.size x hx w (Ow.nil _ _ _) (by simp) (Nat.le_refl _)).mono ?_
  rintro e w' ⟨v', rfl, ho, hb⟩
  obtain ⟨A, cap, rfl⟩ := ho.form
  clear ho
  go_wp2
  go_ret
  exact ⟨ret_int (by simp [szN]), hb⟩

set_option maxRecDepth 100000 in
set_option maxHeartbeats 400000 in
theorem refPiece_any (v : Value) (l : List UInt8) (base : Nat) (p : ByteArray) (w : World) (hv : Ow w 5 base v l) (hl : l.length ≤ 900000000) (hp : p.size ≤ 1048576) (hbase : base ≤ w.heap.size) :
    Calls Try.prog 13 #[v, .string p] w (GrowsE 5 base w (l ++ Lib.uvarint p.size ++ p.data.toList) 0) := by
  have hx : U64 p.size := by unfold U64; omega
  have h10 : (Lib.uvarint p.size).length ≤ 10 := szN_le hx
  go_enter Try.func13, Try.ntmps13
  go_wp2_with fail
  refine (refNumber_any v l base p.size hx w hv (by omega) hbase).mono ?_
  rintro e w' ⟨v', rfl, ho, hb⟩
  go_wp2_with (at_builtin; refine wpList_app_str _ rfl _ _ _ _ _ rfl Try.underlying22 Try.underlying9 infoB base rfl rfl ho ?_ ?_ ?_)
  · simp; omega
  · exact Nat.le_trans hbase hb.size
  intro v3 w3 ho3 hg3
  have hb3 : Below base w w3 := hb.grown hg3 (Nat.le_trans hbase hb.size) (fun k hk => (ho.lt k hk).1)
  have ho4 : Ow w3 5 base v3 (l ++ Lib.uvarint p.size ++ p.data.toList) := by first | exact ho3 | (rw [List.append_assoc]; exact ho3)
  clear hg3 ho hb ho3 hv
  go_wp2
  go_ret2
  exact ⟨_, rfl, ho4, hb3⟩
end Go.Proofs.Ytnnimiemmgakcaa
