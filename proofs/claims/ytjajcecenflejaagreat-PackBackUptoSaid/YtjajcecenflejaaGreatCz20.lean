/- YtjajcecenflejaaGreatCz20 -/
import Derived.Test.YtjajcecenflejaaGreatCz16
namespace Go.Proofs.YtjajcecenflejaaGreat
open Go.RowKit
def SomeB (w : World) (e : Ending) (w' : World) : Prop := ∃ b : Bool, e = .returned (.bool b) ∧ w = w'
set_option maxRecDepth 100000 in
set_option maxHeartbeats 1000000 in
theorem few_any (l : List St) (v : Value) (S : Nat → Prop) (w : World) (hv : Ls w S v l) : Calls Tryz.prog 7 #[v] w (SomeB w) := by
  obtain ⟨A, cap, rfl⟩ := hv.form
  have hmax := hv.max
  unfold maxLen at hmax
  go_enter Tryz.func7, Tryz.ntmps7
  go_wp2
  go_loopg [3, 4] l.length (fun n s3 s4 wk => ∃ (k : Nat) (m : Int), k ≤ l.length ∧ n = l.length - k ∧ s3 = .int .i64 m ∧ s4 = .int .i64 k ∧ w = wk)
  case atStart => exact ⟨0, 0, Nat.zero_le _, by omega, rfl, rfl, rfl⟩
  case round =>
    obtain ⟨k, m, hk, hn, rfl, rfl, rfl⟩ := hrel
    have HG := Lib.hid hn
    clear hn
    by_cases hlt : k < l.length
    · obtain ⟨b, off, vd, va, rfl, hbb, hcap, a0, a1, a2, a3, a4, a5, a6, a7, a8, a9, a10, rd, ra⟩ := at_st hv hlt
      obtain ⟨Ad, cd, rfl⟩ := rd.form
      have hi0 : (0 : Int) ≤ (k : Int) := by omega
      have hi1 : (k : Int) < (l.length : Int) := by omega
      by_cases hm : m ≤ 500
      · go_wp2
        go_roundg (l.length - (k + 1))
        case measure => have := HG.out; omega
        case rel => exact ⟨k + 1, _, by omega, rfl, rfl, by go_num, rfl⟩
      · by_cases h50 : (l.length : Int) ≤ 50
        · go_wp2
          go_ret
          exact ⟨_, rfl, rfl⟩
        · go_wp2
          go_ret
          exact ⟨_, rfl, rfl⟩
    · have hi1 : ¬ (k : Int) < (l.length : Int) := by omega
      by_cases h50 : (l.length : Int) ≤ 50
      · go_wp2
        go_ret
        exact ⟨_, rfl, rfl⟩
      · go_wp2
        go_ret
        exact ⟨_, rfl, rfl⟩
end Go.Proofs.YtjajcecenflejaaGreat
