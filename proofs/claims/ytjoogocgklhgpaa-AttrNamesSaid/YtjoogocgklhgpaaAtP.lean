/- attr: defaults, CheckSpecs, and the document's own CheckSpecs. -/
import Derived.Test.YtjoogocgklhgpaaAtR
import Derived.Test.YtjoogocgklhgpaaApp
namespace Go.Proofs.Ytjoogocgklhgpaa
open Go.RowKit

def fillOf (s : Sp) : At := ⟨s.n, s.d⟩
theorem infoAt : (Try.prog.info? 29).map (fun i => (i.zero, i.size, i.bytes)) = some (some (.agg #[.string .empty, .string .empty]), 2, 32) := by kernel_rfl
def Reach (n : Nat) : Prop := n ≤ 3518437208783
/-- what is handed back is new, and holds l; what was there is as it was -/
def MakesAt (w : World) (l : List At) (x : Ending) (w' : World) : Prop := ∃ v, x = .returned v ∧ w'.ownsRow w.heap.size 29 2 v l.length (atC l) ∧ Below w.heap.size w w'

set_option maxRecDepth 100000 in
theorem defaults_any (v : Value) (l : List Sp) (B : Nat) (w : World) (hv : Sps w B v l) (hB : B ≤ w.heap.size) (hl : Reach l.length) :
    Calls Try.prog 34 #[v] w (MakesAt w (l.map fillOf)) := by
  obtain ⟨A, cap, rfl⟩ := hv.form
  unfold Reach at hl
  obtain ⟨i0, hi, hz0, hz1, hz2⟩ := info_parts infoAt
  go_enter Try.func34, Try.ntmps34
  go_wp2_with (at_make; refine wpList_make_own _ rfl _ _ 22 rfl w.heap.size 29 i0 _ 2 Try.underlying22 hi hz0 hz1 _ _ _ l.length rfl rfl ?_ ?_ ?_ ?_ ?_)
  · rfl
  · rw [hz2]; omega
  · unfold maxLen; omega
  · exact Nat.le_refl _
  intro w1 hown hg1
  have B1 : Below w.heap.size w w1 := (Below.refl _ _).grown hg1 (Nat.le_refl _) (by simp)
  have hown := Lib.hid hown
  clear hz0 hz1 hz2 hi hg1
  go_wp2
  go_loopw [3, 11] (fun s i wr => ∃ k : Nat, k ≤ l.length ∧ i = .int .i64 k ∧ Hid (wr.ownsRow w.heap.size 29 2 s k (atC ((l.take k).map fillOf))) ∧ Below w.heap.size w wr) (fun _ i _ => l.length - (intOf i).toNat)
  case atStart => exact ⟨0, Nat.zero_le _, rfl, hown, B1⟩
  case round =>
    obtain ⟨k, hk, rfl, ho, hb⟩ := hrel
    by_cases hlt : k < l.length
    · obtain ⟨b, off, rfl, hbB, hcap, hc0, hc1, hc2⟩ := (hv.below (hb.mono hB)).at hlt
      have hsz := hb.size
      go_wp2_with fail
      refine (filled_any l[k] _).mono ?_
      rintro e w2 ⟨rfl, hb2⟩
      have ho2 := Lib.hid (own_all (World.ownsRow.alloc ho.out _) hb2)
      have hb3 := (hb.alloc hsz _).trans (hb2.mono (by simp; omega))
      have hs3 := hb3.size
      clear hb2 ho
      go_wp2_with (at_builtin; refine wpList_appR _ rfl (.tmp 15) (.tmp 18) 22 29 rfl _ 2 32 Try.underlying22 infoAt rfl (by decide) w.heap.size rfl rfl (World.ownsRow.alloc ho2.out _) (Rd.lit w2 29 2 1 #[.string l[k].n, .string l[k].d] (0, 0) rfl (by omega)) ?_ ?_ ?_ ?_ ?_)
      · exact ⟨rfl, rfl⟩
      · unfold maxLen; omega
      · omega
      · simp; omega
      intro v' w3 hown' hg3 hat
      have hb4 : Below w.heap.size w w3 := (hb3.alloc hs3 _).grown hg3 (by simp; omega) fun g hg => (ho2.out.lt g hg).1
      have hown2 : Hid (w3.ownsRow w.heap.size 29 2 v' (k + 1) (atC ((l.take (k + 1)).map fillOf))) := by
        have e1 : atC ((l.take (k + 1)).map fillOf) = atC (List.take k (l.map fillOf)) ++ [.string l[k].n, .string l[k].d] := by
          rw [List.take_succ_eq_append_getElem hlt, List.map_append, atC_app, List.map_take]; rfl
        rw [e1]; exact hown'
      clear hg3 hat ho2 hown'
      go_wp2
      go_roundw
      case rel => exact ⟨k + 1, by omega, by go_num, hown2, hb4⟩
      case measure => simp [intOf]; omega
    · have e : k = l.length := by omega
      subst e
      go_wp2
      go_ret
      exact ⟨_, rfl, by have := ho.out; rw [List.take_length] at this; rw [List.length_map]; exact this, hb⟩
end Go.Proofs.Ytjoogocgklhgpaa
