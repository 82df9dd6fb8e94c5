/- slices.Sorted of maps.Keys, as the machine has it. -/
import Derived.Test.YtdbgnhndmmppaaaGreatDoorEvV
import Derived.Test.YtdbgnhndmmppaaaGreatDoorIt
import Derived.Test.YtdbgnhndmmppaaaGreatDoorItS
namespace Go.Proofs.YtdbgnhndmmppaaaGreatDoor
open Go.RowKit Go.Shelf Go.Maps Go.Sort Go.Ev

theorem keysSchema_sorts (m : Nat) : AnyZ.SortsIn Tryz.prog Tryz.laysSorted_ren Fence.wide m :=
  ⟨fun blk off cap ss W hH hblk hsz => callsIn_wide.2 (Tryz.slices_Sort_string blk off cap ss W hH hblk hsz),
   fun p cap W => callsIn_wide.2 (Tryz.slices_Sort_string_none p cap W)⟩
theorem keysSchema : SortKeys Tryz.prog 9 277 331 := by
  intro Bm mb n D w hB hm hown hsz
  have hseq : SeqGives Fence.wide 2 Tryz.prog 331 #[.pointer (some ⟨Bm, 0, none⟩)] encStr (fun ss => ss.Perm (strKeys D)) (Maps.size D) w :=
    AnyZ.keys_gives (ρ := Tryz.laysKeysS_ren) { Tryz.laysKeysS with } Fence.wide _ trivial rfl (by omega) Bm mb _ D _ hB hm hown
  have cS := AnyZ.sorted_in Tryz.laysSorted Fence.wide 5 trivial trivial trivial trivial rfl (by omega) (keysSchema_sorts _) (enters_of Tryz.func306 (by kernel_rfl) rfl) 331 #[.pointer (some ⟨Bm, 0, none⟩)] trivial (enters_of Tryz.func331 (by kernel_rfl) rfl) _ _ (by unfold maxLen; omega) (by omega) _ hseq
  refine Calls.mono ((callsIn_wide (n := 5)).1 cS) ?_
  rintro e w' ⟨v, ss, rfl, hp, ho, hn, hb⟩
  exact ⟨v, ss, rfl, hp, ho, hn, hb⟩
end Go.Proofs.YtdbgnhndmmppaaaGreatDoor
