/- The examples of the chapter on rebasing come out as it tells: RebaseNames comes to true. No condition but the tables of the library that the row lists, tied to the program's text by the card. -/
import Derived.Test.YtdbgnhndmmppaaaGreatDoorRebaseNamesRun
import Derived.Test.YtdbgnhndmmppaaaGreatDoorRebaseNamesFacts
import Derived.Test.YtdbgnhndmmppaaaGreatDoorRebaseNamesTied
import Derived.Test.YtdbgnhndmmppaaaGreatDoorRow
import Derived.Test.YtdbgnhndmmppaaaGreatDoorCards
import Derived.Test.YtdbgnhndmmppaaaGreatDoorTie
import Derived.LaidMore
import Derived.LaidLaws
import Derived.Lay
import Derived.Stop.Joined
import Derived.SevenTiedAt
namespace Go.Proofs.YtdbgnhndmmppaaaGreatDoor.rebaseNames
open Go.ChangeShapes Go.WideShapes Go.ChangeAt Go.RowKit
open Go.ChangeMaps (open_string shut_string)

theorem own : ownKnob Tryz.prog.godebug = none := by kernel_rfl
theorem laidOut : laidOutB Tryz.prog = true := by kernel_rfl

def laid1 : List (String × DataW Unit) := Rows.rebaseNamesRow.laid
/-- the tables, as the row lists them, lie in their variables -/
theorem table {W : World} (h : laidMetH Tryz.prog laid1 W) : (∃ e fz, W.heap[0]? = some (.cells (Lib.deBruijn32tab.map fun (n : Nat) => Value.int .u8 n).toArray e fz)) ∧ (∃ e fz, W.heap[3]? = some (.cells (Lib.deBruijn64tab.map fun (n : Nat) => Value.int .u8 n).toArray e fz)) := by
  have h1 : laidMet Tryz.prog (("math/bits.deBruijn32tab", .agg (Lib.deBruijn32tab.map fun (z : Nat) => DataW.lit (.int .u8 z))) :: ("math/bits.deBruijn64tab", .agg (Lib.deBruijn64tab.map fun (z : Nat) => DataW.lit (.int .u8 z))) :: ("unicode/utf8.acceptRanges", Rows.laid_unicode_utf8_acceptRanges) :: ("unicode/utf8.first", Rows.laid_unicode_utf8_first) :: []) W := h
  obtain ⟨ps, h2, _⟩ := h1
  obtain ⟨t0, q0, k0⟩ := Ev.laid_one h2 (by kernel_rfl) (by kernel_rfl) Tryz.underlying466 Tryz.underlying5 (by kernel_rfl) (by kernel_rfl)
  obtain ⟨t1, q1, k1⟩ := Ev.laid_one k0 (by kernel_rfl) (by kernel_rfl) Tryz.underlying484 Tryz.underlying5 (by kernel_rfl) (by kernel_rfl)
  exact ⟨t0, t1⟩
theorem contract (H : Type) (enc : TypeId × Value → H) (W : World) (base : Nat) (args : Array Value) (ds gs : List (DataW H)) (before : List MemPlace)
    (hval : ∀ (j : Nat) t v, Tryz.f3.params[j]? = some t → args[j]? = some v → Value.okWide Tryz.prog W .any base t v)
    (hW : DataW.Whole enc Tryz.prog Tryz.f3.params.toList Rows.rebaseNamesSpec.vars false W args.toList ds gs before) (hX : laidMetH Tryz.prog laid1 W) :
    Calls Tryz.prog 3 args W fun e W' => ∃ v, e = .returned v ∧ Rows.rebaseNamesSpec.post enc Tryz.prog Tryz.f3 false true false false W args v W' := by
  have hW' := hW
  obtain ⟨p, q, hA0, hV, rfl, hfz, hnd⟩ := hW
  have hA : DataW.TrodAll enc Tryz.prog W 0 (fun _ => true) true Tryz.f3.params.toList args.toList ds p := hA0
  rw [Tryz.params3] at hA
  obtain ⟨hargs, rfl, rfl⟩ := trodAll_nil hA
  obtain rfl : args = #[] := by cases args; simp_all
  obtain ⟨rfl, rfl⟩ := trodVars_none hV
  clear hA0
  obtain ⟨⟨e0, z0, hT0⟩, ⟨e1, z1, hT1⟩⟩ := table hX
  refine (rebaseNames_walk W hT0 hT1).mono fun e W' ⟨he, hb⟩ => ?_
  subst he
  refine ⟨_, rfl, law_post hW' laidOut (fun t ht => ?_) rfl rfl (by rfl) Tryz.underlying4 hb⟩
  rw [Tryz.params3] at ht
  simp at ht

set_option maxRecDepth 100000 in
theorem lifted (os : Os) (started : os.Started) (H : Type) (enc : TypeId × Value → H) :
    ReturnsInHanded {} Tryz.checked os 3 .any (fun w args => (Rows.rebaseNamesSpec.pre enc Tryz.prog Tryz.f3 [] false w args ∧ laidMetH Tryz.prog laid1 w) ∧ sizedMet enc Tryz.prog Tryz.f3 (OpenSpec.ofChange Rows.rebaseNamesSpec) false w args)
      (Rows.rebaseNamesSpec.post enc Tryz.prog Tryz.f3 false true false false) := by
  refine returnsInHanded_of_change_and (C := Tryz.checked) (X := fun w _ => laidMetH Tryz.prog laid1 w) (fun _ _ _ hh h => h.of_heap hh) own started (by kernel_rfl) Tryz.func3
    (ChangeSpec.witness_shaped (enc := enc) (C := Tryz.checked) (os := os) (X := fun w _ => laidMetH Tryz.prog laid1 w) false (World.laidAll Tryz.prog os laid1) #[] 8 (World.laidAll_os _ _ _)
      (World.shaped_of_ZipB (by kernel_rfl) (by kernel_rfl)) (by kernel_rfl) (by kernel_rfl) (by kernel_rfl)
      (by rw [MakeChecks.laidMetH_plain _ _ _ (by kernel_rfl)]; exact laidMet_laidAll _ (by kernel_rfl) (by kernel_rfl))) ?_
  intro W base args ds gs before hval hW _ _ hX _
  exact contract H enc W base args ds gs before hval hW hX

theorem row_holds : Rows.RebaseNamesSaid :=
  OpenClaim.holds_of_wide 3 Tryz.f3 rfl rfl rfl rfl rfl rfl rfl ⟨rfl, rfl, rfl, rfl, rfl⟩ rfl rfl rfl rfl rfl (by kernel_rfl) Tryz.func3 facts
    (of_decide_eq_true (by kernel_rfl)) (by unfold Func.isWrapper; first | (rw [if_pos (by decide +kernel)]; kernel_rfl) | (rw [if_neg (by decide +kernel)]; exact ⟨rfl, rfl⟩))
    (fun os started H enc _ => lifted os started H enc)

theorem holds : Rows.RebaseNamesCardSaid :=
  Claim7.holds_tied_plain_at .later [] [.data, .data, .data, .pinned] true Rows.rebaseNamesCard.stood.harness false
    row_holds (fun _ h => by cases h) tied0 (fun _ h => by cases h) rebaseNames_row_tie rfl ⟨rfl, rfl⟩ tied1 rfl
    (fun f fn hf hfn => by
      obtain rfl : f = 3 := Option.some.inj (tied2.symm.trans hf) |>.symm
      obtain rfl : fn = Tryz.f3 := (Option.some.inj (Tryz.func3.symm.trans hfn)).symm
      exact ⟨tied3, fun j t ht => by
        rw [Tryz.params3] at ht
        simp at ht⟩)
    tied4
end Go.Proofs.YtdbgnhndmmppaaaGreatDoor.rebaseNames
