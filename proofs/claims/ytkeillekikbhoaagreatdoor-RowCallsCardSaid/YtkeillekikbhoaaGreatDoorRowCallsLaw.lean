/- Rows are cut, put together, measured and compared as the document says: RowCalls comes to true for every two rows and places. No condition but the tables of the library that the row lists, tied to the program's text by the card. -/
import Derived.Test.YtkeillekikbhoaaGreatDoorTkC3
import Derived.Test.YtkeillekikbhoaaGreatDoorRowCallsFacts
import Derived.Test.YtkeillekikbhoaaGreatDoorRow
import Derived.Test.YtkeillekikbhoaaGreatDoorCards
import Derived.Test.YtkeillekikbhoaaGreatDoorTie
import Derived.LaidMore
import Derived.LaidLaws
import Derived.Lay
import Derived.Stop.Joined
import Derived.SevenTiedAt
namespace Go.Proofs.YtkeillekikbhoaaGreatDoor.rowCalls
open Go.ChangeShapes Go.WideShapes Go.ChangeAt Go.RowKit
open Go.ChangeMaps (open_string shut_string)

theorem own : ownKnob Tryz.prog.godebug = none := by kernel_rfl
theorem laidOut : laidOutB Tryz.prog = true := by kernel_rfl
theorem readable0 : Tryz.prog.readableRec 27 = true ∧ 27 < Tryz.prog.types.size := ⟨by kernel_rfl, of_decide_eq_true (by kernel_rfl)⟩
theorem readable1 : Tryz.prog.readableRec 3 = true ∧ 3 < Tryz.prog.types.size := ⟨by kernel_rfl, of_decide_eq_true (by kernel_rfl)⟩
def laid1 : List (String × DataW Unit) := Rows.rowCallsRow.laid
/-- the tables, as the row lists them, lie in their variables -/
theorem table {W : World} (h : laidMetH Tryz.prog laid1 W) : (∃ e fz, W.heap[0]? = some (.cells (Lib.deBruijn32tab.map fun (n : Nat) => Value.int .u8 n).toArray e fz)) ∧ (∃ e fz, W.heap[3]? = some (.cells (Lib.deBruijn64tab.map fun (n : Nat) => Value.int .u8 n).toArray e fz)) := by
  have h1 : laidMet Tryz.prog (("math/bits.deBruijn32tab", .agg (Lib.deBruijn32tab.map fun (z : Nat) => DataW.lit (.int .u8 z))) :: ("math/bits.deBruijn64tab", .agg (Lib.deBruijn64tab.map fun (z : Nat) => DataW.lit (.int .u8 z))) :: ("unicode/utf8.acceptRanges", Rows.laid_unicode_utf8_acceptRanges) :: ("unicode/utf8.first", Rows.laid_unicode_utf8_first) :: []) W := h
  obtain ⟨ps, h2, _⟩ := h1
  obtain ⟨t0, q0, k0⟩ := Ev.laid_one h2 (by kernel_rfl) (by kernel_rfl) Tryz.underlying331 Tryz.underlying5 (by kernel_rfl) (by kernel_rfl)
  obtain ⟨t1, q1, k1⟩ := Ev.laid_one k0 (by kernel_rfl) (by kernel_rfl) Tryz.underlying359 Tryz.underlying5 (by kernel_rfl) (by kernel_rfl)
  exact ⟨t0, t1⟩

set_option maxRecDepth 100000 in
theorem contract (H : Type) (enc : TypeId × Value → H) (W : World) (base : Nat) (args : Array Value) (ds gs : List (DataW H)) (before : List MemPlace)
    (hval : ∀ (j : Nat) t v, Tryz.f4.params[j]? = some t → args[j]? = some v → Value.okWide Tryz.prog W .any base t v)
    (hW : DataW.Whole enc Tryz.prog Tryz.f4.params.toList Rows.rowCallsSpec.vars false W args.toList ds gs before)
    (hsz : (DataW.weightsEach Tryz.prog (Tryz.f4.params.toList ++ Rows.rowCallsSpec.plain.varTypes Tryz.prog) (ds ++ gs)).all (· ≤ reachBytes) = true) (hX : laidMetH Tryz.prog laid1 W) :
    Calls Tryz.prog 4 args W fun e W' => ∃ v, e = .returned v ∧ Rows.rowCallsSpec.post enc Tryz.prog Tryz.f4 false true false false W args v W' := by
  have hW' := hW
  obtain ⟨p, q, hA0, hV, rfl, hfz, hnd⟩ := hW
  have hA : DataW.TrodAll enc Tryz.prog W 0 (fun _ => true) true Tryz.f4.params.toList args.toList ds p := hA0
  rw [Tryz.params4] at hA hval hsz
  obtain ⟨v0, vs0, d0, ds0, p0, q0, hargs, rfl, rfl, h0, r0⟩ := trodAll_cons hA
  obtain ⟨v1, vs1, d1, ds1, p1, q1, rfl, rfl, rfl, h1, r1⟩ := trodAll_cons r0
  obtain ⟨v2, vs2, d2, ds2, p2, q2, rfl, rfl, rfl, h2, r2⟩ := trodAll_cons r1
  obtain ⟨v3, vs3, d3, ds3, p3, q3, rfl, rfl, rfl, h3, r3⟩ := trodAll_cons r2
  obtain ⟨rfl, rfl, rfl⟩ := trodAll_nil r3
  obtain rfl : args = #[v0, v1, v2, v3] := by cases args; simp_all
  obtain ⟨rfl, rfl⟩ := trodVars_none hV
  obtain ⟨l0, a0, g0⟩ := arg_toks (hval 0 27 v0 rfl rfl) h0 (light_arg hsz (j := 0) rfl rfl)
  obtain ⟨l1, a1, g1⟩ := arg_toks (hval 1 27 v1 rfl rfl) h1 (light_arg hsz (j := 1) rfl rfl)
  obtain ⟨n2, rfl, _, _, w2⟩ := open_int Tryz.underlying3 (hval 2 3 v2 rfl rfl) h2
  obtain ⟨n3, rfl, _, _, w3⟩ := open_int Tryz.underlying3 (hval 3 3 v3 rfl rfl) h3
  clear hA0
  obtain ⟨⟨e0, z0, hT0⟩, ⟨e1, z1, hT1⟩⟩ := table hX
  refine (rowCalls_walk v0 v1 l0 l1 n2 n3 W a0 a1 g0 g1 hT0 hT1).mono fun e W' ⟨he, hb⟩ => ?_
  subst he
  refine ⟨_, rfl, law_post hW' laidOut (fun t ht => ?_) rfl rfl (by rfl) Tryz.underlying4 hb⟩
  rw [Tryz.params4] at ht
  simp at ht
  first
    | (subst ht; first | exact readable0 | exact readable1)
    | (rcases ht with rfl | rfl <;> (first | exact readable0 | exact readable1))
    | (rcases ht with rfl | rfl | rfl <;> (first | exact readable0 | exact readable1))
    | (rcases ht with rfl | rfl | rfl | rfl <;> (first | exact readable0 | exact readable1))

set_option maxRecDepth 100000 in
theorem lifted (os : Os) (started : os.Started) (H : Type) (enc : TypeId × Value → H) :
    ReturnsInHanded {} Tryz.checked os 4 .any (fun w args => (Rows.rowCallsSpec.pre enc Tryz.prog Tryz.f4 [] false w args ∧ laidMetH Tryz.prog laid1 w) ∧ sizedMet enc Tryz.prog Tryz.f4 (OpenSpec.ofChange Rows.rowCallsSpec) false w args)
      (Rows.rowCallsSpec.post enc Tryz.prog Tryz.f4 false true false false) := by
  refine returnsInHanded_of_change_and (C := Tryz.checked) (X := fun w _ => laidMetH Tryz.prog laid1 w) (fun _ _ _ hh h => h.of_heap hh) own started (by kernel_rfl) Tryz.func4
    (ChangeSpec.witness_shaped (enc := enc) (C := Tryz.checked) (os := os) (X := fun w _ => laidMetH Tryz.prog laid1 w) false (World.laidAll Tryz.prog os laid1) #[.slice none 0 0, .slice none 0 0, .int .i64 0, .int .i64 0] 8 (World.laidAll_os _ _ _)
      (World.shaped_of_ZipB (by kernel_rfl) (by kernel_rfl)) (by kernel_rfl) (by kernel_rfl) (by kernel_rfl)
      (by rw [MakeChecks.laidMetH_plain _ _ _ (by kernel_rfl)]; exact laidMet_laidAll _ (by kernel_rfl) (by kernel_rfl))) ?_
  intro W base args ds gs before hval hW _ hsz hX _
  exact contract H enc W base args ds gs before hval hW hsz hX

theorem row_holds : Rows.RowCallsSaid :=
  OpenClaim.holds_of_wide 4 Tryz.f4 rfl rfl rfl rfl rfl rfl rfl ⟨rfl, rfl, rfl, rfl, rfl⟩ rfl rfl rfl rfl rfl (by kernel_rfl) Tryz.func4 facts
    (of_decide_eq_true (by kernel_rfl)) (by unfold Func.isWrapper; first | (rw [if_pos (by decide +kernel)]; kernel_rfl) | (rw [if_neg (by decide +kernel)]; exact ⟨rfl, rfl⟩))
    (fun os started H enc _ => lifted os started H enc)

theorem holds : Rows.RowCallsCardSaid :=
  Claim7.holds_tied_plain_at .later [] [.data, .data, .data, .pinned] true Rows.rowCallsCard.stood.harness false
    row_holds (fun _ h => by cases h) (by kernel_rfl) (fun _ h => by cases h) rowCalls_row_tie rfl ⟨rfl, rfl⟩ (by kernel_rfl) rfl
    (fun f fn hf hfn => by
      obtain rfl : f = 4 := Option.some.inj ((show Tryz.prog.funcNamed Tryz.f4.name = some 4 by kernel_rfl).symm.trans hf) |>.symm
      obtain rfl : fn = Tryz.f4 := (Option.some.inj (Tryz.func4.symm.trans hfn)).symm
      exact ⟨by kernel_rfl, fun j t ht => by
        rw [Tryz.params4] at ht
        have hall : ∀ t ∈ [27, 27, 3, 3], Tryz.prog.wantsStandIn t = false := by
          have hb : ([27, 27, 3, 3].all fun t => !Tryz.prog.wantsStandIn t) = true := by kernel_rfl
          intro t h; simpa using List.all_eq_true.1 hb t h
        exact hall t (List.mem_of_getElem? (by rw [← Array.getElem?_toList] at ht; exact ht))⟩)
    (by kernel_rfl)
end Go.Proofs.YtkeillekikbhoaaGreatDoor.rowCalls
