/- Attributes are asked, changed, filled and compared as the document says: AttrCalls comes to true for every input. No condition. -/
import Derived.Test.YtjoogocgklhgpaaAtU
import Derived.Test.YtjoogocgklhgpaaRowS
import Derived.Test.YtjoogocgklhgpaaAtArg
namespace Go.Proofs.Ytjoogocgklhgpaa.attrCalls
open Go.ChangeShapes Go.WideShapes Go.ChangeAt Go.RowKit
open Go.ChangeMaps (open_string shut_string)

theorem own : ownKnob Try.prog.godebug = none := by kernel_rfl
theorem laidOut : laidOutB Try.prog = true := by kernel_rfl
theorem readable0 : Try.prog.readableRec 22 = true ∧ 22 < Try.prog.types.size := ⟨by kernel_rfl, of_decide_eq_true (by kernel_rfl)⟩
theorem readable1 : Try.prog.readableRec 26 = true ∧ 26 < Try.prog.types.size := ⟨by kernel_rfl, of_decide_eq_true (by kernel_rfl)⟩
theorem readable2 : Try.prog.readableRec 9 = true ∧ 9 < Try.prog.types.size := ⟨by kernel_rfl, of_decide_eq_true (by kernel_rfl)⟩

theorem contract (H : Type) (enc : TypeId × Value → H) (W : World) (base : Nat) (args : Array Value) (ds gs : List (DataW H)) (before : List MemPlace)
    (hval : ∀ (j : Nat) t v, Try.f5.params[j]? = some t → args[j]? = some v → Value.okWide Try.prog W .any base t v)
    (hW : DataW.Whole enc Try.prog Try.f5.params.toList Rows.attrCallsSpec.vars false W args.toList ds gs before)
    (hsz : (DataW.weightsEach Try.prog (Try.f5.params.toList ++ Rows.attrCallsSpec.plain.varTypes Try.prog) (ds ++ gs)).all (· ≤ reachBytes) = true) :
    Calls Try.prog 5 args W fun e W' => ∃ v, e = .returned v ∧ Rows.attrCallsSpec.post enc Try.prog Try.f5 false true false false W args v W' := by
  have hW' := hW
  obtain ⟨p, q, hA0, hV, rfl, hfz, hnd⟩ := hW
  have hA : DataW.TrodAll enc Try.prog W 0 (fun _ => true) true Try.f5.params.toList args.toList ds p := hA0
  rw [Try.params5] at hA hval hsz
  obtain ⟨v0, vs0, d0, ds0, p0, q0, hargs, rfl, rfl, h0, r0⟩ := trodAll_cons hA
  obtain ⟨v1, vs1, d1, ds1, p1, q1, rfl, rfl, rfl, h1, r1⟩ := trodAll_cons r0
  obtain ⟨v2, vs2, d2, ds2, p2, q2, rfl, rfl, rfl, h2, r2⟩ := trodAll_cons r1
  obtain ⟨v3, vs3, d3, ds3, p3, q3, rfl, rfl, rfl, h3, r3⟩ := trodAll_cons r2
  obtain ⟨v4, vs4, d4, ds4, p4, q4, rfl, rfl, rfl, h4, r4⟩ := trodAll_cons r3
  obtain ⟨rfl, rfl, rfl⟩ := trodAll_nil r4
  obtain rfl : args = #[v0, v1, v2, v3, v4] := by cases args; simp_all
  obtain ⟨rfl, rfl⟩ := trodVars_none hV
  obtain ⟨l0, a0, g0, k0⟩ := arg_ats (hval 0 22 v0 rfl rfl) h0
  have z0 := reach_list hsz (j := 0) (t := 22) (e := 29) 32 rfl rfl Try.underlying22 (by kernel_rfl) k0
  obtain ⟨l1, a1, g1, k1⟩ := arg_ats (hval 1 22 v1 rfl rfl) h1
  have z1 := reach_list hsz (j := 1) (t := 22) (e := 29) 32 rfl rfl Try.underlying22 (by kernel_rfl) k1
  obtain ⟨s2, rfl, _, _, w2⟩ := open_string Try.underlying9 (hval 2 9 v2 rfl rfl) h2
  obtain ⟨s3, rfl, _, _, w3⟩ := open_string Try.underlying9 (hval 3 9 v3 rfl rfl) h3
  obtain ⟨l4, a4, g4, k4⟩ := arg_sps (hval 4 26 v4 rfl rfl) h4
  have z4 := reach_list hsz (j := 4) (t := 26) (e := 45) 40 rfl rfl Try.underlying26 (by kernel_rfl) k4
  clear hA0
  refine (attrCalls_walk v0 v1 v4 l0 l1 s2 s3 l4 W.heap.size W a0 a1 a4 (Nat.le_refl _) (by unfold ReachA; omega) (by unfold ReachA; omega) (by unfold Reach; omega) w3 g4 g0).mono fun e W' ⟨he, hb⟩ => ?_
  subst he
  refine ⟨_, rfl, law_post hW' laidOut (fun t ht => ?_) rfl rfl (by rfl) Try.underlying4 hb⟩
  rw [Try.params5] at ht
  simp at ht
  first
    | (subst ht; first | exact readable0 | exact readable1 | exact readable2)
    | (rcases ht with rfl | rfl <;> (first | exact readable0 | exact readable1 | exact readable2))
    | (rcases ht with rfl | rfl | rfl <;> (first | exact readable0 | exact readable1 | exact readable2))
    | (rcases ht with rfl | rfl | rfl | rfl <;> (first | exact readable0 | exact readable1 | exact readable2))
    | (rcases ht with rfl | rfl | rfl | rfl | rfl <;> (first | exact readable0 | exact readable1 | exact readable2))

set_option maxRecDepth 100000 in
theorem lifted (os : Os) (started : os.Started) (H : Type) (enc : TypeId × Value → H) :
    ReturnsInHanded {} Try.checked os 5 .any (Rows.attrCallsSpec.pre6 enc Try.prog Try.f5 Rows.attrCallsRow.domain false) (Rows.attrCallsSpec.post enc Try.prog Try.f5 false true false false) := by
  refine returnsInHanded_of_change_sized (C := Try.checked) own started (by kernel_rfl) Try.func5
    (ChangeSpec.witness6 (enc := enc) (C := Try.checked) false ⟨#[], #[.slice none 0 0, .slice none 0 0, .string .empty, .string .empty, .slice none 0 0], []⟩ 8 (by kernel_rfl) (by kernel_rfl) (by kernel_rfl) (by kernel_rfl)) ?_
  intro W base args ds gs before hval hW _ hsz _
  exact contract H enc W base args ds gs before hval hW hsz

theorem holds : Rows.AttrCallsSaid :=
  OpenClaim.holds_of_wide 5 Try.f5 rfl rfl rfl rfl rfl rfl rfl ⟨rfl, rfl, rfl, rfl, rfl⟩ rfl rfl rfl rfl rfl (by kernel_rfl) Try.func5 (by kernel_rfl)
    (of_decide_eq_true (by kernel_rfl)) (by unfold Func.isWrapper; first | (rw [if_pos (by decide +kernel)]; kernel_rfl) | (rw [if_neg (by decide +kernel)]; exact ⟨rfl, rfl⟩))
    (fun os started H enc _ => lifted os started H enc)
end Go.Proofs.Ytjoogocgklhgpaa.attrCalls
