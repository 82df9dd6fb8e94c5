/- The order of attributes is one: AttrOrder comes to true for every three lists. No condition. -/
import Derived.Test.YtjoogocgklhgpaaAtY
import Derived.Test.YtjoogocgklhgpaaRowS
import Derived.Test.YtjoogocgklhgpaaAtArg
namespace Go.Proofs.Ytjoogocgklhgpaa.attrOrder
open Go.ChangeShapes Go.WideShapes Go.ChangeAt Go.RowKit
open Go.ChangeMaps (open_string shut_string)

theorem own : ownKnob Try.prog.godebug = none := by kernel_rfl
theorem laidOut : laidOutB Try.prog = true := by kernel_rfl
theorem readable0 : Try.prog.readableRec 22 = true ∧ 22 < Try.prog.types.size := ⟨by kernel_rfl, of_decide_eq_true (by kernel_rfl)⟩

theorem contract (H : Type) (enc : TypeId × Value → H) (W : World) (base : Nat) (args : Array Value) (ds gs : List (DataW H)) (before : List MemPlace)
    (hval : ∀ (j : Nat) t v, Try.f7.params[j]? = some t → args[j]? = some v → Value.okWide Try.prog W .any base t v)
    (hW : DataW.Whole enc Try.prog Try.f7.params.toList Rows.attrOrderSpec.vars false W args.toList ds gs before)
    (hsz : (DataW.weightsEach Try.prog (Try.f7.params.toList ++ Rows.attrOrderSpec.plain.varTypes Try.prog) (ds ++ gs)).all (· ≤ reachBytes) = true) :
    Calls Try.prog 7 args W fun e W' => ∃ v, e = .returned v ∧ Rows.attrOrderSpec.post enc Try.prog Try.f7 false true false false W args v W' := by
  have hW' := hW
  obtain ⟨p, q, hA0, hV, rfl, hfz, hnd⟩ := hW
  have hA : DataW.TrodAll enc Try.prog W 0 (fun _ => true) true Try.f7.params.toList args.toList ds p := hA0
  rw [Try.params7] at hA hval hsz
  obtain ⟨v0, vs0, d0, ds0, p0, q0, hargs, rfl, rfl, h0, r0⟩ := trodAll_cons hA
  obtain ⟨v1, vs1, d1, ds1, p1, q1, rfl, rfl, rfl, h1, r1⟩ := trodAll_cons r0
  obtain ⟨v2, vs2, d2, ds2, p2, q2, rfl, rfl, rfl, h2, r2⟩ := trodAll_cons r1
  obtain ⟨rfl, rfl, rfl⟩ := trodAll_nil r2
  obtain rfl : args = #[v0, v1, v2] := by cases args; simp_all
  obtain ⟨rfl, rfl⟩ := trodVars_none hV
  obtain ⟨l0, a0, g0, k0⟩ := arg_ats (hval 0 22 v0 rfl rfl) h0
  have z0 := reach_list hsz (j := 0) (t := 22) (e := 29) 32 rfl rfl Try.underlying22 (by kernel_rfl) k0
  obtain ⟨l1, a1, g1, k1⟩ := arg_ats (hval 1 22 v1 rfl rfl) h1
  have z1 := reach_list hsz (j := 1) (t := 22) (e := 29) 32 rfl rfl Try.underlying22 (by kernel_rfl) k1
  obtain ⟨l2, a2, g2, k2⟩ := arg_ats (hval 2 22 v2 rfl rfl) h2
  have z2 := reach_list hsz (j := 2) (t := 22) (e := 29) 32 rfl rfl Try.underlying22 (by kernel_rfl) k2
  clear hA0
  refine (attrOrder_walk v0 v1 v2 l0 l1 l2 W.heap.size W a0 a1 a2 (Nat.le_refl _) (by unfold ReachA; omega) (by unfold ReachA; omega) (by unfold ReachA; omega)).mono fun e W' ⟨he, hb⟩ => ?_
  subst he
  refine ⟨_, rfl, law_post hW' laidOut (fun t ht => ?_) rfl rfl (by rfl) Try.underlying4 hb⟩
  rw [Try.params7] at ht
  simp at ht
  first
    | (subst ht; first | exact readable0)
    | (rcases ht with rfl | rfl <;> (first | exact readable0))
    | (rcases ht with rfl | rfl | rfl <;> (first | exact readable0))

set_option maxRecDepth 100000 in
theorem lifted (os : Os) (started : os.Started) (H : Type) (enc : TypeId × Value → H) :
    ReturnsInHanded {} Try.checked os 7 .any (Rows.attrOrderSpec.pre6 enc Try.prog Try.f7 Rows.attrOrderRow.domain false) (Rows.attrOrderSpec.post enc Try.prog Try.f7 false true false false) := by
  refine returnsInHanded_of_change_sized (C := Try.checked) own started (by kernel_rfl) Try.func7
    (ChangeSpec.witness6 (enc := enc) (C := Try.checked) false ⟨#[], #[.slice none 0 0, .slice none 0 0, .slice none 0 0], []⟩ 8 (by kernel_rfl) (by kernel_rfl) (by kernel_rfl) (by kernel_rfl)) ?_
  intro W base args ds gs before hval hW _ hsz _
  exact contract H enc W base args ds gs before hval hW hsz

theorem holds : Rows.AttrOrderSaid :=
  OpenClaim.holds_of_wide 7 Try.f7 rfl rfl rfl rfl rfl rfl rfl ⟨rfl, rfl, rfl, rfl, rfl⟩ rfl rfl rfl rfl rfl (by kernel_rfl) Try.func7 (by kernel_rfl)
    (of_decide_eq_true (by kernel_rfl)) (by unfold Func.isWrapper; first | (rw [if_pos (by decide +kernel)]; kernel_rfl) | (rw [if_neg (by decide +kernel)]; exact ⟨rfl, rfl⟩))
    (fun os started H enc _ => lifted os started H enc)
end Go.Proofs.Ytjoogocgklhgpaa.attrOrder
