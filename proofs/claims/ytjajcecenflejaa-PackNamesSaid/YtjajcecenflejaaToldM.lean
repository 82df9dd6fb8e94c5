/- What the machine is told, in a seat that reaches wire's Reader: made, of a reader that New made (the machine does not know == of two pointers). -/
import Derived.Test.YtjajcecenflejaaEwH
import Derived.Test.YtjajcecenflejaaFt
import Derived.LaidEqlPtr
import Derived.WalkKit
namespace Go.Ev
open Go.RowKit
/-- whether an object's first cell tells where it lies itself -/
noncomputable def selfI : Intr := fun a s => match a with
  | [.p b 0] => (match s.h.get b with
    | some (.cells (.p b' 0 :: _) _ _) => bif Ps.beq b b' then some (.b true, s) else none
    | _ => none)
  | _ => none
def Selfs (P : Program) (g : Nat) : Prop := ∀ (b : Nat) (w : World), w.cell? ⟨b, 0, none⟩ = some (.pointer (some ⟨b, 0, none⟩)) → Calls P g #[.pointer (some ⟨b, 0, none⟩)] w fun e w' => e = .returned (.bool true) ∧ w' = w
theorem self_ok {P : Program} {B : Nat → Prop} {W : World} {g : Nat} (hen : ∀ args w, (callFunc g args).run P w = .ok (.enter g args) w) (hc : Selfs P g) : IntrOk P B W g selfI := by
  intro vs s s' v h D R w xs r hx
  refine ⟨hen _ _, ?_⟩
  unfold selfI at h
  split at h
  · rename_i b
    obtain ⟨x0, x1, z1, z2, rfl⟩ := concL_cons.1 hx
    simp only [concL, Option.some.injEq] at z2; subst z2
    obtain ⟨k, x, hk, rfl⟩ := conc_p z1
    split at h
    · rename_i b' _ _ _ hb
      cases he : Ps.beq b b' with
      | false => rw [he] at h; cases h
      | true =>
        rw [he, cond_true] at h
        have he' := (Ps.beq_iff _ _).1 he
        subst he'
        simp only [Option.some.injEq, Prod.mk.injEq] at h
        obtain ⟨rfl, rfl⟩ := h
        obtain ⟨k', x', ys, tail, h1, h2, h3, h4, h5⟩ := cells_at r hb hk
        rw [hk] at h1
        simp only [Option.some.injEq, Prod.mk.injEq] at h1
        obtain ⟨rfl, rfl⟩ := h1
        obtain ⟨y0, y1, q1, q2, rfl⟩ := concL_cons.1 h2
        have q1' : y0 = .pointer (some ⟨k, 0, none⟩) := by rw [z1] at q1; simpa using q1.symm
        subst q1'
        refine Calls.mono (hc k w (by simp [World.cell?, h3])) ?_
        rintro ex w' ⟨rfl, rfl⟩
        exact ⟨_, rfl, came_one ⟨.b true, _, R, List.mem_cons_self, R.le_refl, rfl, r, Kept.refl B w'⟩⟩
    · cases h
  · cases h
end Go.Ev
namespace Go.Proofs.Ytjajcecenflejaa
open Go.RowKit Go.Ev
theorem infoRd : ∃ j, Try.prog.info? 116 = some j := by
  have h : (Try.prog.info? 116).isSome = true := by kernel_rfl
  exact Option.isSome_iff_exists.1 h
set_option maxRecDepth 100000 in
theorem made_self : Selfs Try.prog 79 := by
  intro g w hc
  obtain ⟨j, hj⟩ := infoRd
  have he := run_eql_ptr_same (P := Try.prog) w ⟨g, 0, none⟩ Try.underlying76 hj
  go_enter Try.func79, Try.ntmps79
  go_wp2
  go_ret
  exact ⟨rfl, rfl⟩
noncomputable def toldN : PT Intr := PT.lf.set (some selfI) (psOf 79)
theorem toldN_ok {B : Nat → Prop} {W : World} : ∀ g f, toldN.get (psOf g) = some f → IntrOk Try.prog B W g f :=
  tabI_ok tabI_lf (self_ok (enters_of Try.func79 (by kernel_rfl) rfl) made_self)
end Go.Proofs.Ytjajcecenflejaa
