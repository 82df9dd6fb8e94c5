/- Arguments that are lists of attributes or of specs. -/
import Derived.Test.YtjoogocgklhgpaaRowS
import Derived.Test.YtjoogocgklhgpaaAtV
namespace Go.Proofs.Ytjoogocgklhgpaa
open Go.ChangeShapes Go.WideShapes Go.ChangeAt Go.RowKit Go.Deep

theorem reach_list {H : Type} {P : Program} {T : Type} {ts : List TypeId} {ds : List (DataW H)} {d : DataW H} {l : List T} (h : (DataW.weightsEach P ts ds).all (· ≤ reachBytes) = true) {j : Nat} {t e : TypeId} (b : Nat)
    (ht : ts[j]? = some t) (hd : ds[j]? = some d) (hu : P.underlying t = some (.slice e)) (hb : P.bytesOf e = b) (hl : d = .nil ∧ l = [] ∨ ∃ elems spare, d = .slice elems spare ∧ elems.length = l.length) : l.length * b ≤ 140737488351232 := by
  rcases hl with ⟨_, rfl⟩ | ⟨el, sp, rfl, he⟩
  · simp
  · have := sized_slice h ht hd hu
    rw [hb] at this
    unfold reachBytes at this
    rw [← he]
    exact Nat.le_trans (Nat.mul_le_mul_right _ (Nat.le_add_right _ _)) this

theorem oneAt : oneCellFields Try.prog (Try.prog.fieldsOf 29) = true := by kernel_rfl
theorem oneSp : oneCellFields Try.prog (Try.prog.fieldsOf 45) = true := by kernel_rfl
theorem strAt : Try.prog.underlying 29 = some (.struct (Try.prog.fieldsOf 29)) := by kernel_rfl
theorem strSp : Try.prog.underlying 45 = some (.struct (Try.prog.fieldsOf 45)) := by kernel_rfl
theorem cellsAt : Try.prog.cellsOf 29 = 2 := by kernel_rfl
theorem cellsSp : Try.prog.cellsOf 45 = 3 := by kernel_rfl
theorem szAt : (Try.prog.fieldsOf 29).size = 2 := by kernel_rfl
theorem szSp : (Try.prog.fieldsOf 45).size = 3 := by kernel_rfl
theorem fAt0 : ∃ f : Field, (Try.prog.fieldsOf 29)[0]? = some f ∧ f.type = 9 := Option.map_eq_some_iff.1 (by kernel_rfl : ((Try.prog.fieldsOf 29)[0]?).map (·.type) = some 9)
theorem fAt1 : ∃ f : Field, (Try.prog.fieldsOf 29)[1]? = some f ∧ f.type = 9 := Option.map_eq_some_iff.1 (by kernel_rfl : ((Try.prog.fieldsOf 29)[1]?).map (·.type) = some 9)
theorem fSp0 : ∃ f : Field, (Try.prog.fieldsOf 45)[0]? = some f ∧ f.type = 9 := Option.map_eq_some_iff.1 (by kernel_rfl : ((Try.prog.fieldsOf 45)[0]?).map (·.type) = some 9)
theorem fSp1 : ∃ f : Field, (Try.prog.fieldsOf 45)[1]? = some f ∧ f.type = 9 := Option.map_eq_some_iff.1 (by kernel_rfl : ((Try.prog.fieldsOf 45)[1]?).map (·.type) = some 9)
theorem fSp2 : ∃ f : Field, (Try.prog.fieldsOf 45)[2]? = some f ∧ f.type = 4 := Option.map_eq_some_iff.1 (by kernel_rfl : ((Try.prog.fieldsOf 45)[2]?).map (·.type) = some 4)

section
variable {H : Type} {enc : TypeId × Value → H} {W : World} {base B : Nat} {sp : Nat → Bool} {hd : Bool} {v : Value} {d : DataW H} {ps : List MemPlace} {r : Go.Reach}
theorem arg_ats (hval : Value.okWide Try.prog W r B 22 v) (h : DataW.Trod enc Try.prog W base sp hd 22 v d ps) :
    ∃ l : List At, Ats W W.heap.size v l ∧ Hid (∀ a ∈ l, a.n.size ≤ maxLen ∧ a.v.size ≤ maxLen) ∧ (d = .nil ∧ l = [] ∨ ∃ elems spare, d = .slice elems spare ∧ elems.length = l.length) :=
  arg_list (e := 29) At.c (fun a => a.n.size ≤ maxLen ∧ a.v.size ≤ maxLen) Try.underlying22 cellsAt (by omega) hval h fun n cs x hx => by
    obtain ⟨hl, m, hf⟩ := elem_fields strAt oneAt (cellsAt.trans szAt.symm) hx
    rw [szAt] at hl
    obtain ⟨f0, h0, t0⟩ := fAt0
    obtain ⟨f1, h1, t1⟩ := fAt1
    obtain ⟨u0, y0, c0, r0⟩ := hf 0 f0 h0
    obtain ⟨u1, y1, c1, r1⟩ := hf 1 f1 h1
    rw [t0] at r0
    rw [t1] at r1
    obtain ⟨s0, e0, _, w0⟩ := DataW.trod_string Try.underlying9 r0
    obtain ⟨s1, e1, _, w1⟩ := DataW.trod_string Try.underlying9 r1
    simp only [List.cons.injEq, and_true] at e0 e1
    subst e0 e1
    match cs, hl with
    | [a, b], _ =>
      simp at c0 c1
      subst c0 c1
      exact ⟨⟨s0, s1⟩, rfl, rfl, w0, w1⟩
theorem arg_sps (hval : Value.okWide Try.prog W r B 26 v) (h : DataW.Trod enc Try.prog W base sp hd 26 v d ps) :
    ∃ l : List Sp, Sps W W.heap.size v l ∧ Hid (∀ a ∈ l, a.n.size ≤ maxLen ∧ a.d.size ≤ maxLen) ∧ (d = .nil ∧ l = [] ∨ ∃ elems spare, d = .slice elems spare ∧ elems.length = l.length) :=
  arg_list (e := 45) Sp.c (fun a => a.n.size ≤ maxLen ∧ a.d.size ≤ maxLen) Try.underlying26 cellsSp (by omega) hval h fun n cs x hx => by
    obtain ⟨hl, m, hf⟩ := elem_fields strSp oneSp (cellsSp.trans szSp.symm) hx
    rw [szSp] at hl
    obtain ⟨f0, h0, t0⟩ := fSp0
    obtain ⟨f1, h1, t1⟩ := fSp1
    obtain ⟨f2, h2, t2⟩ := fSp2
    obtain ⟨u0, y0, c0, r0⟩ := hf 0 f0 h0
    obtain ⟨u1, y1, c1, r1⟩ := hf 1 f1 h1
    obtain ⟨u2, y2, c2, r2⟩ := hf 2 f2 h2
    rw [t0] at r0
    rw [t1] at r1
    rw [t2] at r2
    obtain ⟨s0, e0, _, w0⟩ := DataW.trod_string Try.underlying9 r0
    obtain ⟨s1, e1, _, w1⟩ := DataW.trod_string Try.underlying9 r1
    obtain ⟨b, e2, _⟩ := DataW.trod_bool Try.underlying4 r2
    simp only [List.cons.injEq, and_true] at e0 e1 e2
    subst e0 e1 e2
    match cs, hl with
    | [a, b, c], _ =>
      simp at c0 c1 c2
      subst c0 c1 c2
      exact ⟨⟨s0, s1, _⟩, rfl, rfl, w0, w1⟩
end
end Go.Proofs.Ytjoogocgklhgpaa
