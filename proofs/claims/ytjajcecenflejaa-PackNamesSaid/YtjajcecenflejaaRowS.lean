/- Arguments that are slices of structs, as lists; and what the row's reach says of their lengths. -/
import Derived.Test.YtjajcecenflejaaRow
import Derived.Test.YtjajcecenflejaaRd
import Derived.Deep.Slices
import Derived.Deep.Fields
import Derived.SizedLaws
namespace Go.Proofs.Ytjajcecenflejaa
open Go.ChangeShapes Go.WideShapes Go.ChangeAt Go.RowKit Go.Deep

theorem addr_add_add (a : Addr) (i j : Nat) : (a.add i).add j = a.add (i + j) := by
  unfold Addr.add
  by_cases hi : i = 0 <;> by_cases hj : j = 0 <;> simp [hi, hj, Nat.add_assoc]
theorem addr_add_0 (a : Addr) : a.add 0 = a := by unfold Addr.add; simp

section
variable {H : Type} {enc : TypeId × Value → H} {P : Program} {W : World} {base B : Nat} {sp : Nat → Bool} {hd : Bool} {t e : TypeId} {v : Value} {d : DataW H} {ps : List MemPlace} {r : Reach}

theorem list_of {T : Type} {Q : Nat → T → Prop} : ∀ (n : Nat), (∀ i, i < n → ∃ x, Q i x) → ∃ l : List T, l.length = n ∧ ∀ i (hi : i < l.length), Q i l[i]
  | 0, _ => ⟨[], rfl, fun i hi => by simp at hi⟩
  | n + 1, h => by
    obtain ⟨l, hl, hq⟩ := list_of n fun i hi => h i (by omega)
    obtain ⟨x, hx⟩ := h n (by omega)
    refine ⟨l ++ [x], by simp [hl], fun i hi => ?_⟩
    rw [List.length_append] at hi
    simp at hi
    by_cases hlt : i < l.length
    · rw [List.getElem_append_left hlt]; exact hq i hlt
    · have e1 : i = l.length := by omega
      subst e1
      rw [List.getElem_append_right (Nat.le_refl _)]
      simpa [hl] using hx

theorem flat_get {T : Type} (c : T → List Value) (sz : Nat) : ∀ (l : List T), (∀ x ∈ l, (c x).length = sz) → (l.flatMap c).length = l.length * sz ∧ ∀ k (hk : k < l.length) j, j < sz → (l.flatMap c)[k * sz + j]? = (c l[k])[j]?
  | [], _ => ⟨by simp, fun k hk => by simp at hk⟩
  | x :: l, h => by
    obtain ⟨h1, h2⟩ := flat_get c sz l fun y hy => h y (by simp [hy])
    have h0 := h x (by simp)
    refine ⟨by simp only [List.flatMap_cons, List.length_append, h1, h0, List.length_cons]; rw [Nat.add_mul]; omega, fun k hk j hj => ?_⟩
    cases k with
    | zero =>
      simp only [List.flatMap_cons, Nat.zero_mul, Nat.zero_add, List.getElem_cons_zero]
      rw [List.getElem?_append_left (by omega)]
    | succ k =>
      simp only [List.flatMap_cons, List.getElem_cons_succ]
      rw [List.getElem?_append_right (by rw [h0, Nat.add_mul]; omega), h0, show (k + 1) * sz + j - sz = k * sz + j by rw [Nat.add_mul]; omega]
      exact h2 k (by simpa using hk) j hj

/-- an argument that is a slice: its elements read as a list -/
theorem arg_list {T : Type} (c : T → List Value) (good : T → Prop) (ht : P.underlying t = some (.slice e)) {sz : Nat} (hC : P.cellsOf e = sz) (hsz : 0 < sz) (hval : Value.okWide P W r B t v) (h : DataW.Trod enc P W base sp hd t v d ps)
    (helem : ∀ (n : Nat) (cs : List Value) (x : DataW H × List MemPlace), DataW.trod enc P W base sp hd n e cs = some x → ∃ y : T, cs = c y ∧ (c y).length = sz ∧ good y) :
    ∃ l : List T, Rd W W.heap.size v sz l.length (l.flatMap c) ∧ (∀ y ∈ l, good y) ∧ (d = .nil ∧ l = [] ∨ ∃ elems spare, d = .slice elems spare ∧ elems.length = l.length) := by
  obtain ⟨a0, n0, c0, rfl⟩ := okWide_slice ht hval
  obtain ⟨fuel, hf⟩ := h
  rcases open_slice ht hf with ⟨hcs, hx⟩ | ⟨a, len, cap, m, n, D, Pl, hcs, hb, h1, h2, hm, hx, hi⟩
  · have e1 : Value.slice a0 n0 c0 = .slice none 0 0 := by simpa [Value.cells] using hcs
    rw [e1]
    simp only [Prod.mk.injEq] at hx
    exact ⟨[], Rd.nil W _ sz, by simp, .inl ⟨hx.1, rfl⟩⟩
  · have e1 : Value.slice a0 n0 c0 = .slice (some a) len cap := by simpa [Value.cells] using hcs
    rw [e1]
    simp only [Prod.mk.injEq] at hx
    have hlm : len ≤ m := by rw [hm]; split <;> omega
    obtain ⟨l, hl, hq⟩ := list_of (Q := fun i (y : T) => (∀ j, j < sz → W.cell? (a.add (i * sz + j)) = (c y)[j]?) ∧ (c y).length = sz ∧ good y) len (fun i hil => by
      obtain ⟨cs', hc, ht'⟩ := hi i (by omega)
      rw [hC] at hc
      obtain ⟨y, rfl, hly, hg⟩ := helem n cs' _ ht'
      obtain ⟨_, _, hat⟩ := World.cells?_some hc
      exact ⟨y, fun j hj => by rw [← addr_add_add]; exact hat j hj, hly, hg⟩)
    obtain ⟨f1, f2⟩ := flat_get c sz l fun y hy => by
      obtain ⟨i, hi, rfl⟩ := List.mem_iff_getElem.1 hy
      exact (hq i hi).2.1
    refine ⟨l, ⟨some a, cap, by rw [hl], f1, by omega, h2, ?_⟩, fun y hy => ?_, .inr ⟨_, _, hx.1, by simp [hl]⟩⟩
    · by_cases hl0 : l.length = 0
      · exact .inl hl0
      · right
        have hcell : ∀ j u, (l.flatMap c)[j]? = some u → W.cell? (a.add j) = some u := by
          intro j u hu
          have hjl : j < l.length * sz := by rw [← f1]; exact (List.getElem?_eq_some_iff.1 hu).1
          have hk : j / sz < l.length := Nat.div_lt_of_lt_mul (by rw [Nat.mul_comm]; exact hjl)
          have hjm : j % sz < sz := Nat.mod_lt _ hsz
          have ej : j / sz * sz + j % sz = j := Nat.div_add_mod' j sz
          rw [← ej] at hu ⊢
          rw [f2 _ hk _ hjm] at hu
          rw [(hq _ hk).1 _ hjm, hu]
        obtain ⟨b, off, spot⟩ := a
        have hpos : 0 < l.length * sz := Nat.mul_pos (by omega) hsz
        have h0 := hcell 0 _ (List.getElem?_eq_getElem (by rw [f1]; exact hpos))
        have hs : spot = none := by
          cases spot with
          | none => rfl
          | some x =>
            simp [World.cell?, Addr.add] at h0
            split at h0 <;> cases h0
        subst hs
        refine ⟨b, off, rfl, ?_, fun j u hu => by have := hcell j u hu; rwa [Addr.add_lit] at this⟩
        have := World.block_lt_of_cell? W _ h0
        simpa [Addr.add] using this
    · obtain ⟨i, hi, rfl⟩ := List.mem_iff_getElem.1 hy
      exact (hq i hi).2.2

/-- a struct's fields, each of one cell: the reading of each -/
theorem elem_fields {fs : Array Field} {n : Nat} {cs : List Value} {x : DataW H × List MemPlace} (he : P.underlying e = some (.struct fs)) (hone : oneCellFields P fs = true) (hC : P.cellsOf e = fs.size)
    (h : DataW.trod enc P W base sp hd n e cs = some x) : cs.length = fs.size ∧ ∃ m, ∀ (j : Nat) (f : Field), fs[j]? = some f → ∃ u y, cs[j]? = some u ∧ DataW.trod enc P W base sp hd m f.type [u] = some y := by
  obtain ⟨xs, m, _, _, hlen, hxl, hf⟩ := DataW.trod_struct he h
  refine ⟨hlen.trans hC, m, fun j f hj => ?_⟩
  obtain ⟨ho, hk⟩ := hone_of hone j f hj
  have hjl : j < fs.size := (Array.getElem?_eq_some_iff.1 hj).1
  have h1 := hf j f hj
  rw [ho, hk] at h1
  have hcl : j < cs.length := by omega
  have e1 : (cs.drop j).take 1 = [cs[j]] := by rw [List.drop_eq_getElem_cons hcl]; rfl
  rw [e1, List.getElem?_eq_getElem (by omega)] at h1
  exact ⟨cs[j], _, List.getElem?_eq_getElem hcl, h1⟩
end
end Go.Proofs.Ytjajcecenflejaa
