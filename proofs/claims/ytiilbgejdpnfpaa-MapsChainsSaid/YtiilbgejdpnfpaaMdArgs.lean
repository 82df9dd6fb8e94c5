/- RowS, ArgL, MpArg, MdArg, merged. -/
import Derived.Test.YtiilbgejdpnfpaaRow
import Derived.Test.YtiilbgejdpnfpaaMp2
import Derived.Deep.Slices
import Derived.Deep.Fields
import Derived.SizedLaws
/- Arguments that are slices of structs, as lists; and what the row's reach says of their lengths. -/
namespace Go.Proofs.Ytiilbgejdpnfpaa
open Go.ChangeShapes Go.WideShapes Go.ChangeAt Go.RowKit Go.Deep

theorem addr_add_add (a : Addr) (i j : Nat) : (a.add i).add j = a.add (i + j) := by
  unfold Addr.add
  by_cases hi : i = 0 <;> by_cases hj : j = 0 <;> simp [hi, hj, Nat.add_assoc]
theorem addr_add_0 (a : Addr) : a.add 0 = a := by unfold Addr.add; simp

section
variable {H : Type} {enc : TypeId × Value → H} {P : Program} {W : World} {base B : Nat} {sp : Nat → Bool} {hd : Bool} {t e : TypeId} {v : Value} {d : DataW H} {ps : List MemPlace} {r : Reach}

theorem list_of {T : Type} {Q : Nat → T → Prop} : ∀ (n : Nat), (∀ i, i < n → ∃ x, Q i x) → ∃ l : List T, l.length = n ∧ ∀ i (hi : i < l.length), Q i l[i]
  | 0, _ => ⟨[], rfl, fun i hi => by simp at hi⟩
  | n + 1, h => by
    obtain ⟨l, hl, hq⟩ := list_of n fun i hi => h i (by omega)
    obtain ⟨x, hx⟩ := h n (by omega)
    refine ⟨l ++ [x], by simp [hl], fun i hi => ?_⟩
    rw [List.length_append] at hi
    simp at hi
    by_cases hlt : i < l.length
    · rw [List.getElem_append_left hlt]; exact hq i hlt
    · have e1 : i = l.length := by omega
      subst e1
      rw [List.getElem_append_right (Nat.le_refl _)]
      simpa [hl] using hx

theorem flat_get {T : Type} (c : T → List Value) (sz : Nat) : ∀ (l : List T), (∀ x ∈ l, (c x).length = sz) → (l.flatMap c).length = l.length * sz ∧ ∀ k (hk : k < l.length) j, j < sz → (l.flatMap c)[k * sz + j]? = (c l[k])[j]?
  | [], _ => ⟨by simp, fun k hk => by simp at hk⟩
  | x :: l, h => by
    obtain ⟨h1, h2⟩ := flat_get c sz l fun y hy => h y (by simp [hy])
    have h0 := h x (by simp)
    refine ⟨by simp only [List.flatMap_cons, List.length_append, h1, h0, List.length_cons]; rw [Nat.add_mul]; omega, fun k hk j hj => ?_⟩
    cases k with
    | zero =>
      simp only [List.flatMap_cons, Nat.zero_mul, Nat.zero_add, List.getElem_cons_zero]
      rw [List.getElem?_append_left (by omega)]
    | succ k =>
      simp only [List.flatMap_cons, List.getElem_cons_succ]
      rw [List.getElem?_append_right (by rw [h0, Nat.add_mul]; omega), h0, show (k + 1) * sz + j - sz = k * sz + j by rw [Nat.add_mul]; omega]
      exact h2 k (by simpa using hk) j hj

/-- an argument that is a slice: its elements read as a list -/
theorem arg_list {T : Type} (c : T → List Value) (good : T → Prop) (ht : P.underlying t = some (.slice e)) {sz : Nat} (hC : P.cellsOf e = sz) (hsz : 0 < sz) (hval : Value.okWide P W r B t v) (h : DataW.Trod enc P W base sp hd t v d ps)
    (helem : ∀ (n : Nat) (cs : List Value) (x : DataW H × List MemPlace), DataW.trod enc P W base sp hd n e cs = some x → ∃ y : T, cs = c y ∧ (c y).length = sz ∧ good y) :
    ∃ l : List T, Rd W W.heap.size v sz l.length (l.flatMap c) ∧ (∀ y ∈ l, good y) ∧ (d = .nil ∧ l = [] ∨ ∃ elems spare, d = .slice elems spare ∧ elems.length = l.length) := by
  obtain ⟨a0, n0, c0, rfl⟩ := okWide_slice ht hval
  obtain ⟨fuel, hf⟩ := h
  rcases open_slice ht hf with ⟨hcs, hx⟩ | ⟨a, len, cap, m, n, D, Pl, hcs, hb, h1, h2, hm, hx, hi⟩
  · have e1 : Value.slice a0 n0 c0 = .slice none 0 0 := by simpa [Value.cells] using hcs
    rw [e1]
    simp only [Prod.mk.injEq] at hx
    exact ⟨[], Rd.nil W _ sz, by simp, .inl ⟨hx.1, rfl⟩⟩
  · have e1 : Value.slice a0 n0 c0 = .slice (some a) len cap := by simpa [Value.cells] using hcs
    rw [e1]
    simp only [Prod.mk.injEq] at hx
    have hlm : len ≤ m := by rw [hm]; split <;> omega
    obtain ⟨l, hl, hq⟩ := list_of (Q := fun i (y : T) => (∀ j, j < sz → W.cell? (a.add (i * sz + j)) = (c y)[j]?) ∧ (c y).length = sz ∧ good y) len (fun i hil => by
      obtain ⟨cs', hc, ht'⟩ := hi i (by omega)
      rw [hC] at hc
      obtain ⟨y, rfl, hly, hg⟩ := helem n cs' _ ht'
      obtain ⟨_, _, hat⟩ := World.cells?_some hc
      exact ⟨y, fun j hj => by rw [← addr_add_add]; exact hat j hj, hly, hg⟩)
    obtain ⟨f1, f2⟩ := flat_get c sz l fun y hy => by
      obtain ⟨i, hi, rfl⟩ := List.mem_iff_getElem.1 hy
      exact (hq i hi).2.1
    refine ⟨l, ⟨some a, cap, by rw [hl], f1, by omega, h2, ?_⟩, fun y hy => ?_, .inr ⟨_, _, hx.1, by simp [hl]⟩⟩
    · by_cases hl0 : l.length = 0
      · exact .inl hl0
      · right
        have hcell : ∀ j u, (l.flatMap c)[j]? = some u → W.cell? (a.add j) = some u := by
          intro j u hu
          have hjl : j < l.length * sz := by rw [← f1]; exact (List.getElem?_eq_some_iff.1 hu).1
          have hk : j / sz < l.length := Nat.div_lt_of_lt_mul (by rw [Nat.mul_comm]; exact hjl)
          have hjm : j % sz < sz := Nat.mod_lt _ hsz
          have ej : j / sz * sz + j % sz = j := Nat.div_add_mod' j sz
          rw [← ej] at hu ⊢
          rw [f2 _ hk _ hjm] at hu
          rw [(hq _ hk).1 _ hjm, hu]
        obtain ⟨b, off, spot⟩ := a
        have hpos : 0 < l.length * sz := Nat.mul_pos (by omega) hsz
        have h0 := hcell 0 _ (List.getElem?_eq_getElem (by rw [f1]; exact hpos))
        have hs : spot = none := by
          cases spot with
          | none => rfl
          | some x =>
            simp [World.cell?, Addr.add] at h0
            split at h0 <;> cases h0
        subst hs
        refine ⟨b, off, rfl, ?_, fun j u hu => by have := hcell j u hu; rwa [Addr.add_lit] at this⟩
        have := World.block_lt_of_cell? W _ h0
        simpa [Addr.add] using this
    · obtain ⟨i, hi, rfl⟩ := List.mem_iff_getElem.1 hy
      exact (hq i hi).2.2

/-- a struct's fields, each of one cell: the reading of each -/
theorem elem_fields {fs : Array Field} {n : Nat} {cs : List Value} {x : DataW H × List MemPlace} (he : P.underlying e = some (.struct fs)) (hone : oneCellFields P fs = true) (hC : P.cellsOf e = fs.size)
    (h : DataW.trod enc P W base sp hd n e cs = some x) : cs.length = fs.size ∧ ∃ m, ∀ (j : Nat) (f : Field), fs[j]? = some f → ∃ u y, cs[j]? = some u ∧ DataW.trod enc P W base sp hd m f.type [u] = some y := by
  obtain ⟨xs, m, _, _, hlen, hxl, hf⟩ := DataW.trod_struct he h
  refine ⟨hlen.trans hC, m, fun j f hj => ?_⟩
  obtain ⟨ho, hk⟩ := hone_of hone j f hj
  have hjl : j < fs.size := (Array.getElem?_eq_some_iff.1 hj).1
  have h1 := hf j f hj
  rw [ho, hk] at h1
  have hcl : j < cs.length := by omega
  have e1 : (cs.drop j).take 1 = [cs[j]] := by rw [List.drop_eq_getElem_cons hcl]; rfl
  rw [e1, List.getElem?_eq_getElem (by omega)] at h1
  exact ⟨cs[j], _, List.getElem?_eq_getElem hcl, h1⟩
end
end Go.Proofs.Ytiilbgejdpnfpaa

/- Arguments that are slices of structs that hold slices: read as lists, with the row's reach for each list within. -/
namespace Go.Proofs.Ytiilbgejdpnfpaa
open Go.ChangeShapes Go.WideShapes Go.ChangeAt Go.RowKit Go.Deep

/-- within the reach -/
def Light {H : Type} (P : Program) (t : TypeId) (d : DataW H) : Prop := ∀ n ∈ d.weights P t, n ≤ reachBytes
theorem weights_all {H : Type} {P : Program} {e : TypeId} : ∀ {ds : List (DataW H)} {d : DataW H}, d ∈ ds → ∀ n ∈ d.weights P e, n ∈ DataW.weightsAll P e ds
  | d0 :: ds, d, h, n, hn => by
    simp only [DataW.weightsAll, List.mem_append]
    rcases List.mem_cons.1 h with rfl | h
    · exact .inl hn
    · exact .inr (weights_all h n hn)
  | [], _, h, _, _ => by simp at h
theorem light_arg {H : Type} {P : Program} {ts : List TypeId} {ds : List (DataW H)} {d : DataW H} (h : (DataW.weightsEach P ts ds).all (· ≤ reachBytes) = true) {j : Nat} {t : TypeId} (ht : ts[j]? = some t) (hd : ds[j]? = some d) : Light P t d := by
  intro n hn
  have := List.all_eq_true.1 h _ (DataW.weights_mem_each ht hd n hn)
  simpa using this

section
variable {H : Type} {enc : TypeId × Value → H} {P : Program} {W : World} {base B : Nat} {sp : Nat → Bool} {hd : Bool} {t e : TypeId} {v : Value} {d : DataW H} {ps : List MemPlace} {r : Reach}

/-- a slice: its elements read as a list -/
theorem read_list {T : Type} (E : List Value → T → Prop) (ht : P.underlying t = some (.slice e)) {sz : Nat} (hC : P.cellsOf e = sz) (hsz : 0 < sz) {fuel : Nat} {cs : List Value} {x : DataW H × List MemPlace} (h : DataW.trod enc P W base sp hd fuel t cs = some x) (hw : Light P t x.1)
    (helem : ∀ (n : Nat) (cs : List Value) (x : DataW H × List MemPlace), DataW.trod enc P W base sp hd n e cs = some x → Light P e x.1 → ∃ y : T, cs.length = sz ∧ E cs y) :
    ∃ (v : Value) (l : List T) (ccs : List Value), cs = [v] ∧ Rd W W.heap.size v sz l.length ccs ∧ (∀ k (hk : k < l.length), ∃ c, c.length = sz ∧ (∀ j, j < sz → ccs[k * sz + j]? = c[j]?) ∧ E c l[k]) ∧ l.length * P.bytesOf e ≤ reachBytes := by
  rcases open_slice ht h with ⟨hcs, hx⟩ | ⟨a, len, cap, m, n, D, Pl, hcs, hb, h1, h2, hm, hx, hi⟩
  · exact ⟨_, [], [], hcs, Rd.nil W _ sz, fun k hk => by simp at hk, by simp⟩
  · rw [hx] at hw
    have hlm : len ≤ m := by rw [hm]; split <;> omega
    have hle : ∀ i, i < len → Light P e (D i) := fun i hi n hn => by
      refine hw n ?_
      simp only [DataW.weights, ht, List.mem_cons, List.mem_append]
      exact .inr (.inl (weights_all (List.mem_map.2 ⟨i, List.mem_range.2 hi, rfl⟩) n hn))
    have hreach : len * P.bytesOf e ≤ reachBytes := by
      have := hw _ (by simp only [DataW.weights, ht]; exact List.mem_cons_self ..)
      simp only [List.length_map, List.length_range] at this
      exact Nat.le_trans (Nat.mul_le_mul_right _ (Nat.le_add_right _ _)) this
    obtain ⟨l, hl, hq⟩ := list_of (Q := fun i (y : List Value × T) => (∀ j, j < sz → W.cell? (a.add (i * sz + j)) = (y.1)[j]?) ∧ y.1.length = sz ∧ E y.1 y.2) len (fun i hil => by
      obtain ⟨cs', hc, ht'⟩ := hi i (by omega)
      rw [hC] at hc
      obtain ⟨y, hly, hg⟩ := helem n cs' _ ht' (hle i hil)
      obtain ⟨_, _, hat⟩ := World.cells?_some hc
      exact ⟨(cs', y), fun j hj => by rw [← addr_add_add]; exact hat j hj, hly, hg⟩)
    obtain ⟨f1, f2⟩ := flat_get (fun y : List Value × T => y.1) sz l fun y hy => by
      obtain ⟨i, hi, rfl⟩ := List.mem_iff_getElem.1 hy
      exact (hq i hi).2.1
    refine ⟨_, l.map (·.2), l.flatMap (·.1), hcs, ⟨some a, cap, by rw [List.length_map, hl], by rw [List.length_map]; exact f1, by rw [List.length_map]; omega, h2, ?_⟩, fun k hk => ?_, by rw [List.length_map, hl]; exact hreach⟩
    · rw [List.length_map]
      by_cases hl0 : l.length = 0
      · exact .inl hl0
      · right
        have hcell : ∀ j u, (l.flatMap (·.1))[j]? = some u → W.cell? (a.add j) = some u := by
          intro j u hu
          have hjl : j < l.length * sz := by rw [← f1]; exact (List.getElem?_eq_some_iff.1 hu).1
          have hk : j / sz < l.length := Nat.div_lt_of_lt_mul (by rw [Nat.mul_comm]; exact hjl)
          have hjm : j % sz < sz := Nat.mod_lt _ hsz
          have ej : j / sz * sz + j % sz = j := Nat.div_add_mod' j sz
          rw [← ej] at hu ⊢
          rw [f2 _ hk _ hjm] at hu
          rw [(hq _ hk).1 _ hjm, hu]
        obtain ⟨b, off, spot⟩ := a
        have hpos : 0 < l.length * sz := Nat.mul_pos (by omega) hsz
        have h0 := hcell 0 _ (List.getElem?_eq_getElem (by rw [f1]; exact hpos))
        have hs : spot = none := by
          cases spot with
          | none => rfl
          | some x =>
            simp [World.cell?, Addr.add] at h0
            split at h0 <;> cases h0
        subst hs
        refine ⟨b, off, rfl, ?_, fun j u hu => by have := hcell j u hu; rwa [Addr.add_lit] at this⟩
        have := World.block_lt_of_cell? W _ h0
        simpa [Addr.add] using this
    · rw [List.length_map] at hk
      rw [List.getElem_map]
      exact ⟨l[k].1, (hq k hk).2.1, fun j hj => f2 k hk j hj, (hq k hk).2.2⟩

/-- a struct's fields, each of one cell -/
theorem read_fields {fs : Array Field} {n : Nat} {cs : List Value} {x : DataW H × List MemPlace} (he : P.underlying e = some (.struct fs)) (hone : oneCellFields P fs = true) (hC : P.cellsOf e = fs.size)
    (h : DataW.trod enc P W base sp hd n e cs = some x) (hw : Light P e x.1) : cs.length = fs.size ∧ ∃ m, ∀ (j : Nat) (f : Field), fs[j]? = some f → ∃ u y, cs[j]? = some u ∧ DataW.trod enc P W base sp hd m f.type [u] = some y ∧ Light P f.type y.1 := by
  obtain ⟨xs, m, _, hx, hlen, hxl, hf⟩ := DataW.trod_struct he h
  refine ⟨hlen.trans hC, m, fun j f hj => ?_⟩
  obtain ⟨ho, hk⟩ := hone_of hone j f hj
  have hjl : j < fs.size := (Array.getElem?_eq_some_iff.1 hj).1
  have h1 := hf j f hj
  rw [ho, hk] at h1
  have hcl : j < cs.length := by omega
  have e1 : (cs.drop j).take 1 = [cs[j]] := by rw [List.drop_eq_getElem_cons hcl]; rfl
  rw [e1, List.getElem?_eq_getElem (by omega)] at h1
  refine ⟨cs[j], _, List.getElem?_eq_getElem hcl, h1, fun q hq => hw q ?_⟩
  rw [hx]
  simp only [DataW.weights, he]
  refine DataW.weights_mem_each (j := j) (t := f.type) (d := xs[j].1) ?_ ?_ q hq
  · rw [List.getElem?_map, Array.getElem?_toList, hj]; rfl
  · rw [List.getElem?_map, List.getElem?_eq_getElem (by omega)]; rfl
end
end Go.Proofs.Ytiilbgejdpnfpaa

/- Arguments that are maps and chains. -/
namespace Go.Proofs.Ytiilbgejdpnfpaa
open Go.ChangeShapes Go.WideShapes Go.ChangeAt Go.RowKit Go.Deep Go.Mps

theorem chunks_eq {T : Type} (c : T → List Value) {sz : Nat} (hsz : 0 < sz) {l : List T} {ccs : List Value} (hl : ccs.length = l.length * sz)
    (h : ∀ k (hk : k < l.length), ∃ c', c'.length = sz ∧ (∀ j, j < sz → ccs[k * sz + j]? = c'[j]?) ∧ c' = c l[k]) : ccs = l.flatMap c := by
  obtain ⟨f1, f2⟩ := flat_get c sz l fun y hy => by
    obtain ⟨k, hk, rfl⟩ := List.mem_iff_getElem.1 hy
    obtain ⟨c', h1, _, rfl⟩ := h k hk
    exact h1
  apply List.ext_getElem?
  intro j
  by_cases hj : j < l.length * sz
  · have hk : j / sz < l.length := Nat.div_lt_of_lt_mul (by rw [Nat.mul_comm]; exact hj)
    have hjm : j % sz < sz := Nat.mod_lt _ hsz
    rw [← Nat.div_add_mod' j sz, f2 _ hk _ hjm]
    obtain ⟨c', _, h2, rfl⟩ := h _ hk
    exact h2 _ hjm
  · rw [List.getElem?_eq_none (by omega), List.getElem?_eq_none (by omega)]
theorem field_at {fs : Array Field} {ts : List TypeId} (h : fs.toList.map (·.type) = ts) {j : Nat} {t : TypeId} (ht : ts[j]? = some t) : ∃ f : Field, fs[j]? = some f ∧ f.type = t := by
  rw [← h, List.getElem?_map, Array.getElem?_toList] at ht
  exact Option.map_eq_some_iff.1 ht
theorem mpOneR : oneCellFields Try.prog (Try.prog.fieldsOf 23) = true := by kernel_rfl
theorem mpOneM : oneCellFields Try.prog (Try.prog.fieldsOf 30) = true := by kernel_rfl
theorem mpOneC : oneCellFields Try.prog (Try.prog.fieldsOf 33) = true := by kernel_rfl
theorem mpStrR : Try.prog.underlying 23 = some (.struct (Try.prog.fieldsOf 23)) := by kernel_rfl
theorem mpStrM : Try.prog.underlying 30 = some (.struct (Try.prog.fieldsOf 30)) := by kernel_rfl
theorem mpStrC : Try.prog.underlying 33 = some (.struct (Try.prog.fieldsOf 33)) := by kernel_rfl
theorem mpCellsR : Try.prog.cellsOf 23 = 3 := by kernel_rfl
theorem mpCellsM : Try.prog.cellsOf 30 = 2 := by kernel_rfl
theorem mpCellsC : Try.prog.cellsOf 33 = 2 := by kernel_rfl
theorem mpCellsS : Try.prog.cellsOf 24 = 1 := by kernel_rfl
theorem mpSzR : (Try.prog.fieldsOf 23).size = 3 := by kernel_rfl
theorem mpSzM : (Try.prog.fieldsOf 30).size = 2 := by kernel_rfl
theorem mpSzC : (Try.prog.fieldsOf 33).size = 2 := by kernel_rfl
theorem mpFR : (Try.prog.fieldsOf 23).toList.map (·.type) = [3, 3, 3] := by kernel_rfl
theorem mpFM : (Try.prog.fieldsOf 30).toList.map (·.type) = [3, 3] := by kernel_rfl
theorem mpFC : (Try.prog.fieldsOf 33).toList.map (·.type) = [25, 31] := by kernel_rfl
theorem rgC_flat : ∀ l : List Rg, rgC l = l.flatMap fun r => [iV r.a, iV r.o, iV r.n]
  | [] => rfl
  | r :: l => by rw [rgC, rgC_flat l]; rfl
theorem miC_flat : ∀ l : List Mi, miC l = l.flatMap fun r => [iV r.f, iV r.s]
  | [] => rfl
  | r :: l => by rw [miC, miC_flat l]; rfl

section
variable {H : Type} {enc : TypeId × Value → H} {W : World} {base B : Nat} {sp : Nat → Bool} {hd : Bool} {v : Value} {d : DataW H} {ps : List MemPlace} {r : Go.Reach}
theorem read_rgs {fuel : Nat} {cs : List Value} {x : DataW H × List MemPlace} (h : DataW.trod enc Try.prog W base sp hd fuel 24 cs = some x) (hw : Light Try.prog 24 x.1) :
    ∃ (v : Value) (l : List Rg), cs = [v] ∧ Rgs W W.heap.size v l := by
  obtain ⟨v, l, ccs, rfl, hr, hc, hb⟩ := read_list (T := Rg) (fun c r => c = [iV r.a, iV r.o, iV r.n]) Try.underlying24 mpCellsR (by omega) h hw (fun n cs x hx hw => by
    obtain ⟨hl, m, hf⟩ := read_fields mpStrR mpOneR (mpCellsR.trans mpSzR.symm) hx hw
    rw [mpSzR] at hl
    obtain ⟨f0, h0, t0⟩ := field_at mpFR (j := 0) rfl
    obtain ⟨f1, h1, t1⟩ := field_at mpFR (j := 1) rfl
    obtain ⟨f2, h2, t2⟩ := field_at mpFR (j := 2) rfl
    obtain ⟨u0, y0, c0, r0, _⟩ := hf 0 f0 h0
    obtain ⟨u1, y1, c1, r1, _⟩ := hf 1 f1 h1
    obtain ⟨u2, y2, c2, r2, _⟩ := hf 2 f2 h2
    rw [t0] at r0
    rw [t1] at r1
    rw [t2] at r2
    obtain ⟨s0, e0, _⟩ := DataW.trod_int Try.underlying3 r0
    obtain ⟨s1, e1, _⟩ := DataW.trod_int Try.underlying3 r1
    obtain ⟨s2, e2, _⟩ := DataW.trod_int Try.underlying3 r2
    simp only [List.cons.injEq, and_true] at e0 e1 e2
    subst e0 e1 e2
    match cs, hl with
    | [a, b, c], _ =>
      simp at c0 c1 c2
      subst c0 c1 c2
      exact ⟨⟨s0, s1, s2⟩, rfl, rfl⟩)
  refine ⟨v, l, rfl, ?_⟩
  have := chunks_eq (fun r : Rg => [iV r.a, iV r.o, iV r.n]) (by omega) hr.len hc
  rw [this, ← rgC_flat] at hr
  exact hr
theorem read_mis {fuel : Nat} {cs : List Value} {x : DataW H × List MemPlace} (h : DataW.trod enc Try.prog W base sp hd fuel 31 cs = some x) (hw : Light Try.prog 31 x.1) :
    ∃ (v : Value) (l : List Mi), cs = [v] ∧ Mis W W.heap.size v l := by
  obtain ⟨v, l, ccs, rfl, hr, hc, hb⟩ := read_list (T := Mi) (fun c r => c = [iV r.f, iV r.s]) Try.underlying31 mpCellsM (by omega) h hw (fun n cs x hx hw => by
    obtain ⟨hl, m, hf⟩ := read_fields mpStrM mpOneM (mpCellsM.trans mpSzM.symm) hx hw
    rw [mpSzM] at hl
    obtain ⟨f0, h0, t0⟩ := field_at mpFM (j := 0) rfl
    obtain ⟨f1, h1, t1⟩ := field_at mpFM (j := 1) rfl
    obtain ⟨u0, y0, c0, r0, _⟩ := hf 0 f0 h0
    obtain ⟨u1, y1, c1, r1, _⟩ := hf 1 f1 h1
    rw [t0] at r0
    rw [t1] at r1
    obtain ⟨s0, e0, _⟩ := DataW.trod_int Try.underlying3 r0
    obtain ⟨s1, e1, _⟩ := DataW.trod_int Try.underlying3 r1
    simp only [List.cons.injEq, and_true] at e0 e1
    subst e0 e1
    match cs, hl with
    | [a, b], _ =>
      simp at c0 c1
      subst c0 c1
      exact ⟨⟨s0, s1⟩, rfl, rfl⟩)
  refine ⟨v, l, rfl, ?_⟩
  have := chunks_eq (fun r : Mi => [iV r.f, iV r.s]) (by omega) hr.len hc
  rw [this, ← miC_flat] at hr
  exact hr
theorem read_mss {fuel : Nat} {cs : List Value} {x : DataW H × List MemPlace} (h : DataW.trod enc Try.prog W base sp hd fuel 25 cs = some x) (hw : Light Try.prog 25 x.1) :
    ∃ (v : Value) (ms : List (List Rg)), cs = [v] ∧ Mss W W.heap.size v ms := by
  obtain ⟨v, l, ccs, rfl, hr, hc, hb⟩ := read_list (T := Value × List Rg) (fun c y => c = [y.1] ∧ Rgs W W.heap.size y.1 y.2) Try.underlying25 mpCellsS (by omega) h hw (fun n cs x hx hw => by
    obtain ⟨v, l, rfl, hv⟩ := read_rgs hx hw
    exact ⟨(v, l), rfl, rfl, hv⟩)
  refine ⟨v, l.map (·.2), rfl, l.map (·.1), by simp, ?_, fun i a b => ?_⟩
  · have hcc : ccs = l.map (·.1) := by
      apply List.ext_getElem?
      intro j
      have hlen := hr.len
      by_cases hj : j < l.length
      · obtain ⟨c, h1, h2, h3, _⟩ := hc j hj
        have := h2 0 (by omega)
        rw [Nat.mul_one, Nat.add_zero] at this
        rw [this, h3]; simp [hj]
      · rw [List.getElem?_eq_none (by omega), List.getElem?_eq_none (by simp; omega)]
    rw [hcc] at hr
    rw [List.length_map]; exact hr
  · have hi : i < l.length := by simpa using a
    obtain ⟨c, _, _, _, h4⟩ := hc i hi
    simpa using h4
end
end Go.Proofs.Ytiilbgejdpnfpaa

/- Arguments that are maps, lists of maps, chains. -/
namespace Go.Proofs.Ytiilbgejdpnfpaa
open Go.ChangeShapes Go.WideShapes Go.ChangeAt Go.RowKit Go.Deep Go.Mps
section
variable {H : Type} {enc : TypeId × Value → H} {W : World} {base B : Nat} {sp : Nat → Bool} {hd : Bool} {v : Value} {d : DataW H} {ps : List MemPlace} {r : Go.Reach}
theorem arg_rgs (hval : Value.okWide Try.prog W r B 24 v) (h : DataW.Trod enc Try.prog W base sp hd 24 v d ps) (hw : Light Try.prog 24 d) : ∃ l : List Rg, Rgs W W.heap.size v l := by
  obtain ⟨a0, n0, c0, rfl⟩ := okWide_slice Try.underlying24 hval
  obtain ⟨fuel, hf⟩ := h
  obtain ⟨v', l, hv, hr⟩ := read_rgs hf hw
  simp [Value.cells] at hv
  subst hv
  exact ⟨l, hr⟩
theorem arg_mss (hval : Value.okWide Try.prog W r B 25 v) (h : DataW.Trod enc Try.prog W base sp hd 25 v d ps) (hw : Light Try.prog 25 d) : ∃ l : List (List Rg), Mss W W.heap.size v l := by
  obtain ⟨a0, n0, c0, rfl⟩ := okWide_slice Try.underlying25 hval
  obtain ⟨fuel, hf⟩ := h
  obtain ⟨v', l, hv, hr⟩ := read_mss hf hw
  simp [Value.cells] at hv
  subst hv
  exact ⟨l, hr⟩
theorem arg_chain (hval : Value.okWide Try.prog W r B 33 v) (h : DataW.Trod enc Try.prog W base sp hd 33 v d ps) (hw : Light Try.prog 33 d) : ∃ (v1 v2 : Value) (ms : List (List Rg)) (l : List Mi), v = .agg #[v1, v2] ∧ Mss W W.heap.size v1 ms ∧ Mis W W.heap.size v2 l := by
  obtain ⟨cs, rfl, hsz⟩ := okWide_struct mpStrC hval
  obtain ⟨fuel, hf⟩ := h
  obtain ⟨hl, m, hff⟩ := read_fields mpStrC mpOneC (mpCellsC.trans mpSzC.symm) hf hw
  rw [mpSzC] at hl
  obtain ⟨f0, h0, t0⟩ := field_at mpFC (j := 0) rfl
  obtain ⟨f1, h1, t1⟩ := field_at mpFC (j := 1) rfl
  obtain ⟨u0, y0, c0, r0, w0⟩ := hff 0 f0 h0
  obtain ⟨u1, y1, c1, r1, w1⟩ := hff 1 f1 h1
  rw [t0] at r0 w0
  rw [t1] at r1 w1
  obtain ⟨s0, ms, e0, g0⟩ := read_mss r0 w0
  obtain ⟨s1, l, e1, g1⟩ := read_mis r1 w1
  simp only [List.cons.injEq, and_true] at e0 e1
  subst e0 e1
  refine ⟨u0, u1, ms, l, ?_, g0, g1⟩
  congr 1
  obtain ⟨cl⟩ := cs
  simp [Value.cells] at hl c0 c1
  match cl, hl with
  | [a, b], _ =>
    simp at c0 c1
    subst c0 c1
    rfl
end
end Go.Proofs.Ytiilbgejdpnfpaa
