/- Row, RowS, ArU, merged. -/
import Derived.Test.YtkbileabkfccgaaGreatDoorRows
import Derived.Test.YtkbileabkfccgaaGreatDoorCz01
import Derived.ProofKit
import Derived.OpenShut
import Derived.SliceStrings
import Derived.Deep.Slices
import Derived.Deep.Fields
import Derived.SizedLaws
import Derived.Test.YtkbileabkfccgaaGreatDoorCz07

/- From a walk to the row: a law that comes to true and leaves what was there as it was. And slices that came in, as lists of cells. -/
namespace Go.Proofs.YtkbileabkfccgaaGreatDoor
open Go.ChangeShapes Go.WideShapes Go.ChangeAt Go.RowKit
open Go.ChangeMaps (open_string shut_string)

theorem trodAll_stays {H : Type} {enc : TypeId × Value → H} {P : Program} (hl : laidOutB P = true) {W W' : World} (hb : Below W.heap.size W W') :
    ∀ (ts : List TypeId) (vs : List Value) (ds : List (DataW H)) (ps : List MemPlace), (∀ t ∈ ts, P.readableRec t = true ∧ t < P.types.size) → (∀ p ∈ ps, p.block < W.heap.size) →
      DataW.TrodAll enc P W 0 (fun _ => true) true ts vs ds ps → DataW.TrodAll enc P W' 0 (fun b => decide (b < W.heap.size)) true ts vs ds ps
  | [], vs, ds, ps, _, _, h => by
    obtain ⟨rfl, rfl, rfl⟩ := trodAll_nil h
    exact trodAll_mk0
  | t :: ts, vs, ds, ps, ht, hp, h => by
    obtain ⟨v, vs', d, ds', p, q, rfl, rfl, rfl, h0, h1⟩ := trodAll_cons h
    have hpt := ht t (by simp)
    exact trodAll_cons_mk (Below.trod hl hpt.1 hpt.2 h0 hb (fun x hx => hp x (by simp [hx])))
      (trodAll_stays hl hb ts vs' ds' q (fun t' h' => ht t' (by simp [h'])) (fun x hx => hp x (by simp [hx])) h1)

theorem law_post {H : Type} {enc : TypeId × Value → H} {P : Program} {f : Func} {s : ChangeSpec} {W W' : World} {args : Array Value} {ds gs : List (DataW H)} {before : List MemPlace} {tb : TypeId}
    (hW : DataW.Whole enc P f.params.toList s.vars false W args.toList ds gs before) (hl : laidOutB P = true) (hpar : ∀ t ∈ f.params.toList, P.readableRec t = true ∧ t < P.types.size)
    (hv : s.vars = []) (hfn : s.fn H (ds ++ gs) = { results := [.lit (.bool true)], args := ds }) (hr : f.resultTypes = #[tb]) (htb : P.underlying tb = some .bool) (hb : Below W.heap.size W W') :
    s.post enc P f false true false false W args (.bool true) W' := by
  have hW' := hW
  have hlt := hW.lt
  obtain ⟨p, q, hA, hV, rfl, hfz, hnd⟩ := hW
  rw [hv] at hV
  obtain ⟨rfl, rfl⟩ := trodVars_none hV
  refine ⟨ds, [], p ++ [], [], p, [], hW', ?_, ?_, ?_, World.keptBut_mono (fun x hx => ⟨hx, .inr (.inl (by simpa using hx))⟩) (hb.frame (· ∈ p ++ [])), fun h => by cases h⟩
  · rw [hfn, hr]
    exact trodAll_cons_mk (shut_bool htb true) trodAll_mk0
  · rw [hfn]
    exact trodAll_stays hl hb _ _ _ _ hpar (fun x hx => hlt x (by simp [hx])) hA
  · rw [hfn, hv]
    rfl

/-- the slice v reads the cells cs (of one cell each), in block b -/
def Sl (w : World) (b : Nat) (v : Value) (cs : List Value) : Prop :=
  ∃ A cap, v = .slice A cs.length cap ∧ cs.length ≤ cap ∧ cap ≤ maxLen ∧
    (cs = [] ∨ ∃ off, A = some ⟨b, off, none⟩ ∧ b < w.heap.size ∧ ∀ j u, cs[j]? = some u → w.cell? ⟨b, off + j, none⟩ = some u)
theorem Sl.keep {w w' : World} {b : Nat} {v : Value} {l : List Value} (h : Sl w b v l) (hs : w.heap.size ≤ w'.heap.size) (hk : b < w.heap.size → w'.heap[b]? = w.heap[b]?) : Sl w' b v l := by
  obtain ⟨A, cap, rfl, h1, h2, h3⟩ := h
  refine ⟨A, cap, rfl, h1, h2, ?_⟩
  rcases h3 with h3 | ⟨off, hA, hb, hc⟩
  · exact .inl h3
  · exact .inr ⟨off, hA, by omega, fun j u hu => (World.cell?_of_block (w := w) (a := ⟨b, off + j, none⟩) (hk hb)).trans (hc j u hu)⟩
theorem Sl.all {w w' : World} {b : Nat} {v : Value} {l : List Value} (h : Sl w b v l) (hb : Below w.heap.size w w') : Sl w' b v l := h.keep hb.size fun hs => hb.block b hs
theorem Sl.bs {w : World} {b : Nat} {v : Value} {l : List UInt8} (h : Sl w b v (cellsB l)) : Bs w b v l := by
  obtain ⟨A, cap, hv, h1, h2, h3⟩ := h
  rw [cellsB_len] at hv h1
  exact ⟨A, cap, hv, h1, h2, h3.imp (by simp [cellsB]) id⟩

/-- what a reading of cells gives, from its address -/
theorem Sl.of {w : World} {a : Addr} {cs : List Value} {len cap : Nat} (hlen : cs.length = len) (h1 : len ≤ cap) (h2 : cap ≤ maxLen) (hc : ∀ j u, cs[j]? = some u → w.cell? (a.add j) = some u) : ∃ b, Sl w b (.slice (some a) len cap) cs := by
  subst hlen
  obtain ⟨b, off, spot⟩ := a
  refine ⟨b, some ⟨b, off, spot⟩, cap, rfl, h1, h2, ?_⟩
  cases cs with
  | nil => exact .inl rfl
  | cons c r =>
    have h0 := hc 0 c rfl
    have hs : spot = none := by
      cases spot with
      | none => rfl
      | some x =>
        simp [World.cell?, Addr.add] at h0
        split at h0 <;> cases h0
    subst hs
    have hlt : b < w.heap.size := by
      have := World.block_lt_of_cell? w _ h0
      simpa [Addr.add] using this
    exact .inr ⟨off, rfl, hlt, fun j u hu => by have := hc j u hu; rwa [Addr.add_lit] at this⟩

section
variable {H : Type} {enc : TypeId × Value → H} {P : Program} {W : World} {base B : Nat} {sp : Nat → Bool} {hd : Bool} {t e : TypeId} {v : Value} {d : DataW H} {ps : List MemPlace} {r : Reach}

/-- an argument of integers -/
theorem arg_ints {k : IntKind} (ht : P.underlying t = some (.slice e)) (he : P.underlying e = some (.int k)) (hc : P.cellsOf e = 1) (hval : Value.okWide P W r B t v) (h : DataW.Trod enc P W base sp hd t v d ps) :
    ∃ (zs : List Int) (b : Nat), Sl W b v (zs.map (Value.int k)) ∧ ∀ n ∈ zs, (Lit.int k n).wf = true := by
  obtain ⟨a0, n0, c0, rfl⟩ := okWide_slice ht hval
  obtain ⟨fuel, hf⟩ := h
  rcases open_ints ht he hc hf with ⟨hcs, _⟩ | ⟨a, len, cap, zs, hcs, _, h1, h2, hz, _, hcell, hwf⟩
  · have : Value.slice a0 n0 c0 = .slice none 0 0 := by simpa [Value.cells] using hcs
    rw [this]
    exact ⟨[], 0, ⟨none, 0, rfl, Nat.le_refl _, by unfold maxLen; omega, .inl rfl⟩, by simp⟩
  · have : Value.slice a0 n0 c0 = .slice (some a) len cap := by simpa [Value.cells] using hcs
    rw [this]
    have hle : len ≤ zs.length := by rw [hz]; split <;> omega
    obtain ⟨b, hb⟩ := Sl.of (w := W) (a := a) (cs := (zs.take len).map (Value.int k)) (len := len) (cap := cap) (by simp; omega) h1 h2 (fun j u hu => by
      have hj : j < len := by have := (List.getElem?_eq_some_iff.1 hu).1; simp at this; omega
      rw [hcell j (by omega)]
      rw [← hu]
      simp [List.getD, hj, show j < zs.length by omega])
    exact ⟨_, b, hb, fun n hn => hwf n (List.mem_of_mem_take hn)⟩

/-- an argument of texts -/
theorem arg_strs (ht : P.underlying t = some (.slice e)) (he : P.underlying e = some .string) (hc : P.cellsOf e = 1) (hval : Value.okWide P W r B t v) (h : DataW.Trod enc P W base sp hd t v d ps) :
    ∃ (ss : List ByteArray) (b : Nat), Sl W b v (ss.map Value.string) ∧ ∀ s ∈ ss, s.size ≤ maxLen := by
  obtain ⟨a0, n0, c0, rfl⟩ := okWide_slice ht hval
  obtain ⟨fuel, hf⟩ := h
  rcases open_strings ht he hc hf with ⟨hcs, _⟩ | ⟨a, len, cap, zs, hcs, _, h1, h2, hz, _, hcell, hwf⟩
  · have : Value.slice a0 n0 c0 = .slice none 0 0 := by simpa [Value.cells] using hcs
    rw [this]
    exact ⟨[], 0, ⟨none, 0, rfl, Nat.le_refl _, by unfold maxLen; omega, .inl rfl⟩, by simp⟩
  · have : Value.slice a0 n0 c0 = .slice (some a) len cap := by simpa [Value.cells] using hcs
    rw [this]
    have hle : len ≤ zs.length := by rw [hz]; split <;> omega
    obtain ⟨b, hb⟩ := Sl.of (w := W) (a := a) (cs := (zs.take len).map Value.string) (len := len) (cap := cap) (by simp; omega) h1 h2 (fun j u hu => by
      have hj : j < len := by have := (List.getElem?_eq_some_iff.1 hu).1; simp at this; omega
      rw [hcell j (by omega)]
      rw [← hu]
      simp [List.getD, hj, show j < zs.length by omega])
    exact ⟨_, b, hb, fun n hn => hwf n (List.mem_of_mem_take hn)⟩

/-- an argument of bytes -/
theorem arg_bytes (ht : P.underlying t = some (.slice e)) (he : P.underlying e = some (.int .u8)) (hc : P.cellsOf e = 1) (hval : Value.okWide P W r B t v) (h : DataW.Trod enc P W base sp hd t v d ps) :
    ∃ (l : List UInt8) (b : Nat), Bs W b v l := by
  obtain ⟨zs, b, hs, hwf⟩ := arg_ints ht he hc hval h
  refine ⟨zs.map fun n => UInt8.ofNat n.toNat, b, Sl.bs ?_⟩
  have : cellsB (zs.map fun n => UInt8.ofNat n.toNat) = zs.map (Value.int .u8) := by
    unfold cellsB
    rw [List.map_map]
    apply List.map_congr_left
    intro n hn
    have := hwf n hn
    have hx : 0 ≤ n ∧ n ≤ 255 := by simpa [Lit.wf, IntKind.min, IntKind.max, IntKind.signed, IntKind.bits] using this
    simp
    omega
  rw [this]
  exact hs
end
end Go.Proofs.YtkbileabkfccgaaGreatDoor

/- Arguments that are slices of structs, as lists; and what the row's reach says of their lengths. -/
namespace Go.Proofs.YtkbileabkfccgaaGreatDoor
open Go.ChangeShapes Go.WideShapes Go.ChangeAt Go.RowKit Go.Deep

theorem addr_add_add (a : Addr) (i j : Nat) : (a.add i).add j = a.add (i + j) := by
  unfold Addr.add
  by_cases hi : i = 0 <;> by_cases hj : j = 0 <;> simp [hi, hj, Nat.add_assoc]
theorem addr_add_0 (a : Addr) : a.add 0 = a := by unfold Addr.add; simp

section
variable {H : Type} {enc : TypeId × Value → H} {P : Program} {W : World} {base B : Nat} {sp : Nat → Bool} {hd : Bool} {t e : TypeId} {v : Value} {d : DataW H} {ps : List MemPlace} {r : Reach}

theorem list_of {T : Type} {Q : Nat → T → Prop} : ∀ (n : Nat), (∀ i, i < n → ∃ x, Q i x) → ∃ l : List T, l.length = n ∧ ∀ i (hi : i < l.length), Q i l[i]
  | 0, _ => ⟨[], rfl, fun i hi => by simp at hi⟩
  | n + 1, h => by
    obtain ⟨l, hl, hq⟩ := list_of n fun i hi => h i (by omega)
    obtain ⟨x, hx⟩ := h n (by omega)
    refine ⟨l ++ [x], by simp [hl], fun i hi => ?_⟩
    rw [List.length_append] at hi
    simp at hi
    by_cases hlt : i < l.length
    · rw [List.getElem_append_left hlt]; exact hq i hlt
    · have e1 : i = l.length := by omega
      subst e1
      rw [List.getElem_append_right (Nat.le_refl _)]
      simpa [hl] using hx

theorem flat_get {T : Type} (c : T → List Value) (sz : Nat) : ∀ (l : List T), (∀ x ∈ l, (c x).length = sz) → (l.flatMap c).length = l.length * sz ∧ ∀ k (hk : k < l.length) j, j < sz → (l.flatMap c)[k * sz + j]? = (c l[k])[j]?
  | [], _ => ⟨by simp, fun k hk => by simp at hk⟩
  | x :: l, h => by
    obtain ⟨h1, h2⟩ := flat_get c sz l fun y hy => h y (by simp [hy])
    have h0 := h x (by simp)
    refine ⟨by simp only [List.flatMap_cons, List.length_append, h1, h0, List.length_cons]; rw [Nat.add_mul]; omega, fun k hk j hj => ?_⟩
    cases k with
    | zero =>
      simp only [List.flatMap_cons, Nat.zero_mul, Nat.zero_add, List.getElem_cons_zero]
      rw [List.getElem?_append_left (by omega)]
    | succ k =>
      simp only [List.flatMap_cons, List.getElem_cons_succ]
      rw [List.getElem?_append_right (by rw [h0, Nat.add_mul]; omega), h0, show (k + 1) * sz + j - sz = k * sz + j by rw [Nat.add_mul]; omega]
      exact h2 k (by simpa using hk) j hj

/-- an argument that is a slice: its elements read as a list -/
theorem arg_list {T : Type} (c : T → List Value) (good : T → Prop) (ht : P.underlying t = some (.slice e)) {sz : Nat} (hC : P.cellsOf e = sz) (hsz : 0 < sz) (hval : Value.okWide P W r B t v) (h : DataW.Trod enc P W base sp hd t v d ps)
    (helem : ∀ (n : Nat) (cs : List Value) (x : DataW H × List MemPlace), DataW.trod enc P W base sp hd n e cs = some x → ∃ y : T, cs = c y ∧ (c y).length = sz ∧ good y) :
    ∃ l : List T, Rd W W.heap.size v sz l.length (l.flatMap c) ∧ (∀ y ∈ l, good y) ∧ (d = .nil ∧ l = [] ∨ ∃ elems spare, d = .slice elems spare ∧ elems.length = l.length) := by
  obtain ⟨a0, n0, c0, rfl⟩ := okWide_slice ht hval
  obtain ⟨fuel, hf⟩ := h
  rcases open_slice ht hf with ⟨hcs, hx⟩ | ⟨a, len, cap, m, n, D, Pl, hcs, hb, h1, h2, hm, hx, hi⟩
  · have e1 : Value.slice a0 n0 c0 = .slice none 0 0 := by simpa [Value.cells] using hcs
    rw [e1]
    simp only [Prod.mk.injEq] at hx
    exact ⟨[], Rd.nil W _ sz, by simp, .inl ⟨hx.1, rfl⟩⟩
  · have e1 : Value.slice a0 n0 c0 = .slice (some a) len cap := by simpa [Value.cells] using hcs
    rw [e1]
    simp only [Prod.mk.injEq] at hx
    have hlm : len ≤ m := by rw [hm]; split <;> omega
    obtain ⟨l, hl, hq⟩ := list_of (Q := fun i (y : T) => (∀ j, j < sz → W.cell? (a.add (i * sz + j)) = (c y)[j]?) ∧ (c y).length = sz ∧ good y) len (fun i hil => by
      obtain ⟨cs', hc, ht'⟩ := hi i (by omega)
      rw [hC] at hc
      obtain ⟨y, rfl, hly, hg⟩ := helem n cs' _ ht'
      obtain ⟨_, _, hat⟩ := World.cells?_some hc
      exact ⟨y, fun j hj => by rw [← addr_add_add]; exact hat j hj, hly, hg⟩)
    obtain ⟨f1, f2⟩ := flat_get c sz l fun y hy => by
      obtain ⟨i, hi, rfl⟩ := List.mem_iff_getElem.1 hy
      exact (hq i hi).2.1
    refine ⟨l, ⟨some a, cap, by rw [hl], f1, by omega, h2, ?_⟩, fun y hy => ?_, .inr ⟨_, _, hx.1, by simp [hl]⟩⟩
    · by_cases hl0 : l.length = 0
      · exact .inl hl0
      · right
        have hcell : ∀ j u, (l.flatMap c)[j]? = some u → W.cell? (a.add j) = some u := by
          intro j u hu
          have hjl : j < l.length * sz := by rw [← f1]; exact (List.getElem?_eq_some_iff.1 hu).1
          have hk : j / sz < l.length := Nat.div_lt_of_lt_mul (by rw [Nat.mul_comm]; exact hjl)
          have hjm : j % sz < sz := Nat.mod_lt _ hsz
          have ej : j / sz * sz + j % sz = j := Nat.div_add_mod' j sz
          rw [← ej] at hu ⊢
          rw [f2 _ hk _ hjm] at hu
          rw [(hq _ hk).1 _ hjm, hu]
        obtain ⟨b, off, spot⟩ := a
        have hpos : 0 < l.length * sz := Nat.mul_pos (by omega) hsz
        have h0 := hcell 0 _ (List.getElem?_eq_getElem (by rw [f1]; exact hpos))
        have hs : spot = none := by
          cases spot with
          | none => rfl
          | some x =>
            simp [World.cell?, Addr.add] at h0
            split at h0 <;> cases h0
        subst hs
        refine ⟨b, off, rfl, ?_, fun j u hu => by have := hcell j u hu; rwa [Addr.add_lit] at this⟩
        have := World.block_lt_of_cell? W _ h0
        simpa [Addr.add] using this
    · obtain ⟨i, hi, rfl⟩ := List.mem_iff_getElem.1 hy
      exact (hq i hi).2.2

/-- a struct's fields, each of one cell: the reading of each -/
theorem elem_fields {fs : Array Field} {n : Nat} {cs : List Value} {x : DataW H × List MemPlace} (he : P.underlying e = some (.struct fs)) (hone : oneCellFields P fs = true) (hC : P.cellsOf e = fs.size)
    (h : DataW.trod enc P W base sp hd n e cs = some x) : cs.length = fs.size ∧ ∃ m, ∀ (j : Nat) (f : Field), fs[j]? = some f → ∃ u y, cs[j]? = some u ∧ DataW.trod enc P W base sp hd m f.type [u] = some y := by
  obtain ⟨xs, m, _, _, hlen, hxl, hf⟩ := DataW.trod_struct he h
  refine ⟨hlen.trans hC, m, fun j f hj => ?_⟩
  obtain ⟨ho, hk⟩ := hone_of hone j f hj
  have hjl : j < fs.size := (Array.getElem?_eq_some_iff.1 hj).1
  have h1 := hf j f hj
  rw [ho, hk] at h1
  have hcl : j < cs.length := by omega
  have e1 : (cs.drop j).take 1 = [cs[j]] := by rw [List.drop_eq_getElem_cons hcl]; rfl
  rw [e1, List.getElem?_eq_getElem (by omega)] at h1
  exact ⟨cs[j], _, List.getElem?_eq_getElem hcl, h1⟩
end
end Go.Proofs.YtkbileabkfccgaaGreatDoor

/- Arguments of the second form (of bulk at most N): slices and structs read, whatever they hold; an expression, groups. -/
namespace Go.Proofs.YtkbileabkfccgaaGreatDoor
open Go.ChangeShapes Go.WideShapes Go.ChangeAt Go.RowKit Go.Deep

theorem bulk_one {H : Type} (d : DataW H) : 1 ≤ Rows.uptoBulk d := by
  cases d with
  | lit l => cases l <;> simp [Rows.uptoBulk]
  | nil => simp [Rows.uptoBulk]
  | ptr d => simp [Rows.uptoBulk]
  | slice elems spare => simp [Rows.uptoBulk]
  | agg parts => simp [Rows.uptoBulk]
  | iface t d => simp [Rows.uptoBulk]
  | map entries => simp [Rows.uptoBulk]
  | held h => simp [Rows.uptoBulk]
theorem bulk_part {H : Type} {d : DataW H} {l : List (DataW H)} (h : d ∈ l) : Rows.uptoBulk d ≤ Rows.uptoBulkAll l := by
  induction l with
  | nil => cases h
  | cons x r ih =>
    simp only [Rows.uptoBulkAll]
    cases List.mem_cons.1 h with
    | inl e => subst e; omega
    | inr e => have := ih e; omega
theorem bulk_len {H : Type} (l : List (DataW H)) : l.length ≤ Rows.uptoBulkAll l := by
  induction l with
  | nil => simp [Rows.uptoBulkAll]
  | cons x r ih => have := bulk_one x; simp only [Rows.uptoBulkAll, List.length_cons]; omega
section
variable {H : Type} {enc : TypeId × Value → H} {P : Program} {W : World} {base B N : Nat} {sp : Nat → Bool} {hd : Bool} {t e : TypeId} {v : Value} {d : DataW H} {ps : List MemPlace} {r : Reach}

/-- a slice: its elements read as a list, with less fuel -/
theorem readU {T : Type} (E : List Value → T → Prop) (ht : P.underlying t = some (.slice e)) {sz : Nat} (hC : P.cellsOf e = sz) (hsz : 0 < sz) {fuel : Nat} {cs : List Value} {x : DataW H × List MemPlace} (h : DataW.trod enc P W base sp hd fuel t cs = some x) (hw : Rows.uptoBulk x.1 ≤ N)
    (helem : ∀ (n : Nat), n < fuel → ∀ (cs : List Value) (x : DataW H × List MemPlace), DataW.trod enc P W base sp hd n e cs = some x → Rows.uptoBulk x.1 ≤ N → ∃ y : T, cs.length = sz ∧ E cs y) :
    ∃ (v : Value) (l : List T) (ccs : List Value), cs = [v] ∧ Rd W W.heap.size v sz l.length ccs ∧ (∀ k (hk : k < l.length), ∃ c, c.length = sz ∧ (∀ j, j < sz → ccs[k * sz + j]? = c[j]?) ∧ E c l[k]) ∧ l.length ≤ N := by
  rcases DataW.trod_slice ht h with ⟨rfl, hx⟩ | ⟨a, len, cap, elems, rest, m, hm, rfl, hx, hb, h1, h2, h3, hi, _, _⟩
  · exact ⟨_, [], [], rfl, Rd.nil W _ sz, fun k hk => by simp at hk, by simp⟩
  · rw [hx] at hw
    simp only [Rows.uptoBulk] at hw
    have hle : ∀ i (hi : i < elems.length), Rows.uptoBulk elems[i].1 ≤ N := fun i hi => by
      have := bulk_part (List.mem_map.2 ⟨elems[i], List.getElem_mem hi, rfl⟩ : elems[i].1 ∈ elems.map (·.1))
      omega
    have hlen : len ≤ N := by
      have := bulk_len (elems.map (·.1))
      rw [List.length_map] at this; omega
    obtain ⟨l, hl, hq⟩ := list_of (Q := fun i (y : List Value × T) => (∀ j, j < sz → W.cell? (a.add (i * sz + j)) = (y.1)[j]?) ∧ y.1.length = sz ∧ E y.1 y.2) len (fun i hil => by
      have h4 := hi i hil
      rw [List.getElem?_eq_getElem (by omega), hC] at h4
      obtain ⟨cs', hc, ht'⟩ := Option.bind_eq_some_iff.1 h4
      obtain ⟨y, hly, hg⟩ := helem m (by omega) cs' _ ht' (hle i (by omega))
      obtain ⟨_, _, hat⟩ := World.cells?_some hc
      exact ⟨(cs', y), fun j hj => by rw [← addr_add_add]; exact hat j hj, hly, hg⟩)
    obtain ⟨f1, f2⟩ := flat_get (fun y : List Value × T => y.1) sz l fun y hy => by
      obtain ⟨i, hi, rfl⟩ := List.mem_iff_getElem.1 hy
      exact (hq i hi).2.1
    refine ⟨_, l.map (·.2), l.flatMap (·.1), rfl, ⟨some a, cap, by rw [List.length_map, hl], by rw [List.length_map]; exact f1, by rw [List.length_map]; omega, h2, ?_⟩, fun k hk => ?_, by rw [List.length_map, hl]; exact hlen⟩
    · rw [List.length_map]
      by_cases hl0 : l.length = 0
      · exact .inl hl0
      · right
        have hcell : ∀ j u, (l.flatMap (·.1))[j]? = some u → W.cell? (a.add j) = some u := by
          intro j u hu
          have hjl : j < l.length * sz := by rw [← f1]; exact (List.getElem?_eq_some_iff.1 hu).1
          have hk : j / sz < l.length := Nat.div_lt_of_lt_mul (by rw [Nat.mul_comm]; exact hjl)
          have hjm : j % sz < sz := Nat.mod_lt _ hsz
          have ej : j / sz * sz + j % sz = j := Nat.div_add_mod' j sz
          rw [← ej] at hu ⊢
          rw [f2 _ hk _ hjm] at hu
          rw [(hq _ hk).1 _ hjm, hu]
        obtain ⟨b, off, spot⟩ := a
        have hpos : 0 < l.length * sz := Nat.mul_pos (by omega) hsz
        have h0 := hcell 0 _ (List.getElem?_eq_getElem (by rw [f1]; exact hpos))
        have hs : spot = none := by
          cases spot with
          | none => rfl
          | some x =>
            simp [World.cell?, Addr.add] at h0
            split at h0 <;> cases h0
        subst hs
        refine ⟨b, off, rfl, ?_, fun j u hu => by have := hcell j u hu; rwa [Addr.add_lit] at this⟩
        have := World.block_lt_of_cell? W _ h0
        simpa [Addr.add] using this
    · rw [List.length_map] at hk
      rw [List.getElem_map]
      exact ⟨l[k].1, (hq k hk).2.1, fun j hj => f2 k hk j hj, (hq k hk).2.2⟩
/-- a struct's fields, each of one cell, with less fuel -/
theorem fieldsU {fs : Array Field} {n : Nat} {cs : List Value} {x : DataW H × List MemPlace} (he : P.underlying e = some (.struct fs)) (hone : oneCellFields P fs = true) (hC : P.cellsOf e = fs.size)
    (h : DataW.trod enc P W base sp hd n e cs = some x) (hw : Rows.uptoBulk x.1 ≤ N) : cs.length = fs.size ∧ ∃ m, m < n ∧ ∀ (j : Nat) (f : Field), fs[j]? = some f → ∃ u y, cs[j]? = some u ∧ DataW.trod enc P W base sp hd m f.type [u] = some y ∧ Rows.uptoBulk y.1 ≤ N := by
  obtain ⟨xs, m, hm, hx, hlen, hxl, hf⟩ := DataW.trod_struct he h
  refine ⟨hlen.trans hC, m, by omega, fun j f hj => ?_⟩
  obtain ⟨ho, hk⟩ := hone_of hone j f hj
  have hjl : j < fs.size := (Array.getElem?_eq_some_iff.1 hj).1
  have h1 := hf j f hj
  rw [ho, hk] at h1
  have hcl : j < cs.length := by omega
  have e1 : (cs.drop j).take 1 = [cs[j]] := by rw [List.drop_eq_getElem_cons hcl]; rfl
  rw [e1, List.getElem?_eq_getElem (by omega)] at h1
  refine ⟨cs[j], _, List.getElem?_eq_getElem hcl, h1, ?_⟩
  rw [hx] at hw
  simp only [Rows.uptoBulk] at hw
  have := bulk_part (List.mem_map.2 ⟨xs[j], List.getElem_mem (by omega), rfl⟩ : xs[j].1 ∈ xs.map (·.1))
  omega
theorem strU {fuel : Nat} {cs : List Value} {x : DataW H × List MemPlace} (ht : P.underlying t = some .string) (h : DataW.trod enc P W base sp hd fuel t cs = some x) (hw : Rows.uptoBulk x.1 ≤ N) : ∃ s : ByteArray, cs = [.string s] ∧ s.size ≤ N := by
  obtain ⟨s, rfl, hx, _⟩ := DataW.trod_string ht h
  refine ⟨s, rfl, ?_⟩
  rw [hx] at hw
  simp only [Rows.uptoBulk] at hw
  have e : s.data.toList.length = s.size := by rw [Array.length_toList]; rfl
  omega
theorem fieldU_at {fs : Array Field} {ts : List TypeId} (h : fs.toList.map (·.type) = ts) {j : Nat} {t : TypeId} (ht : ts[j]? = some t) : ∃ f : Field, fs[j]? = some f ∧ f.type = t := by
  rw [← h, List.getElem?_map, Array.getElem?_toList] at ht
  exact Option.map_eq_some_iff.1 ht
end
section
variable {H : Type} {enc : TypeId × Value → H} {W : World} {base B N : Nat} {sp : Nat → Bool} {hd : Bool} {v : Value} {d : DataW H} {ps : List MemPlace} {r : Reach}
theorem exOne : oneCellFields Tryz.prog (Tryz.prog.fieldsOf 24) = true := by kernel_rfl
theorem exStr : Tryz.prog.underlying 24 = some (.struct (Tryz.prog.fieldsOf 24)) := by kernel_rfl
theorem exCells : Tryz.prog.cellsOf 24 = 5 := by kernel_rfl
theorem exSz : (Tryz.prog.fieldsOf 24).size = 5 := by kernel_rfl
theorem exF : (Tryz.prog.fieldsOf 24).toList.map (·.type) = [3, 9, 3, 3, 22] := by kernel_rfl
theorem grOne : oneCellFields Tryz.prog (Tryz.prog.fieldsOf 88) = true := by kernel_rfl
theorem grStr : Tryz.prog.underlying 88 = some (.struct (Tryz.prog.fieldsOf 88)) := by kernel_rfl
theorem grCells : Tryz.prog.cellsOf 88 = 2 := by kernel_rfl
theorem grSz : (Tryz.prog.fieldsOf 88).size = 2 := by kernel_rfl
theorem grF : (Tryz.prog.fieldsOf 88).toList.map (·.type) = [9, 41] := by kernel_rfl

/-- cells that hold an expression -/
def IsEx (W : World) (cs : List Value) (e : Ex) : Prop := ∃ s, cs = exC e s ∧ Kd W (fun b => b < W.heap.size) s e.l
theorem kids_of {l : List Ex} {v : Value} {ccs : List Value} (hr : Rd W W.heap.size v 5 l.length ccs) (h : ∀ k (hk : k < l.length), ∃ c, c.length = 5 ∧ (∀ j, j < 5 → ccs[k * 5 + j]? = c[j]?) ∧ IsEx W c l[k]) : Kd W (fun b => b < W.heap.size) v l := by
  obtain ⟨ss, hss, hq⟩ := list_of (Q := fun i (s : Value) => ∀ (hi : i < l.length), (∀ j, j < 5 → ccs[i * 5 + j]? = (exC l[i] s)[j]?) ∧ Kd W (fun b => b < W.heap.size) s l[i].l) l.length (fun i hi => by
    obtain ⟨c, _, h2, s, rfl, h4⟩ := h i hi
    exact ⟨s, fun _ => ⟨h2, h4⟩⟩)
  have hcc : ccs = exCs l ss := by
    obtain ⟨A, cap, _, hlen, _⟩ := hr
    apply List.ext_getElem?
    intro j
    by_cases hj : j < l.length * 5
    · have hk : j / 5 < l.length := Nat.div_lt_of_lt_mul (by rw [Nat.mul_comm]; exact hj)
      have hm : j % 5 < 5 := Nat.mod_lt _ (by omega)
      rw [← Nat.div_add_mod' j 5, exCs_get l ss hss _ hk _ hm]
      exact (hq _ (by omega) hk).1 _ hm
    · rw [List.getElem?_eq_none (by omega), List.getElem?_eq_none (by rw [exCs_len _ _ hss]; omega)]
  subst hcc
  exact .mk _ _ ss hss (RdS.of hr) fun i hi => (hq i (by omega) hi).2
theorem read_ex : ∀ (n : Nat) (fuel : Nat), fuel ≤ n → ∀ (cs : List Value) (x : DataW H × List MemPlace), DataW.trod enc Tryz.prog W base sp hd fuel 24 cs = some x → Rows.uptoBulk x.1 ≤ N → ∃ e : Ex, cs.length = 5 ∧ IsEx W cs e := by
  intro n
  induction n with
  | zero =>
    intro fuel hf cs x h hw
    obtain ⟨_, m, hm, _⟩ := DataW.trod_struct exStr h
    omega
  | succ n ih =>
    intro fuel hf cs x h hw
    obtain ⟨hl, m, hm, hfs⟩ := fieldsU exStr exOne (exCells.trans exSz.symm) h hw
    rw [exSz] at hl
    obtain ⟨f0, h0, t0⟩ := fieldU_at exF (j := 0) rfl
    obtain ⟨f1, h1, t1⟩ := fieldU_at exF (j := 1) rfl
    obtain ⟨f2, h2, t2⟩ := fieldU_at exF (j := 2) rfl
    obtain ⟨f3, h3, t3⟩ := fieldU_at exF (j := 3) rfl
    obtain ⟨f4, h4, t4⟩ := fieldU_at exF (j := 4) rfl
    obtain ⟨u0, y0, c0, r0, _⟩ := hfs 0 f0 h0
    obtain ⟨u1, y1, c1, r1, b1⟩ := hfs 1 f1 h1
    obtain ⟨u2, y2, c2, r2, _⟩ := hfs 2 f2 h2
    obtain ⟨u3, y3, c3, r3, _⟩ := hfs 3 f3 h3
    obtain ⟨u4, y4, c4, r4, b4⟩ := hfs 4 f4 h4
    rw [t0] at r0
    rw [t1] at r1
    rw [t2] at r2
    rw [t3] at r3
    rw [t4] at r4
    obtain ⟨k, e0, _⟩ := DataW.trod_int Tryz.underlying3 r0
    obtain ⟨s, e1, _⟩ := strU Tryz.underlying9 r1 b1
    obtain ⟨a, e2, _⟩ := DataW.trod_int Tryz.underlying3 r2
    obtain ⟨b, e3, _⟩ := DataW.trod_int Tryz.underlying3 r3
    obtain ⟨v, l, ccs, e4, hr, hk, _⟩ := readU (T := Ex) (IsEx W) Tryz.underlying22 exCells (by omega) r4 b4 (fun q hq cs' x' hx' hw' => ih q (by omega) cs' x' hx' hw')
    have e0' : u0 = .int .i64 k := by simpa using e0
    have e1' : u1 = .string s := by simpa using e1
    have e2' : u2 = .int .i64 a := by simpa using e2
    have e3' : u3 = .int .i64 b := by simpa using e3
    have e4' : u4 = v := by simpa using e4
    subst e0' e1' e2' e3' e4'
    refine ⟨.mk k s a b l, hl, u4, ?_, kids_of hr hk⟩
    match cs, hl with
    | [z0, z1, z2, z3, z4], _ =>
      simp at c0 c1 c2 c3 c4
      rw [c0, c1, c2, c3, c4]; rfl
/-- cells that hold a group -/
def IsGr (W : World) (N : Nat) (cs : List Value) (g : Gr) : Prop := ∃ s, cs = [.string g.n, s] ∧ Tx W W.heap.size s g.ts ∧ g.ts.length ≤ N ∧ ∀ t ∈ g.ts, t.size ≤ N
theorem read_tx {fuel : Nat} {cs : List Value} {x : DataW H × List MemPlace} (h : DataW.trod enc Tryz.prog W base sp hd fuel 41 cs = some x) (hw : Rows.uptoBulk x.1 ≤ N) : ∃ (v : Value) (l : List ByteArray), cs = [v] ∧ Tx W W.heap.size v l ∧ l.length ≤ N ∧ ∀ t ∈ l, t.size ≤ N := by
  obtain ⟨v, l, ccs, rfl, hr, hk, hn⟩ := readU (T := ByteArray) (fun c s => c = [.string s] ∧ s.size ≤ N) Tryz.underlying41 (show Tryz.prog.cellsOf 9 = 1 by kernel_rfl) (by omega) h hw (fun q hq cs' x' hx' hw' => by
    obtain ⟨s, rfl, hs⟩ := strU Tryz.underlying9 hx' hw'
    exact ⟨s, rfl, rfl, hs⟩)
  have hcc : ccs = txC l := by
    obtain ⟨A, cap, _, hlen, _⟩ := hr
    apply List.ext_getElem?
    intro j
    by_cases hj : j < l.length
    · obtain ⟨c, _, h2, rfl, _⟩ := hk j hj
      have := h2 0 (by omega)
      rw [Nat.mul_one, Nat.add_zero] at this
      rw [this, txC_get l j hj]; rfl
    · rw [List.getElem?_eq_none (by omega), List.getElem?_eq_none (by rw [txC_len]; omega)]
  subst hcc
  refine ⟨v, l, rfl, hr, hn, fun t ht => ?_⟩
  obtain ⟨i, hi, rfl⟩ := List.mem_iff_getElem.1 ht
  obtain ⟨_, _, _, _, h4⟩ := hk i hi
  exact h4
theorem read_gr {n : Nat} {cs : List Value} {x : DataW H × List MemPlace} (h : DataW.trod enc Tryz.prog W base sp hd n 88 cs = some x) (hw : Rows.uptoBulk x.1 ≤ N) : ∃ g : Gr, cs.length = 2 ∧ IsGr W N cs g := by
  obtain ⟨hl, m, hm, hfs⟩ := fieldsU grStr grOne (grCells.trans grSz.symm) h hw
  rw [grSz] at hl
  obtain ⟨f0, h0, t0⟩ := fieldU_at grF (j := 0) rfl
  obtain ⟨f1, h1, t1⟩ := fieldU_at grF (j := 1) rfl
  obtain ⟨u0, y0, c0, r0, b0⟩ := hfs 0 f0 h0
  obtain ⟨u1, y1, c1, r1, b1⟩ := hfs 1 f1 h1
  rw [t0] at r0
  rw [t1] at r1
  obtain ⟨s, e0, _⟩ := strU Tryz.underlying9 r0 b0
  obtain ⟨v, l, e1, hr, hn, hs⟩ := read_tx r1 b1
  have e0' : u0 = .string s := by simpa using e0
  have e1' : u1 = v := by simpa using e1
  subst e0' e1'
  refine ⟨⟨s, l⟩, hl, u1, ?_, hr, hn, hs⟩
  match cs, hl with
  | [z0, z1], _ =>
    simp at c0 c1
    rw [c0, c1]
set_option maxRecDepth 100000 in
theorem arg_exU (hval : Value.okWide Tryz.prog W r B 24 v) (h : DataW.Trod enc Tryz.prog W base sp hd 24 v d ps) (hw : Rows.uptoBulk d ≤ N) : ∃ (e : Ex) (s : Value), v = exV e s ∧ Kb W W.heap.size s e.l := by
  obtain ⟨cs, rfl, _⟩ := okWide_struct exStr hval
  obtain ⟨fuel, hf⟩ := h
  obtain ⟨e, _, s, hc, hk⟩ := read_ex fuel fuel (Nat.le_refl _) _ _ hf hw
  refine ⟨e, s, ?_, hk⟩
  have hc' : cs.toList = exC e s := hc
  have hcs : cs = (exC e s).toArray := by rw [← hc', Array.toArray_toList]
  rw [hcs]; rfl
set_option maxRecDepth 100000 in
theorem arg_grsU (hval : Value.okWide Tryz.prog W r B 25 v) (h : DataW.Trod enc Tryz.prog W base sp hd 25 v d ps) (hw : Rows.uptoBulk d ≤ N) : ∃ l : List Gr, Grs W W.heap.size v l ∧ l.length ≤ N ∧ (∀ g ∈ l, g.ts.length ≤ N) ∧ ∀ g ∈ l, ∀ t ∈ g.ts, t.size ≤ N := by
  obtain ⟨a0, n0, c0, rfl⟩ := okWide_slice Tryz.underlying25 hval
  obtain ⟨fuel, hf⟩ := h
  obtain ⟨v', l, ccs, hc, hr, hk, hn⟩ := readU (T := Gr) (IsGr W N) Tryz.underlying25 grCells (by omega) hf hw (fun q hq cs' x' hx' hw' => read_gr hx' hw')
  have hv : Value.slice a0 n0 c0 = v' := by simpa [Value.cells] using hc
  rw [hv]
  have hfacts : ∀ k (hk : k < l.length), l[k].ts.length ≤ N ∧ ∀ t ∈ l[k].ts, t.size ≤ N := fun k hkl => by
    obtain ⟨_, _, _, _, _, _, h5, h6⟩ := hk k hkl
    exact ⟨h5, h6⟩
  obtain ⟨ss, hss, hq⟩ := list_of (Q := fun i (s : Value) => ∀ (hi : i < l.length), (∀ j, j < 2 → ccs[i * 2 + j]? = ([.string l[i].n, s] : List Value)[j]?) ∧ Tx W W.heap.size s l[i].ts) l.length (fun i hi => by
    obtain ⟨c, _, h2, s, rfl, h4, _⟩ := hk i hi
    exact ⟨s, fun _ => ⟨h2, h4⟩⟩)
  have hcc : ccs = neC (fun g : Gr => Value.string g.n) l ss := by
    obtain ⟨A, cap, _, hlen, _⟩ := hr
    apply List.ext_getElem?
    intro j
    by_cases hj : j < l.length * 2
    · have hk2 : j / 2 < l.length := Nat.div_lt_of_lt_mul (by rw [Nat.mul_comm]; exact hj)
      obtain ⟨g1, g2⟩ := neC_get (fun g : Gr => Value.string g.n) l ss hss _ hk2
      have hq' := (hq (j / 2) (by omega) hk2).1
      rcases Nat.mod_two_eq_zero_or_one j with hm | hm
      · have e : j = j / 2 * 2 := by omega
        have := hq' 0 (by omega)
        rw [Nat.add_zero, ← e] at this
        rw [← e] at g1
        rw [this, g1]; rfl
      · have e : j = j / 2 * 2 + 1 := by omega
        have := hq' 1 (by omega)
        rw [← e] at this
        rw [← e] at g2
        rw [this, g2]; rfl
    · rw [List.getElem?_eq_none (by omega), List.getElem?_eq_none (by rw [neC_len _ _ _ hss]; omega)]
  subst hcc
  refine ⟨l, ⟨ss, hss, RdS.of hr, fun i hi => (hq i (by omega) hi).2⟩, hn, fun g hg => ?_, fun g hg => ?_⟩
  · obtain ⟨i, hi, rfl⟩ := List.mem_iff_getElem.1 hg
    exact (hfacts i hi).1
  · obtain ⟨i, hi, rfl⟩ := List.mem_iff_getElem.1 hg
    exact (hfacts i hi).2
end
end Go.Proofs.YtkbileabkfccgaaGreatDoor
