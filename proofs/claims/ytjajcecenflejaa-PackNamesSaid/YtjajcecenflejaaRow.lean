/- From a walk to the row: a law that comes to true and leaves what was there as it was. And slices that came in, as lists of cells. -/
import Derived.Test.YtjajcecenflejaaRows
import Derived.Test.YtjajcecenflejaaWords
import Derived.ProofKit
import Derived.OpenShut
import Derived.SliceStrings
namespace Go.Proofs.Ytjajcecenflejaa
open Go.ChangeShapes Go.WideShapes Go.ChangeAt Go.RowKit
open Go.ChangeMaps (open_string shut_string)

theorem trodAll_stays {H : Type} {enc : TypeId × Value → H} {P : Program} (hl : laidOutB P = true) {W W' : World} (hb : Below W.heap.size W W') :
    ∀ (ts : List TypeId) (vs : List Value) (ds : List (DataW H)) (ps : List MemPlace), (∀ t ∈ ts, P.readableRec t = true ∧ t < P.types.size) → (∀ p ∈ ps, p.block < W.heap.size) →
      DataW.TrodAll enc P W 0 (fun _ => true) true ts vs ds ps → DataW.TrodAll enc P W' 0 (fun b => decide (b < W.heap.size)) true ts vs ds ps
  | [], vs, ds, ps, _, _, h => by
    obtain ⟨rfl, rfl, rfl⟩ := trodAll_nil h
    exact trodAll_mk0
  | t :: ts, vs, ds, ps, ht, hp, h => by
    obtain ⟨v, vs', d, ds', p, q, rfl, rfl, rfl, h0, h1⟩ := trodAll_cons h
    have hpt := ht t (by simp)
    exact trodAll_cons_mk (Below.trod hl hpt.1 hpt.2 h0 hb (fun x hx => hp x (by simp [hx])))
      (trodAll_stays hl hb ts vs' ds' q (fun t' h' => ht t' (by simp [h'])) (fun x hx => hp x (by simp [hx])) h1)

theorem law_post {H : Type} {enc : TypeId × Value → H} {P : Program} {f : Func} {s : ChangeSpec} {W W' : World} {args : Array Value} {ds gs : List (DataW H)} {before : List MemPlace} {tb : TypeId}
    (hW : DataW.Whole enc P f.params.toList s.vars false W args.toList ds gs before) (hl : laidOutB P = true) (hpar : ∀ t ∈ f.params.toList, P.readableRec t = true ∧ t < P.types.size)
    (hv : s.vars = []) (hfn : s.fn H (ds ++ gs) = { results := [.lit (.bool true)], args := ds }) (hr : f.resultTypes = #[tb]) (htb : P.underlying tb = some .bool) (hb : Below W.heap.size W W') :
    s.post enc P f false true false false W args (.bool true) W' := by
  have hW' := hW
  have hlt := hW.lt
  obtain ⟨p, q, hA, hV, rfl, hfz, hnd⟩ := hW
  rw [hv] at hV
  obtain ⟨rfl, rfl⟩ := trodVars_none hV
  refine ⟨ds, [], p ++ [], [], p, [], hW', ?_, ?_, ?_, World.keptBut_mono (fun x hx => ⟨hx, .inr (.inl (by simpa using hx))⟩) (hb.frame (· ∈ p ++ [])), fun h => by cases h⟩
  · rw [hfn, hr]
    exact trodAll_cons_mk (shut_bool htb true) trodAll_mk0
  · rw [hfn]
    exact trodAll_stays hl hb _ _ _ _ hpar (fun x hx => hlt x (by simp [hx])) hA
  · rw [hfn, hv]
    rfl

/-- the slice v reads the cells cs (of one cell each), in block b -/
def Sl (w : World) (b : Nat) (v : Value) (cs : List Value) : Prop :=
  ∃ A cap, v = .slice A cs.length cap ∧ cs.length ≤ cap ∧ cap ≤ maxLen ∧
    (cs = [] ∨ ∃ off, A = some ⟨b, off, none⟩ ∧ b < w.heap.size ∧ ∀ j u, cs[j]? = some u → w.cell? ⟨b, off + j, none⟩ = some u)
theorem Sl.keep {w w' : World} {b : Nat} {v : Value} {l : List Value} (h : Sl w b v l) (hs : w.heap.size ≤ w'.heap.size) (hk : b < w.heap.size → w'.heap[b]? = w.heap[b]?) : Sl w' b v l := by
  obtain ⟨A, cap, rfl, h1, h2, h3⟩ := h
  refine ⟨A, cap, rfl, h1, h2, ?_⟩
  rcases h3 with h3 | ⟨off, hA, hb, hc⟩
  · exact .inl h3
  · exact .inr ⟨off, hA, by omega, fun j u hu => (World.cell?_of_block (w := w) (a := ⟨b, off + j, none⟩) (hk hb)).trans (hc j u hu)⟩
theorem Sl.all {w w' : World} {b : Nat} {v : Value} {l : List Value} (h : Sl w b v l) (hb : Below w.heap.size w w') : Sl w' b v l := h.keep hb.size fun hs => hb.block b hs
theorem Sl.bs {w : World} {b : Nat} {v : Value} {l : List UInt8} (h : Sl w b v (cellsB l)) : Bs w b v l := by
  obtain ⟨A, cap, hv, h1, h2, h3⟩ := h
  rw [cellsB_len] at hv h1
  exact ⟨A, cap, hv, h1, h2, h3.imp (by simp [cellsB]) id⟩

/-- what a reading of cells gives, from its address -/
theorem Sl.of {w : World} {a : Addr} {cs : List Value} {len cap : Nat} (hlen : cs.length = len) (h1 : len ≤ cap) (h2 : cap ≤ maxLen) (hc : ∀ j u, cs[j]? = some u → w.cell? (a.add j) = some u) : ∃ b, Sl w b (.slice (some a) len cap) cs := by
  subst hlen
  obtain ⟨b, off, spot⟩ := a
  refine ⟨b, some ⟨b, off, spot⟩, cap, rfl, h1, h2, ?_⟩
  cases cs with
  | nil => exact .inl rfl
  | cons c r =>
    have h0 := hc 0 c rfl
    have hs : spot = none := by
      cases spot with
      | none => rfl
      | some x =>
        simp [World.cell?, Addr.add] at h0
        split at h0 <;> cases h0
    subst hs
    have hlt : b < w.heap.size := by
      have := World.block_lt_of_cell? w _ h0
      simpa [Addr.add] using this
    exact .inr ⟨off, rfl, hlt, fun j u hu => by have := hc j u hu; rwa [Addr.add_lit] at this⟩

section
variable {H : Type} {enc : TypeId × Value → H} {P : Program} {W : World} {base B : Nat} {sp : Nat → Bool} {hd : Bool} {t e : TypeId} {v : Value} {d : DataW H} {ps : List MemPlace} {r : Reach}

/-- an argument of integers -/
theorem arg_ints {k : IntKind} (ht : P.underlying t = some (.slice e)) (he : P.underlying e = some (.int k)) (hc : P.cellsOf e = 1) (hval : Value.okWide P W r B t v) (h : DataW.Trod enc P W base sp hd t v d ps) :
    ∃ (zs : List Int) (b : Nat), Sl W b v (zs.map (Value.int k)) ∧ ∀ n ∈ zs, (Lit.int k n).wf = true := by
  obtain ⟨a0, n0, c0, rfl⟩ := okWide_slice ht hval
  obtain ⟨fuel, hf⟩ := h
  rcases open_ints ht he hc hf with ⟨hcs, _⟩ | ⟨a, len, cap, zs, hcs, _, h1, h2, hz, _, hcell, hwf⟩
  · have : Value.slice a0 n0 c0 = .slice none 0 0 := by simpa [Value.cells] using hcs
    rw [this]
    exact ⟨[], 0, ⟨none, 0, rfl, Nat.le_refl _, by unfold maxLen; omega, .inl rfl⟩, by simp⟩
  · have : Value.slice a0 n0 c0 = .slice (some a) len cap := by simpa [Value.cells] using hcs
    rw [this]
    have hle : len ≤ zs.length := by rw [hz]; split <;> omega
    obtain ⟨b, hb⟩ := Sl.of (w := W) (a := a) (cs := (zs.take len).map (Value.int k)) (len := len) (cap := cap) (by simp; omega) h1 h2 (fun j u hu => by
      have hj : j < len := by have := (List.getElem?_eq_some_iff.1 hu).1; simp at this; omega
      rw [hcell j (by omega)]
      rw [← hu]
      simp [List.getD, hj, show j < zs.length by omega])
    exact ⟨_, b, hb, fun n hn => hwf n (List.mem_of_mem_take hn)⟩

/-- an argument of texts -/
theorem arg_strs (ht : P.underlying t = some (.slice e)) (he : P.underlying e = some .string) (hc : P.cellsOf e = 1) (hval : Value.okWide P W r B t v) (h : DataW.Trod enc P W base sp hd t v d ps) :
    ∃ (ss : List ByteArray) (b : Nat), Sl W b v (ss.map Value.string) ∧ ∀ s ∈ ss, s.size ≤ maxLen := by
  obtain ⟨a0, n0, c0, rfl⟩ := okWide_slice ht hval
  obtain ⟨fuel, hf⟩ := h
  rcases open_strings ht he hc hf with ⟨hcs, _⟩ | ⟨a, len, cap, zs, hcs, _, h1, h2, hz, _, hcell, hwf⟩
  · have : Value.slice a0 n0 c0 = .slice none 0 0 := by simpa [Value.cells] using hcs
    rw [this]
    exact ⟨[], 0, ⟨none, 0, rfl, Nat.le_refl _, by unfold maxLen; omega, .inl rfl⟩, by simp⟩
  · have : Value.slice a0 n0 c0 = .slice (some a) len cap := by simpa [Value.cells] using hcs
    rw [this]
    have hle : len ≤ zs.length := by rw [hz]; split <;> omega
    obtain ⟨b, hb⟩ := Sl.of (w := W) (a := a) (cs := (zs.take len).map Value.string) (len := len) (cap := cap) (by simp; omega) h1 h2 (fun j u hu => by
      have hj : j < len := by have := (List.getElem?_eq_some_iff.1 hu).1; simp at this; omega
      rw [hcell j (by omega)]
      rw [← hu]
      simp [List.getD, hj, show j < zs.length by omega])
    exact ⟨_, b, hb, fun n hn => hwf n (List.mem_of_mem_take hn)⟩

/-- an argument of bytes -/
theorem arg_bytes (ht : P.underlying t = some (.slice e)) (he : P.underlying e = some (.int .u8)) (hc : P.cellsOf e = 1) (hval : Value.okWide P W r B t v) (h : DataW.Trod enc P W base sp hd t v d ps) :
    ∃ (l : List UInt8) (b : Nat), Bs W b v l := by
  obtain ⟨zs, b, hs, hwf⟩ := arg_ints ht he hc hval h
  refine ⟨zs.map fun n => UInt8.ofNat n.toNat, b, Sl.bs ?_⟩
  have : cellsB (zs.map fun n => UInt8.ofNat n.toNat) = zs.map (Value.int .u8) := by
    unfold cellsB
    rw [List.map_map]
    apply List.map_congr_left
    intro n hn
    have := hwf n hn
    have hx : 0 ≤ n ∧ n ≤ 255 := by simpa [Lit.wf, IntKind.min, IntKind.max, IntKind.signed, IntKind.bits] using this
    simp
    omega
  rw [this]
  exact hs
end
end Go.Proofs.Ytjajcecenflejaa
