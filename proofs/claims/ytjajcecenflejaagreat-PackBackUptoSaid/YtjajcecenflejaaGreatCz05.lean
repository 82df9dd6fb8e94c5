/- YtjajcecenflejaaGreatCz05 -/
import Derived.Test.YtjajcecenflejaaGreatCz02
import Derived.Test.YtjajcecenflejaaGreatCz01
namespace Go.Proofs.YtjajcecenflejaaGreat
open Go.RowKit
structure Fr (O O' : Nat → Prop) (w w' : World) : Prop where
  os : w'.os = w.os
  tape : w'.tape = w.tape
  output : w'.output = w.output
  size : w.heap.size ≤ w'.heap.size
  block : ∀ k, k < w.heap.size → ¬ O k → w'.heap[k]? = w.heap[k]?
  own : ∀ k, O' k → k < w'.heap.size ∧ (O k ∨ w.heap.size ≤ k)
section
variable {O O' O'' S : Nat → Prop} {w w' w'' : World}
theorem Fr.refl (h : ∀ k, O k → k < w.heap.size) : Fr O O w w := ⟨rfl, rfl, rfl, Nat.le_refl _, fun _ _ _ => rfl, fun k hk => ⟨h k hk, .inl hk⟩⟩
theorem Fr.trans (h : Fr O O' w w') (k : Fr O' O'' w' w'') : Fr O O'' w w'' :=
  ⟨k.os.trans h.os, k.tape.trans h.tape, k.output.trans h.output, Nat.le_trans h.size k.size, fun i hi hn =>
    (k.block i (Nat.lt_of_lt_of_le hi h.size) fun ho => (h.own i ho).2.elim hn fun hl => by omega).trans (h.block i hi hn),
    fun i hi => ⟨(k.own i hi).1, (k.own i hi).2.elim (fun ho => (h.own i ho).2) fun hl => .inr (Nat.le_trans h.size hl)⟩⟩
theorem Fr.below (h : Fr O O' w w') (k : Below w'.heap.size w' w'') : Fr O O' w w'' :=
  ⟨k.os.trans h.os, k.tape.trans h.tape, k.output.trans h.output, Nat.le_trans h.size k.size, fun i hi hn => (k.block i (Nat.lt_of_lt_of_le hi h.size)).trans (h.block i hi hn),
    fun i hi => ⟨Nat.lt_of_lt_of_le (h.own i hi).1 k.size, (h.own i hi).2⟩⟩
theorem Fr.drewN (h : Fr O O' w w') (n : Nat) : Fr O O' w (w'.drewN n) := ⟨h.os, h.tape, h.output, h.size, h.block, h.own⟩
theorem Fr.alloc (h : Fr O O' w w') (o : Obj) : Fr O O' w (w'.alloc o) := h.below ((Below.refl _ _).alloc (Nat.le_refl _) _)
theorem Fr.owns (h : Fr O O' w w') (k : ∀ i, O'' i → i < w'.heap.size ∧ (O' i ∨ w.heap.size ≤ i)) : Fr O O'' w w' :=
  ⟨h.os, h.tape, h.output, h.size, h.block, fun i hi => ⟨(k i hi).1, (k i hi).2.elim (fun ho => (h.own i ho).2) .inr⟩⟩
theorem Fr.set (h : Fr O O' w w') {p : Addr} (hp : O' p.block ∨ w.heap.size ≤ p.block) (u : Value) : Fr O O' w (w'.setCell p u) := by
  have hb : ∀ k, k ≠ p.block → (w'.setCell p u).heap[k]? = w'.heap[k]? := fun k hk => Below.heap_setCell w' p u k hk
  have hs : (w'.setCell p u).heap.size = w'.heap.size := by
    have := ((Below.refl 0 w').setCell (Nat.zero_le p.block) u).size
    have h2 : (w'.setCell p u).heap.size ≤ w'.heap.size := by
      unfold World.setCell
      split <;> simp
    omega
  have hb2 := (Below.refl 0 w').setCell (Nat.zero_le p.block) u
  refine ⟨hb2.os.trans h.os, hb2.tape.trans h.tape, hb2.output.trans h.output, by rw [hs]; exact h.size, fun k hk hn => ?_, fun k hk => by rw [hs]; exact h.own k hk⟩
  refine (hb k fun e => ?_).trans (h.block k hk hn)
  subst e
  exact hp.elim (fun ho => (h.own _ ho).2.elim hn fun hl => by omega) fun hl => by omega
theorem Fr.grown (h : Fr O O' w w') {row : Option Nat} (hg : w'.grownBy w'' row) (hr : ∀ k, row = some k → O' k ∨ w.heap.size ≤ k) : Fr O O' w w'' :=
  ⟨hg.os.trans h.os, hg.tape.trans h.tape, hg.output.trans h.output, Nat.le_trans h.size hg.size, fun k hk hn =>
    (hg.block k (Nat.lt_of_lt_of_le hk h.size) fun e => (hr k e.symm).elim (fun ho => (h.own _ ho).2.elim hn fun hl => by omega) fun hl => by omega).trans (h.block k hk hn),
    fun k hk => ⟨Nat.lt_of_lt_of_le (h.own k hk).1 hg.size, (h.own k hk).2⟩⟩
theorem Fr.kept (h : Fr O O' w w') (hS : ∀ b, S b → ¬ O b) : Kept2 S S w w' := fun b h1 h2 => ⟨h1, Nat.lt_of_lt_of_le h2 h.size, h.block b h2 (hS b h1)⟩
theorem Below.fr (h : Below w.heap.size w w') (hO : ∀ k, O k → k < w.heap.size) : Fr O O w w' := (Fr.refl hO).below h
theorem Fr.apart (h : Fr O O' w w') {k : Nat} (hk : k < w.heap.size) (hn : ¬ O k) : ¬ O' k := fun ho => (h.own k ho).2.elim hn fun hl => by omega
end
end Go.Proofs.YtjajcecenflejaaGreat
