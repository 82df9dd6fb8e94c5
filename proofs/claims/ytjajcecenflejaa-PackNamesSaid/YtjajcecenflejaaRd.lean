/- Words of our own on memory: slices whose elements have any number of cells, as they are read (Rd). Of no program. -/
import Derived.WalkKit
import Derived.WalkSpells
import Derived.WalkLawsBesides
import Derived.Maps.AppendAt
import Derived.Deep.Draws
import Derived.Deep.RegionHeld3
import Derived.Deep.QuietTactic
import Derived.BigQuiet
namespace Go.Proofs.Ytjajcecenflejaa
open Go.RowKit

/-- the slice v has n elements of sz cells each, the cells cs; they lie below block B -/
def Rd (w : World) (B : Nat) (v : Value) (sz n : Nat) (cs : List Value) : Prop :=
  ∃ A cap, v = .slice A n cap ∧ cs.length = n * sz ∧ n ≤ cap ∧ cap ≤ maxLen ∧
    (n = 0 ∨ ∃ b off, A = some ⟨b, off, none⟩ ∧ b < B ∧ ∀ j u, cs[j]? = some u → w.cell? ⟨b, off + j, none⟩ = some u)

section
variable {w w' : World} {B B' : Nat} {v : Value} {sz n : Nat} {cs : List Value}
theorem Rd.keep (h : Rd w B v sz n cs) (hk : ∀ b o, b < B → w'.cell? ⟨b, o, none⟩ = w.cell? ⟨b, o, none⟩) : Rd w' B v sz n cs := by
  obtain ⟨A, cap, rfl, h0, h1, h2, h3⟩ := h
  refine ⟨A, cap, rfl, h0, h1, h2, h3.imp id ?_⟩
  rintro ⟨b, off, hA, hb, hc⟩
  exact ⟨b, off, hA, hb, fun j u hu => (hk _ _ hb).trans (hc j u hu)⟩
theorem Rd.below (h : Rd w B v sz n cs) (hb : Below B w w') : Rd w' B v sz n cs := h.keep fun b o hl => hb.cell (p := ⟨b, o, none⟩) hl
theorem Rd.mono (h : Rd w B v sz n cs) (hB : B ≤ B') : Rd w B' v sz n cs := by
  obtain ⟨A, cap, rfl, h0, h1, h2, h3⟩ := h
  refine ⟨A, cap, rfl, h0, h1, h2, h3.imp id ?_⟩
  rintro ⟨b, off, hA, hb, hc⟩
  exact ⟨b, off, hA, by omega, hc⟩
theorem Rd.drew (h : Rd w B v sz n cs) : Rd w.drew B v sz n cs := h
theorem Rd.drewN (h : Rd w B v sz n cs) (k : Nat) : Rd (w.drewN k) B v sz n cs := h
theorem Rd.alloc (h : Rd w B v sz n cs) (hB : B ≤ w.heap.size) (o : Obj) : Rd (w.alloc o) B v sz n cs := h.below ((Below.refl _ _).alloc hB _)
theorem Rd.nil (w : World) (B sz : Nat) : Rd w B (.slice none 0 0) sz 0 [] := ⟨none, 0, rfl, by simp, Nat.le_refl _, by unfold maxLen; omega, .inl rfl⟩
theorem Rd.form (h : Rd w B v sz n cs) : ∃ A cap, v = .slice A n cap := by obtain ⟨A, cap, h, _⟩ := h; exact ⟨A, cap, h⟩
theorem Rd.len (h : Rd w B v sz n cs) : cs.length = n * sz := by obtain ⟨A, cap, _, h, _⟩ := h; exact h
/-- the address, where there is an element -/
theorem Rd.at {A : Option Addr} {cap : Nat} (h : Rd w B (.slice A n cap) sz n cs) (hn : 0 < n) :
    ∃ b off, A = some ⟨b, off, none⟩ ∧ b < B ∧ n ≤ cap ∧ ∀ j u, cs[j]? = some u → w.cell? ⟨b, off + j, none⟩ = some u := by
  obtain ⟨A', cap', hv, h0, h1, h2, h3⟩ := h
  simp only [Value.slice.injEq, true_and] at hv
  obtain ⟨rfl, rfl⟩ := hv
  rcases h3 with h3 | ⟨b, off, hA, hb, hc⟩
  · omega
  · exact ⟨b, off, hA, hb, h1, hc⟩
theorem Rd.max (h : Rd w B v sz n cs) : n ≤ maxLen := by obtain ⟨A, cap, _, _, h1, h2, _⟩ := h; omega
/-- what a call owns is read -/
theorem Rd.own {e : TypeId} {base : Nat} (h : w.ownsRow base e sz v n cs) : Rd w w.heap.size v sz n cs := by
  have h0 := h
  rcases h.2 with ⟨rfl, hn⟩ | ⟨g, cap, cur, rfl, hb, hg, h1, h2, h3, h4⟩
  · subst hn
    have hl := h.1
    rw [Nat.zero_mul] at hl
    obtain rfl := List.eq_nil_of_length_eq_zero hl
    exact Rd.nil w _ _
  · refine ⟨_, cap, rfl, h.1, h1, h2, .inr ⟨g, 0, rfl, (Array.getElem?_eq_some_iff.1 hg).1, fun j u hu => ?_⟩⟩
    have := World.ownsRow.cells h0 (g := g) rfl j u hu
    rw [Addr.add_lit] at this
    exact this
end

/-! ## rows of a call's own -/
section
variable {w w' : World} {e : TypeId} {base base' sz n : Nat} {v : Value} {cs : List Value}
theorem own_all (h : w.ownsRow base e sz v n cs) (hb : Below w.heap.size w w') : w'.ownsRow base e sz v n cs :=
  World.ownsRow.kept h (row := none) ⟨hb.os, hb.tape, hb.output, hb.size, fun k hk _ => hb.block k hk⟩ (by cases v.ownBlock <;> simp)
theorem own_mono (h : w.ownsRow base e sz v n cs) (hb : base' ≤ base) : w.ownsRow base' e sz v n cs := by
  refine ⟨h.1, ?_⟩
  rcases h.2 with h2 | ⟨g, cap, cur, hv, hg, r⟩
  · exact .inl h2
  · exact .inr ⟨g, cap, cur, hv, by omega, r⟩
theorem own_form (h : w.ownsRow base e sz v n cs) : ∃ A cap, v = .slice A n cap := by
  rcases h.2 with ⟨rfl, rfl⟩ | ⟨g, cap, cur, rfl, _⟩
  · exact ⟨none, 0, rfl⟩
  · exact ⟨_, cap, rfl⟩
end

/-- the literal of a slice -/
theorem Rd.lit (w : World) (e : TypeId) (sz n : Nat) (cs : Array Value) (fr : Nat × Nat) (hn : cs.size = n * sz) (hm : n ≤ 1000000000000) :
    Rd (w.alloc (.cells cs e fr)) (w.heap.size + 1) (.slice (some ⟨w.heap.size, 0, none⟩) n n) sz n cs.toList := by
  refine ⟨_, _, rfl, by simpa using hn, Nat.le_refl _, by unfold maxLen; omega, .inr ⟨w.heap.size, 0, rfl, by omega, fun j u hu => ?_⟩⟩
  rw [cell_of_row (w.alloc (.cells cs e fr)) w.heap.size _ cs e fr (heap_alloc_new w _), ← Array.getElem?_toList, Nat.zero_add]
  exact hu

/-- block facts of a call that made memory: old cells and marks read as before -/
theorem bcell {W w1 : World} {B : Nat} (hb : Below B W w1) : (∀ b o, b < B → w1.cell? ⟨b, o, none⟩ = W.cell? ⟨b, o, none⟩) ∧ (∀ b o, b < B → w1.frozen? ⟨b, o, none⟩ = W.frozen? ⟨b, o, none⟩) :=
  ⟨fun b o h => hb.cell (p := ⟨b, o, none⟩) h, fun b o h => hb.frozen (p := ⟨b, o, none⟩) h⟩

/-! ## texts in order -/
def ltS (a b : ByteArray) : Bool := Op.bytesLess a.toList b.toList
theorem ba_toList (s : ByteArray) : s.toList = s.data.toList := ByteArray.toList_eq s
theorem bl_eq : ∀ (x y : List UInt8), Op.bytesLess x y = decide (x < y)
  | [], [] => by simp [Op.bytesLess]
  | _ :: _, [] => by simp [Op.bytesLess]
  | [], _ :: _ => by simp [Op.bytesLess]
  | a :: x, b :: y => by
    rw [Op.bytesLess, bl_eq x y]
    simp only [List.cons_lt_cons_iff]
    by_cases h1 : a < b <;> by_cases h2 : a = b <;> by_cases h3 : x < y <;> simp [h1, h2, h3]
theorem toList_inj {a b : ByteArray} (h : a.toList = b.toList) : a = b := by
  rw [ba_toList, ba_toList] at h
  cases a; cases b; congr 1
  exact Array.toList_inj.1 h
theorem ltS_iff (a b : ByteArray) : ltS a b = true ↔ a.data.toList < b.data.toList := by unfold ltS; rw [bl_eq, ba_toList, ba_toList]; simp
theorem ltS_irr (a : ByteArray) : ltS a a = false := by
  rw [← Bool.not_eq_true, ltS_iff]; exact List.lt_irrefl _
theorem ltS_trans {a b c : ByteArray} (h : ltS a b = true) (k : ltS b c = true) : ltS a c = true := by
  rw [ltS_iff] at *; exact List.lt_trans h k
theorem ltS_asymm {a b : ByteArray} (h : ltS a b = true) : ltS b a = false := by
  rw [← Bool.not_eq_true]; intro k
  have := ltS_trans h k; rw [ltS_irr] at this; cases this
theorem ltS_tri {a b : ByteArray} (h : ltS a b = false) (k : ltS b a = false) : a = b := by
  rw [← Bool.not_eq_true, ltS_iff] at *
  apply toList_inj
  rw [ba_toList, ba_toList]
  exact List.le_antisymm (List.not_lt.1 k) (List.not_lt.1 h)
theorem eqS_iff (a b : ByteArray) : (a.toList == b.toList) = true ↔ a = b := by
  constructor
  · intro h; exact toList_inj (by simpa using h)
  · rintro rfl; simp
theorem neS_iff (a b : ByteArray) : (a.toList == b.toList) = false ↔ a ≠ b := by
  rw [← Bool.not_eq_true, eqS_iff]
end Go.Proofs.Ytjajcecenflejaa
