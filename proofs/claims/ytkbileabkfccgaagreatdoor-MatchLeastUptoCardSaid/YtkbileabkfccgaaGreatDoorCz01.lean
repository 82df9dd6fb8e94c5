/- Rd, ExT, Words, Nm, merged. -/
import Derived.WalkKit
import Derived.WalkSpells
import Derived.WalkLawsBesides
import Derived.Maps.AppendAt
import Derived.Deep.Draws
import Derived.Deep.RegionHeld3
import Derived.Deep.QuietTactic
import Derived.BigQuiet
import Derived.Lib.Varint
import Derived.Lib.AppendStr
import Derived.Laws.BytesArg
import Derived.Test.YtkbileabkfccgaaGreatDoorProg
import Derived.Laws.IdiomStrings
import Derived.Lib.Hide

/- Words of our own on memory: slices whose elements have any number of cells, as they are read (Rd). Of no program. -/
namespace Go.Proofs.YtkbileabkfccgaaGreatDoor
open Go.RowKit

/-- the slice v has n elements of sz cells each, the cells cs; they lie below block B -/
def Rd (w : World) (B : Nat) (v : Value) (sz n : Nat) (cs : List Value) : Prop :=
  ∃ A cap, v = .slice A n cap ∧ cs.length = n * sz ∧ n ≤ cap ∧ cap ≤ maxLen ∧
    (n = 0 ∨ ∃ b off, A = some ⟨b, off, none⟩ ∧ b < B ∧ ∀ j u, cs[j]? = some u → w.cell? ⟨b, off + j, none⟩ = some u)

section
variable {w w' : World} {B B' : Nat} {v : Value} {sz n : Nat} {cs : List Value}
theorem Rd.keep (h : Rd w B v sz n cs) (hk : ∀ b o, b < B → w'.cell? ⟨b, o, none⟩ = w.cell? ⟨b, o, none⟩) : Rd w' B v sz n cs := by
  obtain ⟨A, cap, rfl, h0, h1, h2, h3⟩ := h
  refine ⟨A, cap, rfl, h0, h1, h2, h3.imp id ?_⟩
  rintro ⟨b, off, hA, hb, hc⟩
  exact ⟨b, off, hA, hb, fun j u hu => (hk _ _ hb).trans (hc j u hu)⟩
theorem Rd.below (h : Rd w B v sz n cs) (hb : Below B w w') : Rd w' B v sz n cs := h.keep fun b o hl => hb.cell (p := ⟨b, o, none⟩) hl
theorem Rd.mono (h : Rd w B v sz n cs) (hB : B ≤ B') : Rd w B' v sz n cs := by
  obtain ⟨A, cap, rfl, h0, h1, h2, h3⟩ := h
  refine ⟨A, cap, rfl, h0, h1, h2, h3.imp id ?_⟩
  rintro ⟨b, off, hA, hb, hc⟩
  exact ⟨b, off, hA, by omega, hc⟩
theorem Rd.drew (h : Rd w B v sz n cs) : Rd w.drew B v sz n cs := h
theorem Rd.drewN (h : Rd w B v sz n cs) (k : Nat) : Rd (w.drewN k) B v sz n cs := h
theorem Rd.alloc (h : Rd w B v sz n cs) (hB : B ≤ w.heap.size) (o : Obj) : Rd (w.alloc o) B v sz n cs := h.below ((Below.refl _ _).alloc hB _)
theorem Rd.nil (w : World) (B sz : Nat) : Rd w B (.slice none 0 0) sz 0 [] := ⟨none, 0, rfl, by simp, Nat.le_refl _, by unfold maxLen; omega, .inl rfl⟩
theorem Rd.form (h : Rd w B v sz n cs) : ∃ A cap, v = .slice A n cap := by obtain ⟨A, cap, h, _⟩ := h; exact ⟨A, cap, h⟩
theorem Rd.len (h : Rd w B v sz n cs) : cs.length = n * sz := by obtain ⟨A, cap, _, h, _⟩ := h; exact h
/-- the address, where there is an element -/
theorem Rd.at {A : Option Addr} {cap : Nat} (h : Rd w B (.slice A n cap) sz n cs) (hn : 0 < n) :
    ∃ b off, A = some ⟨b, off, none⟩ ∧ b < B ∧ n ≤ cap ∧ ∀ j u, cs[j]? = some u → w.cell? ⟨b, off + j, none⟩ = some u := by
  obtain ⟨A', cap', hv, h0, h1, h2, h3⟩ := h
  simp only [Value.slice.injEq, true_and] at hv
  obtain ⟨rfl, rfl⟩ := hv
  rcases h3 with h3 | ⟨b, off, hA, hb, hc⟩
  · omega
  · exact ⟨b, off, hA, hb, h1, hc⟩
theorem Rd.max (h : Rd w B v sz n cs) : n ≤ maxLen := by obtain ⟨A, cap, _, _, h1, h2, _⟩ := h; omega
/-- what a call owns is read -/
theorem Rd.own {e : TypeId} {base : Nat} (h : w.ownsRow base e sz v n cs) : Rd w w.heap.size v sz n cs := by
  have h0 := h
  rcases h.2 with ⟨rfl, hn⟩ | ⟨g, cap, cur, rfl, hb, hg, h1, h2, h3, h4⟩
  · subst hn
    have hl := h.1
    rw [Nat.zero_mul] at hl
    obtain rfl := List.eq_nil_of_length_eq_zero hl
    exact Rd.nil w _ _
  · refine ⟨_, cap, rfl, h.1, h1, h2, .inr ⟨g, 0, rfl, (Array.getElem?_eq_some_iff.1 hg).1, fun j u hu => ?_⟩⟩
    have := World.ownsRow.cells h0 (g := g) rfl j u hu
    rw [Addr.add_lit] at this
    exact this
end

/-! ## rows of a call's own -/
section
variable {w w' : World} {e : TypeId} {base base' sz n : Nat} {v : Value} {cs : List Value}
theorem own_all (h : w.ownsRow base e sz v n cs) (hb : Below w.heap.size w w') : w'.ownsRow base e sz v n cs :=
  World.ownsRow.kept h (row := none) ⟨hb.os, hb.tape, hb.output, hb.size, fun k hk _ => hb.block k hk⟩ (by cases v.ownBlock <;> simp)
theorem own_mono (h : w.ownsRow base e sz v n cs) (hb : base' ≤ base) : w.ownsRow base' e sz v n cs := by
  refine ⟨h.1, ?_⟩
  rcases h.2 with h2 | ⟨g, cap, cur, hv, hg, r⟩
  · exact .inl h2
  · exact .inr ⟨g, cap, cur, hv, by omega, r⟩
theorem own_form (h : w.ownsRow base e sz v n cs) : ∃ A cap, v = .slice A n cap := by
  rcases h.2 with ⟨rfl, rfl⟩ | ⟨g, cap, cur, rfl, _⟩
  · exact ⟨none, 0, rfl⟩
  · exact ⟨_, cap, rfl⟩
end

/-- the literal of a slice -/
theorem Rd.lit (w : World) (e : TypeId) (sz n : Nat) (cs : Array Value) (fr : Nat × Nat) (hn : cs.size = n * sz) (hm : n ≤ 1000000000000) :
    Rd (w.alloc (.cells cs e fr)) (w.heap.size + 1) (.slice (some ⟨w.heap.size, 0, none⟩) n n) sz n cs.toList := by
  refine ⟨_, _, rfl, by simpa using hn, Nat.le_refl _, by unfold maxLen; omega, .inr ⟨w.heap.size, 0, rfl, by omega, fun j u hu => ?_⟩⟩
  rw [cell_of_row (w.alloc (.cells cs e fr)) w.heap.size _ cs e fr (heap_alloc_new w _), ← Array.getElem?_toList, Nat.zero_add]
  exact hu

/-- block facts of a call that made memory: old cells and marks read as before -/
theorem bcell {W w1 : World} {B : Nat} (hb : Below B W w1) : (∀ b o, b < B → w1.cell? ⟨b, o, none⟩ = W.cell? ⟨b, o, none⟩) ∧ (∀ b o, b < B → w1.frozen? ⟨b, o, none⟩ = W.frozen? ⟨b, o, none⟩) :=
  ⟨fun b o h => hb.cell (p := ⟨b, o, none⟩) h, fun b o h => hb.frozen (p := ⟨b, o, none⟩) h⟩

/-! ## texts in order -/
def ltS (a b : ByteArray) : Bool := Op.bytesLess a.toList b.toList
theorem ba_toList (s : ByteArray) : s.toList = s.data.toList := ByteArray.toList_eq s
theorem bl_eq : ∀ (x y : List UInt8), Op.bytesLess x y = decide (x < y)
  | [], [] => by simp [Op.bytesLess]
  | _ :: _, [] => by simp [Op.bytesLess]
  | [], _ :: _ => by simp [Op.bytesLess]
  | a :: x, b :: y => by
    rw [Op.bytesLess, bl_eq x y]
    simp only [List.cons_lt_cons_iff]
    by_cases h1 : a < b <;> by_cases h2 : a = b <;> by_cases h3 : x < y <;> simp [h1, h2, h3]
theorem toList_inj {a b : ByteArray} (h : a.toList = b.toList) : a = b := by
  rw [ba_toList, ba_toList] at h
  cases a; cases b; congr 1
  exact Array.toList_inj.1 h
theorem ltS_iff (a b : ByteArray) : ltS a b = true ↔ a.data.toList < b.data.toList := by unfold ltS; rw [bl_eq, ba_toList, ba_toList]; simp
theorem ltS_irr (a : ByteArray) : ltS a a = false := by
  rw [← Bool.not_eq_true, ltS_iff]; exact List.lt_irrefl _
theorem ltS_trans {a b c : ByteArray} (h : ltS a b = true) (k : ltS b c = true) : ltS a c = true := by
  rw [ltS_iff] at *; exact List.lt_trans h k
theorem ltS_asymm {a b : ByteArray} (h : ltS a b = true) : ltS b a = false := by
  rw [← Bool.not_eq_true]; intro k
  have := ltS_trans h k; rw [ltS_irr] at this; cases this
theorem ltS_tri {a b : ByteArray} (h : ltS a b = false) (k : ltS b a = false) : a = b := by
  rw [← Bool.not_eq_true, ltS_iff] at *
  apply toList_inj
  rw [ba_toList, ba_toList]
  exact List.le_antisymm (List.not_lt.1 k) (List.not_lt.1 h)
theorem eqS_iff (a b : ByteArray) : (a.toList == b.toList) = true ↔ a = b := by
  constructor
  · intro h; exact toList_inj (by simpa using h)
  · rintro rfl; simp
theorem neS_iff (a b : ByteArray) : (a.toList == b.toList) = false ↔ a ≠ b := by
  rw [← Bool.not_eq_true, eqS_iff]
end Go.Proofs.YtkbileabkfccgaaGreatDoor

/- expr: expressions as trees, and how they lie in memory. Of no program. -/
namespace Go.Proofs.YtkbileabkfccgaaGreatDoor
open Go.RowKit

/-- an expression: its kind, name, least and most times, kids -/
inductive Ex where
  | mk (k : Int) (n : ByteArray) (a b : Int) (l : List Ex)
namespace Ex
def k : Ex → Int | .mk k _ _ _ _ => k
def n : Ex → ByteArray | .mk _ n _ _ _ => n
def a : Ex → Int | .mk _ _ a _ _ => a
def b : Ex → Int | .mk _ _ _ b _ => b
def l : Ex → List Ex | .mk _ _ _ _ l => l
theorem ind {P : Ex → Prop} (h : ∀ k n a b l, (∀ e ∈ l, P e) → P (.mk k n a b l)) (e : Ex) : P e :=
  Ex.rec (motive_1 := P) (motive_2 := fun l => ∀ e ∈ l, P e) (fun k n a b l ih => h k n a b l ih) (by simp)
    (fun e l h1 h2 x hx => (List.mem_cons.1 hx).elim (fun h => by rw [h]; exact h1) (h2 x)) e
end Ex

/-- the value of an expression whose kids lie in slice s -/
def exV (e : Ex) (s : Value) : Value := .agg #[.int .i64 e.k, .string e.n, .int .i64 e.a, .int .i64 e.b, s]
/-- its cells -/
def exC (e : Ex) (s : Value) : List Value := [.int .i64 e.k, .string e.n, .int .i64 e.a, .int .i64 e.b, s]
def exCs : List Ex → List Value → List Value
  | e :: l, s :: ss => exC e s ++ exCs l ss
  | _, _ => []
theorem exCs_len : ∀ (l : List Ex) (ss : List Value), ss.length = l.length → (exCs l ss).length = l.length * 5
  | [], [], _ => rfl
  | e :: l, s :: ss, h => by
    have := exCs_len l ss (by simpa using h)
    simp only [exCs, exC, List.length_append, List.length_cons, List.length_nil, this]; omega
  | [], _ :: _, h => by simp at h
  | _ :: _, [], h => by simp at h
theorem exCs_app : ∀ (l : List Ex) (ss : List Value) (m : List Ex) (tt : List Value), ss.length = l.length → exCs (l ++ m) (ss ++ tt) = exCs l ss ++ exCs m tt
  | [], [], _, _, _ => rfl
  | e :: l, s :: ss, m, tt, h => by simp only [List.cons_append, exCs, exCs_app l ss m tt (by simpa using h), List.append_assoc]
  | [], _ :: _, _, _, h => by simp at h
  | _ :: _, [], _, _, h => by simp at h
theorem exCs_get : ∀ (l : List Ex) (ss : List Value) (h : ss.length = l.length) (i : Nat) (hi : i < l.length) (j : Nat), j < 5 →
    (exCs l ss)[i * 5 + j]? = (exC l[i] (ss[i]'(by omega)))[j]?
  | e :: l, s :: ss, h, 0, _, j, hj => by
    simp only [exCs, Nat.zero_mul, Nat.zero_add, List.getElem_cons_zero]
    rw [List.getElem?_append_left (by simp [exC]; omega)]
  | e :: l, s :: ss, h, i + 1, hi, j, hj => by
    simp only [exCs, List.getElem_cons_succ]
    rw [show (i + 1) * 5 + j = 5 + (i * 5 + j) by omega, List.getElem?_append_right (by simp [exC]), show 5 + (i * 5 + j) - (exC e s).length = i * 5 + j by simp [exC]]
    exact exCs_get l ss (by simpa using h) i (by simpa using hi) j hj
  | [], [], _, _, hi, _, _ => by simp at hi
  | [], _ :: _, h, _, _, _, _ => by simp at h
  | _ :: _, [], h, _, _, _, _ => by simp at h
theorem exCs_one : ∀ (l : List Ex) (ss : List Value), (∀ s ∈ ss, s.oneCell' = true) → ∀ u ∈ exCs l ss, u.oneCell' = true
  | [], _, _, u, hu => by simp [exCs] at hu
  | _ :: _, [], _, u, hu => by simp [exCs] at hu
  | e :: l, s :: ss, h, u, hu => by
    simp only [exCs, exC, List.mem_append, List.mem_cons, List.not_mem_nil, or_false] at hu
    rcases hu with (rfl | rfl | rfl | rfl | rfl) | hu
    · rfl
    · rfl
    · rfl
    · rfl
    · exact h _ (by simp)
    · exact exCs_one l ss (fun s hs => h s (by simp [hs])) u hu

/-- the slice v has n elements of sz cells each, the cells cs; they lie in blocks of S -/
def RdS (w : World) (S : Nat → Prop) (v : Value) (sz n : Nat) (cs : List Value) : Prop :=
  ∃ A cap, v = .slice A n cap ∧ cs.length = n * sz ∧ n ≤ cap ∧ cap ≤ maxLen ∧
    (n = 0 ∨ ∃ b off, A = some ⟨b, off, none⟩ ∧ S b ∧ ∀ j u, cs[j]? = some u → w.cell? ⟨b, off + j, none⟩ = some u)
section
variable {w w' : World} {S S' : Nat → Prop} {v : Value} {sz n : Nat} {cs : List Value}
theorem RdS.keep (h : RdS w S v sz n cs) (hk : ∀ b o, S b → w'.cell? ⟨b, o, none⟩ = w.cell? ⟨b, o, none⟩) : RdS w' S v sz n cs := by
  obtain ⟨A, cap, rfl, h0, h1, h2, h3⟩ := h
  refine ⟨A, cap, rfl, h0, h1, h2, h3.imp id ?_⟩
  rintro ⟨b, off, hA, hb, hc⟩
  exact ⟨b, off, hA, hb, fun j u hu => (hk _ _ hb).trans (hc j u hu)⟩
theorem RdS.mono (h : RdS w S v sz n cs) (hs : ∀ b, S b → S' b) : RdS w S' v sz n cs := by
  obtain ⟨A, cap, rfl, h0, h1, h2, h3⟩ := h
  refine ⟨A, cap, rfl, h0, h1, h2, h3.imp id ?_⟩
  rintro ⟨b, off, hA, hb, hc⟩
  exact ⟨b, off, hA, hs _ hb, hc⟩
theorem RdS.inb (h : RdS w S v sz n cs) (hsz : 0 < sz) : RdS w (fun b => S b ∧ b < w.heap.size) v sz n cs := by
  obtain ⟨A, cap, rfl, h0, h1, h2, h3⟩ := h
  refine ⟨A, cap, rfl, h0, h1, h2, ?_⟩
  by_cases hn : n = 0
  · exact .inl hn
  · rcases h3 with h3 | ⟨b, off, hA, hb, hc⟩
    · exact absurd h3 hn
    · have hpos : 0 < n * sz := Nat.mul_pos (by omega) hsz
      have hg := hc 0 _ (List.getElem?_eq_getElem (by omega))
      have hlt := World.block_lt_of_cell? w _ hg
      exact .inr ⟨b, off, hA, ⟨hb, hlt⟩, hc⟩
theorem RdS.rd {B : Nat} (h : RdS w S v sz n cs) (hs : ∀ b, S b → b < B) : Rd w B v sz n cs := by
  obtain ⟨A, cap, rfl, h0, h1, h2, h3⟩ := h
  refine ⟨A, cap, rfl, h0, h1, h2, h3.imp id ?_⟩
  rintro ⟨b, off, hA, hb, hc⟩
  exact ⟨b, off, hA, hs _ hb, hc⟩
theorem RdS.of {B : Nat} (h : Rd w B v sz n cs) : RdS w (fun b => b < B) v sz n cs := h
theorem RdS.form (h : RdS w S v sz n cs) : ∃ A cap, v = .slice A n cap := by obtain ⟨A, cap, h, _⟩ := h; exact ⟨A, cap, h⟩
theorem RdS.nil (w : World) (S : Nat → Prop) (sz : Nat) : RdS w S (.slice none 0 0) sz 0 [] := ⟨none, 0, rfl, by simp, Nat.le_refl _, by unfold maxLen; omega, .inl rfl⟩
theorem RdS.max (h : RdS w S v sz n cs) : n ≤ maxLen := by obtain ⟨A, cap, _, _, h1, h2, _⟩ := h; omega
theorem RdS.one (h : RdS w S v sz n cs) : v.oneCell' = true := by obtain ⟨A, cap, rfl, _⟩ := h; rfl
/-- what a call owns is read, in the block that it owns -/
theorem RdS.own {e : TypeId} {base : Nat} (h : w.ownsRow base e sz v n cs) : RdS w (fun b => v.ownBlock = some b) v sz n cs := by
  have h0 := h
  rcases h.2 with ⟨rfl, hn⟩ | ⟨g, cap, cur, rfl, hb, hg, h1, h2, h3, h4⟩
  · subst hn
    have hl := h.1
    rw [Nat.zero_mul] at hl
    obtain rfl := List.eq_nil_of_length_eq_zero hl
    exact RdS.nil w _ _
  · refine ⟨_, cap, rfl, h.1, h1, h2, .inr ⟨g, 0, rfl, rfl, fun j u hu => ?_⟩⟩
    have := World.ownsRow.cells h0 (g := g) rfl j u hu
    rw [Addr.add_lit] at this
    exact this
end

/-- slice s has the kids l, wholly in blocks of S -/
inductive Kd (w : World) (S : Nat → Prop) : Value → List Ex → Prop
  | mk (l : List Ex) (s : Value) (ss : List Value) (h : ss.length = l.length) : RdS w S s 5 l.length (exCs l ss) →
      (∀ i (hi : i < l.length), Kd w S (ss[i]'(by omega)) l[i].l) → Kd w S s l
section
variable {w w' : World} {S S' : Nat → Prop} {s : Value} {l : List Ex}
theorem Kd.keep (h : Kd w S s l) (hk : ∀ b o, S b → w'.cell? ⟨b, o, none⟩ = w.cell? ⟨b, o, none⟩) : Kd w' S s l := by
  induction h with
  | mk l s ss hl hr _ ih => exact .mk l s ss hl (hr.keep hk) ih
theorem Kd.mono (h : Kd w S s l) (hs : ∀ b, S b → S' b) : Kd w S' s l := by
  induction h with
  | mk l s ss hl hr _ ih => exact .mk l s ss hl (hr.mono hs) ih
theorem Kd.inb (h : Kd w S s l) : Kd w (fun b => S b ∧ b < w.heap.size) s l := by
  induction h with
  | mk l s ss hl hr _ ih => exact .mk l s ss hl (hr.inb (by omega)) ih
theorem Kd.form (h : Kd w S s l) : ∃ A cap, s = .slice A l.length cap := by cases h with | mk _ _ ss hl hr _ => exact hr.form
theorem Kd.max (h : Kd w S s l) : l.length ≤ maxLen := by cases h with | mk _ _ ss hl hr _ => exact hr.max
theorem Kd.one (h : Kd w S s l) : s.oneCell' = true := by cases h with | mk _ _ ss hl hr _ => exact hr.one
theorem Kd.nil (w : World) (S : Nat → Prop) : Kd w S (.slice none 0 0) [] := .mk [] _ [] rfl (RdS.nil w S 5) fun i hi => by simp at hi
theorem Kd.at {A : Option Addr} {cap i : Nat} (h : Kd w S (.slice A l.length cap) l) (hi : i < l.length) :
    ∃ b off s, A = some ⟨b, off, none⟩ ∧ S b ∧ l.length ≤ cap ∧ Kd w S s l[i].l ∧ w.cell? ⟨b, off + i * 5, none⟩ = some (.int .i64 l[i].k) ∧ w.cell? ⟨b, off + i * 5 + 1, none⟩ = some (.string l[i].n) ∧
      w.cell? ⟨b, off + i * 5 + 1 + 1, none⟩ = some (.int .i64 l[i].a) ∧ w.cell? ⟨b, off + i * 5 + 1 + 1 + 1, none⟩ = some (.int .i64 l[i].b) ∧ w.cell? ⟨b, off + i * 5 + 1 + 1 + 1 + 1, none⟩ = some s := by
  cases h with
  | mk _ _ ss hl hr hk =>
    obtain ⟨A', cap', hv, _, h1, _, h3⟩ := hr
    simp only [Value.slice.injEq, true_and] at hv
    obtain ⟨rfl, rfl⟩ := hv
    rcases h3 with h3 | ⟨b, off, hA, hb, hc⟩
    · omega
    · have hg := fun j hj => exCs_get l ss hl i hi j hj
      refine ⟨b, off, ss[i]'(by omega), hA, hb, h1, hk i hi, ?_, ?_, ?_, ?_, ?_⟩
      · exact hc _ _ (by simpa [exC] using hg 0 (by omega))
      · exact hc _ _ (by simpa [exC] using hg 1 (by omega))
      · exact hc _ _ (by simpa [exC] using hg 2 (by omega))
      · exact hc _ _ (by simpa [exC] using hg 3 (by omega))
      · exact hc _ _ (by simpa [exC] using hg 4 (by omega))
end
/-- slice s has the kids l, below block B -/
abbrev Kb (w : World) (B : Nat) (s : Value) (l : List Ex) : Prop := Kd w (fun b => b < B) s l
section
variable {w w' : World} {S : Nat → Prop} {B B' : Nat} {s : Value} {l : List Ex}
theorem Kd.kb (h : Kd w S s l) : Kb w w.heap.size s l := h.inb.mono fun _ h => h.2
theorem Kb.below (h : Kb w B s l) (hb : Below B w w') : Kb w' B s l := h.keep fun b o hl => hb.cell (p := ⟨b, o, none⟩) hl
theorem Kb.bmono (h : Kb w B s l) (hB : B ≤ B') : Kb w B' s l := h.mono fun b hb => by omega
theorem Kb.alloc (h : Kb w B s l) (hB : B ≤ w.heap.size) (o : Obj) : Kb (w.alloc o) B s l := Kb.below h ((Below.refl _ _).alloc hB _)
theorem Kd.drew (h : Kd w S s l) : Kd w.drew S s l := h.keep fun _ _ _ => rfl
theorem Kd.drewN (h : Kd w S s l) (k : Nat) : Kd (w.drewN k) S s l := h.keep fun _ _ _ => rfl
end

/-! ## what is asked of expressions -/
def deepN : Nat → Ex → Bool
  | 0, _ => true
  | n + 1, e => e.l.any (deepN n)
mutual
def Ex.anyE (p : Ex → Bool) : Ex → Bool
  | .mk k n a b l => p (.mk k n a b l) || Ex.anyL p l
def Ex.anyL (p : Ex → Bool) : List Ex → Bool
  | [] => false
  | e :: l => Ex.anyE p e || Ex.anyL p l
end
theorem anyL_eq (p : Ex → Bool) : ∀ l : List Ex, Ex.anyL p l = l.any (Ex.anyE p)
  | [] => rfl
  | e :: l => by rw [Ex.anyL, List.any_cons, anyL_eq p l]
theorem anyE_eq (p : Ex → Bool) (e : Ex) : e.anyE p = (p e || e.l.any (Ex.anyE p)) := by
  cases e; rw [Ex.anyE, anyL_eq]; rfl
def exMost : Int := 1073741824
mutual
def Ex.sizeE : Ex → Int
  | .mk k _ a b l => if k = 1 then 1 else if k ≠ 4 then Ex.sizeL 0 l else if b = -1 then min (Ex.sizeL 0 l * (a + 1)) exMost else min (Ex.sizeL 0 l * b) exMost
def Ex.sizeL (s : Int) : List Ex → Int
  | [] => s
  | e :: l => Ex.sizeL (min (s + Ex.sizeE e) exMost) l
end
def wildB (e : Ex) : Bool := decide (min e.a e.b < -1) || decide (1048576 < max e.a e.b)
def sizeN (e : Ex) : Int := if deepN 64 e || e.anyE wildB then exMost else e.sizeE
def longE (e : Ex) : Bool := decide (16 < e.n.size) || decide (16 < e.a) || decide (16 < e.b)
def isB (c : Int) (e : Ex) : Bool := decide (e.k = c)
def nilB (e : Ex) : Bool := isB 2 e && decide (e.l.length = 0)
def noChB (e : Ex) : Bool := isB 3 e || nilB e
def bareB (e : Ex) : Bool := decide (e.a = 0) && decide (e.b = 0)
def timesB (a b : Int) : Bool := !(decide (a < 0) || (decide (a = 1) && decide (b = 1))) && (decide (b = -1) || decide (max a 1 ≤ b))
def sameN : Nat → Ex → Ex → Bool
  | 0, _, _ => false
  | n + 1, x, y => decide (x.k = y.k) && decide (x.n = y.n) && decide (x.a = y.a) && decide (x.b = y.b) && decide (x.l.length = y.l.length) && (x.l.zip y.l).all fun p => sameN n p.1 p.2
end Go.Proofs.YtkbileabkfccgaaGreatDoor

/- Words of our own on memory: slices of bytes that are read (Bs) and that are a call's own (Ow); a step of the walk for each append. Of no program. -/
namespace Go.Proofs.YtkbileabkfccgaaGreatDoor
open Go.RowKit

/-! ## bytes as cells -/
def cellsB (l : List UInt8) : List Value := l.map fun b => Value.int .u8 (b.toNat : Int)
theorem cellsB_len (l : List UInt8) : (cellsB l).length = l.length := by simp [cellsB]
theorem cellsB_app (l m : List UInt8) : cellsB (l ++ m) = cellsB l ++ cellsB m := by simp [cellsB]
theorem cellsB_one (l : List UInt8) : ∀ u ∈ cellsB l, u.oneCell' = true := by
  intro u hu; simp only [cellsB, List.mem_map] at hu; obtain ⟨b, _, rfl⟩ := hu; rfl
theorem cellsB_get (l : List UInt8) (j : Nat) (hj : j < l.length) : (cellsB l)[j]? = some (.int .u8 ((l.getD j 0).toNat : Int)) := by
  simp [cellsB, hj, List.getD]
theorem cellsB_str (s : ByteArray) : cellsB s.data.toList = Lib.strCells s := rfl

/-- the slice v holds the bytes l, in block b -/
def Bs (w : World) (b : Nat) (v : Value) (l : List UInt8) : Prop :=
  ∃ A cap, v = .slice A l.length cap ∧ l.length ≤ cap ∧ cap ≤ maxLen ∧
    (l = [] ∨ ∃ off, A = some ⟨b, off, none⟩ ∧ b < w.heap.size ∧ ∀ j u, (cellsB l)[j]? = some u → w.cell? ⟨b, off + j, none⟩ = some u)

/-- the slice v is the call's own, from block base on, and holds the bytes l -/
def Ow (w : World) (e : TypeId) (base : Nat) (v : Value) (l : List UInt8) : Prop := w.ownsRow base e 1 v l.length (cellsB l)

theorem Bs.keep {w w' : World} {b : Nat} {v : Value} {l : List UInt8} (h : Bs w b v l) (hs : w.heap.size ≤ w'.heap.size) (hk : b < w.heap.size → w'.heap[b]? = w.heap[b]?) : Bs w' b v l := by
  obtain ⟨A, cap, rfl, h1, h2, h3⟩ := h
  refine ⟨A, cap, rfl, h1, h2, ?_⟩
  rcases h3 with h3 | ⟨off, hA, hb, hc⟩
  · exact .inl h3
  · exact .inr ⟨off, hA, by omega, fun j u hu => (World.cell?_of_block (w := w) (a := ⟨b, off + j, none⟩) (hk hb)).trans (hc j u hu)⟩
theorem Bs.below {w w' : World} {B b : Nat} {v : Value} {l : List UInt8} (h : Bs w b v l) (hb : Below B w w') (hl : b < w.heap.size → b < B) : Bs w' b v l :=
  h.keep hb.size fun hs => hb.block b (hl hs)
theorem Bs.all {w w' : World} {b : Nat} {v : Value} {l : List UInt8} (h : Bs w b v l) (hb : Below w.heap.size w w') : Bs w' b v l := h.below hb fun h => h
theorem Bs.alloc {w : World} {b : Nat} {v : Value} {l : List UInt8} (h : Bs w b v l) (o : Obj) : Bs (w.alloc o) b v l :=
  h.all ((Below.refl _ _).alloc (Nat.le_refl _) _)
theorem Bs.drew {w : World} {b : Nat} {v : Value} {l : List UInt8} (h : Bs w b v l) : Bs w.drew b v l := h
theorem Bs.drewN {w : World} {b : Nat} {v : Value} {l : List UInt8} (h : Bs w b v l) (n : Nat) : Bs (w.drewN n) b v l := h
theorem Bs.grown {w w' : World} {b : Nat} {v : Value} {l : List UInt8} {row : Option Nat} (h : Bs w b v l) (hg : w.grownBy w' row) (hr : some b ≠ row ∨ l = []) : Bs w' b v l := by
  rcases hr with hr | rfl
  · exact h.keep hg.size fun hs => hg.block b hs hr
  · obtain ⟨A, cap, rfl, h1, h2, _⟩ := h
    exact ⟨A, cap, rfl, h1, h2, .inl rfl⟩
theorem Bs.empty {w : World} {b : Nat} {v : Value} (h : Bs w b v []) (b' : Nat) : Bs w b' v [] := by
  obtain ⟨A, cap, rfl, h1, h2, _⟩ := h
  exact ⟨A, cap, rfl, h1, h2, .inl rfl⟩
theorem Bs.lt {w : World} {b : Nat} {v : Value} {l : List UInt8} (h : Bs w b v l) : l = [] ∨ b < w.heap.size := by
  obtain ⟨A, cap, rfl, h1, h2, h3⟩ := h
  rcases h3 with h3 | ⟨_, _, h3, _⟩
  · exact .inl h3
  · exact .inr h3
theorem Bs.nil (w : World) (b : Nat) : Bs w b (.slice none 0 0) [] := ⟨none, 0, rfl, Nat.le_refl _, by unfold maxLen; omega, .inl rfl⟩

/-- an own slice is read: in the block that it owns, whichever it is -/
theorem Ow.bs {w : World} {e : TypeId} {base : Nat} {v : Value} {l : List UInt8} (h : Ow w e base v l) : ∃ b, Bs w b v l ∧ base ≤ b ∧ (v.ownBlock = none ∨ v.ownBlock = some b) := by
  have h0 := h
  rcases h.2 with ⟨rfl, hn⟩ | ⟨g, cap, cur, rfl, hb, hg, h1, h2, h3, h4⟩
  · have : l = [] := List.eq_nil_of_length_eq_zero hn
    subst this
    exact ⟨base, Bs.nil w _, Nat.le_refl _, .inl rfl⟩
  · refine ⟨g, ⟨_, cap, rfl, h1, h2, .inr ⟨0, rfl, (Array.getElem?_eq_some_iff.1 hg).1, fun j u hu => ?_⟩⟩, hb, .inr rfl⟩
    have := World.ownsRow.cells h0 (g := g) rfl j u hu
    rw [Addr.add_lit] at this
    exact this
theorem Ow.nil (w : World) (e : TypeId) (base : Nat) : Ow w e base (.slice none 0 0) [] := World.ownsRow_nil w base e 1
theorem Ow.alloc {w : World} {e : TypeId} {base : Nat} {v : Value} {l : List UInt8} (h : Ow w e base v l) (o : Obj) : Ow (w.alloc o) e base v l := World.ownsRow.alloc h o
theorem Ow.kept {w w' : World} {e : TypeId} {base : Nat} {v : Value} {l : List UInt8} {row : Option Nat} (h : Ow w e base v l) (hg : w.grownBy w' row) (hne : v.ownBlock = none ∨ v.ownBlock ≠ row) : Ow w' e base v l := World.ownsRow.kept h hg hne
theorem Ow.all {w w' : World} {e : TypeId} {base : Nat} {v : Value} {l : List UInt8} (h : Ow w e base v l) (hb : Below w.heap.size w w') : Ow w' e base v l :=
  World.ownsRow.kept h (row := none) ⟨hb.os, hb.tape, hb.output, hb.size, fun k hk _ => hb.block k hk⟩ (by cases v.ownBlock <;> simp)
theorem Ow.mono {w : World} {e : TypeId} {base base' : Nat} {v : Value} {l : List UInt8} (h : Ow w e base v l) (hb : base' ≤ base) : Ow w e base' v l := by
  refine ⟨h.1, ?_⟩
  rcases h.2 with h2 | ⟨g, cap, cur, hv, hg, r⟩
  · exact .inl h2
  · exact .inr ⟨g, cap, cur, hv, by omega, r⟩
theorem Ow.lt {w : World} {e : TypeId} {base : Nat} {v : Value} {l : List UInt8} (h : Ow w e base v l) : ∀ k, v.ownBlock = some k → base ≤ k ∧ k < w.heap.size := World.ownsRow.lt h
theorem Ow.form {w : World} {e : TypeId} {base : Nat} {v : Value} {l : List UInt8} (h : Ow w e base v l) : ∃ A cap, v = .slice A l.length cap := by
  rcases h.2 with ⟨rfl, hn⟩ | ⟨g, cap, cur, rfl, _⟩
  · exact ⟨none, 0, by rw [hn]⟩
  · exact ⟨_, cap, rfl⟩

/-- block g is known whole: the cells cs of type t, none of them frozen -/
def Bk (w : World) (g : Nat) (t : TypeId) (cs : Array Value) : Prop := w.heap[g]? = some (.cells cs t (0, 0))
theorem Bk.lt {w : World} {g : Nat} {t : TypeId} {cs : Array Value} (h : Bk w g t cs) : g < w.heap.size := (Array.getElem?_eq_some_iff.1 h).1
theorem Bk.cell {w : World} {g : Nat} {t : TypeId} {cs : Array Value} (h : Bk w g t cs) (i : Nat) : w.cell? ⟨g, i, none⟩ = cs[i]? := cell_of_row w g i cs t (0, 0) h
theorem Bk.frozen {w : World} {g : Nat} {t : TypeId} {cs : Array Value} (h : Bk w g t cs) (i : Nat) : w.frozen? ⟨g, i, none⟩ = false := by
  unfold Bk at h; simp [World.frozen?, h]
theorem Bk.new (w : World) (t : TypeId) (cs : Array Value) : Bk (w.alloc (.cells cs t)) w.heap.size t cs := heap_alloc_new w _
theorem Bk.alloc {w : World} {g : Nat} {t : TypeId} {cs : Array Value} (h : Bk w g t cs) (o : Obj) : Bk (w.alloc o) g t cs := (Below.heap_alloc w o g h.lt).trans h
theorem Bk.drew {w : World} {g : Nat} {t : TypeId} {cs : Array Value} (h : Bk w g t cs) : Bk w.drew g t cs := h
theorem Bk.drewN {w : World} {g : Nat} {t : TypeId} {cs : Array Value} (h : Bk w g t cs) (n : Nat) : Bk (w.drewN n) g t cs := h
theorem Bk.set {w : World} {g : Nat} {t : TypeId} {cs : Array Value} (h : Bk w g t cs) (i : Nat) (u : Value) : Bk (w.setCell ⟨g, i, none⟩ u) g t (cs.setIfInBounds i u) := by
  unfold Bk at h ⊢
  simp [World.setCell, Array.getElem?_modify, h]
theorem Bk.far {w : World} {g : Nat} {t : TypeId} {cs : Array Value} (h : Bk w g t cs) {p : Addr} (hp : g ≠ p.block) (u : Value) : Bk (w.setCell p u) g t cs := (Below.heap_setCell w p u g hp).trans h
theorem Bk.below {w w' : World} {B g : Nat} {t : TypeId} {cs : Array Value} (h : Bk w g t cs) (hb : Below B w w') (hg : g < B) : Bk w' g t cs := (hb.block g hg).trans h
theorem Bk.all {w w' : World} {g : Nat} {t : TypeId} {cs : Array Value} (h : Bk w g t cs) (hb : Below w.heap.size w w') : Bk w' g t cs := (hb.block g h.lt).trans h
theorem Bk.grown {w w' : World} {g : Nat} {t : TypeId} {cs : Array Value} {row : Option Nat} (h : Bk w g t cs) (hb : w.grownBy w' row) (hg : some g ≠ row) : Bk w' g t cs := (hb.block g h.lt hg).trans h

/-- what is handed back is new, and holds l; what was there is as it was -/
def Makes (e : TypeId) (w : World) (l : List UInt8) (x : Ending) (w' : World) : Prop := ∃ v, x = .returned v ∧ Ow w' e w.heap.size v l ∧ Below w.heap.size w w'

/-! ## a literal of bytes -/
theorem Ow.lit (w : World) (e : TypeId) (base : Nat) (l : List UInt8) (cs : Array Value) (n : Nat) (hb : base ≤ w.heap.size) (hn : n = l.length) (hm : n ≤ 1000000000000) (hc : cs.toList = cellsB l) :
    Ow (w.alloc (.cells cs e)) e base (.slice (some ⟨w.heap.size, 0, none⟩) n n) l := by
  subst hn
  have h := World.ownsRow_lit (base := base) (e := e) (size := 1) w cs l.length hb (by unfold maxLen; omega) (by rw [← Array.length_toList, hc, cellsB_len]; omega)
  rw [hc] at h
  exact h

theorem Bs.lit (w : World) (e : TypeId) (l : List UInt8) (cs : Array Value) (n : Nat) (hn : n = l.length) (hm : n ≤ 1000000000000) (hc : cs.toList = cellsB l) :
    Bs (w.alloc (.cells cs e)) w.heap.size (.slice (some ⟨w.heap.size, 0, none⟩) n n) l := by
  subst hn
  refine ⟨_, _, rfl, Nat.le_refl _, by unfold maxLen; omega, .inr ⟨0, rfl, by simp, fun j u hu => ?_⟩⟩
  rw [World.cell?_alloc_at _ _ _ _ rfl, ← Array.getElem?_toList, hc, Nat.zero_add]
  exact hu
theorem Bs.litF (w : World) (e : TypeId) (l : List UInt8) (cs : Array Value) (fr : Nat × Nat) (n : Nat) (hn : n = l.length) (hm : n ≤ 1000000000000) (hc : cs.toList = cellsB l) :
    Bs (w.alloc (.cells cs e fr)) w.heap.size (.slice (some ⟨w.heap.size, 0, none⟩) n n) l := by
  subst hn
  refine ⟨_, _, rfl, Nat.le_refl _, by unfold maxLen; omega, .inr ⟨0, rfl, by simp, fun j u hu => ?_⟩⟩
  rw [cell_of_row (w.alloc (.cells cs e fr)) w.heap.size _ cs e fr (heap_alloc_new w _), ← Array.getElem?_toList, hc, Nat.zero_add]
  exact hu
theorem Bs.lit1 (w : World) (e : TypeId) (n : Int) (c : UInt8) (h : n = (c.toNat : Int)) : Bs (w.alloc (.cells #[.int .u8 n] e)) w.heap.size (.slice (some ⟨w.heap.size, 0, none⟩) 1 1) [c] :=
  Bs.lit w e [c] _ 1 rfl (by omega) (by simp [cellsB, h])

/-- l[s : s + n] of what is read, as the walk writes it -/
theorem Bs.cut {w : World} {b : Nat} {A : Option Addr} {cap : Nat} {l : List UInt8} (h : Bs w b (.slice A l.length cap) l) (s n : Nat) (hsn : s + n ≤ l.length) :
    Bs w b (.slice (A.map (fun x => x.add s)) n (cap - s)) ((l.drop s).take n) := by
  obtain ⟨A', cap', hv, h1, h2, h3⟩ := h
  simp only [Value.slice.injEq, true_and] at hv
  obtain ⟨rfl, rfl⟩ := hv
  have hlen : ((l.drop s).take n).length = n := by simp; omega
  refine ⟨_, cap - s, by rw [hlen], by omega, by omega, ?_⟩
  by_cases hn : n = 0
  · subst hn; exact .inl (by simp)
  · rcases h3 with rfl | ⟨off, rfl, hb, hc⟩
    · simp at hsn; omega
    · refine .inr ⟨off + s, by simp [Addr.add_lit], hb, fun j u hu => ?_⟩
      have hj : j < n := by
        have := (List.getElem?_eq_some_iff.1 hu).1
        rw [cellsB_len, hlen] at this; exact this
      rw [Nat.add_assoc]
      apply hc
      rw [← hu]
      simp [cellsB, List.getElem?_drop, hj]
theorem Bs.short {w : World} {b : Nat} {A : Option Addr} {cap : Nat} {l : List UInt8} (h : Bs w b (.slice A l.length cap) l) (n : Nat) (hn : n ≤ l.length) :
    l.length ≤ cap ∧ Bs w b (.slice A n cap) (l.take n) := by
  obtain ⟨A', cap', hv, h1, h2, h3⟩ := h
  simp only [Value.slice.injEq, true_and] at hv
  obtain ⟨rfl, rfl⟩ := hv
  have hlen : (l.take n).length = n := by simp; omega
  refine ⟨h1, A, cap, by rw [hlen], by omega, h2, ?_⟩
  rcases h3 with rfl | ⟨off, rfl, hb, hc⟩
  · exact .inl (by simp)
  · refine .inr ⟨off, rfl, hb, fun j u hu => hc j u ?_⟩
    have hj : j < n := by
      have := (List.getElem?_eq_some_iff.1 hu).1
      rw [cellsB_len, hlen] at this; exact this
    rw [← hu]
    simp [cellsB, hj]
theorem Bs.cut0 {w : World} {b : Nat} {A : Option Addr} {cap : Nat} {l : List UInt8} (h : Bs w b (.slice A l.length cap) l) (s n : Nat) (hsn : s + n ≤ l.length) (hcs : cap = s) :
    Bs w b (.slice A n 0) ((l.drop s).take n) := by
  obtain ⟨A', cap', hv, h1, h2, h3⟩ := h
  simp only [Value.slice.injEq, true_and] at hv
  obtain ⟨rfl, rfl⟩ := hv
  have hn : n = 0 := by omega
  subst hn
  exact ⟨A, 0, by simp, by simp, by unfold maxLen; omega, .inl (by simp)⟩

/-! ## append -/
section
variable {P : Program} (w : World) {ops : Array Oper} {rest : List Oper} {o : Oper} {a : Act} {Q : Exit → Act → World → Prop}

theorem run_app_none (base : Nat) (t ty e : TypeId) (i : TypeInfo) (size : Nat) (ht : P.underlying t = some (.slice e)) (hi : P.info? e = some i)
    (v : Value) (n : Nat) (xs : List Value) (hown : w.ownsRow base e size v n xs) (c : Nat) : (Builtin.append_ #[t, t] ty #[v, .slice none 0 c]).run P w = .ok v w := by
  rcases hown.2 with ⟨rfl, rfl⟩ | ⟨g, cap, cur, rfl, _, _, hnc, _⟩
  · simp [Builtin.append_, run_underlying ht, sizeOf, typeInfo, hi, Builtin.lenOf, Builtin.firstCells]
  · simp [Builtin.append_, run_underlying ht, sizeOf, typeInfo, hi, Builtin.lenOf, Builtin.firstCells, hnc, storeCells]

/-- append onto a slice of the call's own; what is appended is read, nil or not -/
theorem wpList_app (hgd : o.guard = none) (s x : Operand) (t e : TypeId) (ho : o.op = .call { callee := .builtin .append, args := #[s, x], argTypes := #[t, t] })
    (ht : P.underlying t = some (.slice e)) (hi : (P.info? e).map (fun i => (i.zero, i.size, i.bytes)) = some (some (.int .u8 0), 1, 1))
    (base : Nat) {v v2 : Value} {l l2 : List UInt8} {b2 : Nat} (hs : a.eval s = v) (hx : a.eval x = v2) (hown : Ow w e base v l) (hr : Bs w b2 v2 l2)
    (hsum : l.length + l2.length ≤ 1000000000000) (hbase : base ≤ w.heap.size)
    (h : ∀ v' w', Ow w' e base v' (l ++ l2) → w.grownBy w' v.ownBlock → (v'.ownBlock = v.ownBlock ∨ v'.ownBlock = some w.heap.size) → wpList P ops Q rest (a.put o.dst v') w') :
    wpList P ops Q (o :: rest) a w := by
  obtain ⟨i, hi0, hz, h1, h2⟩ := info_parts hi
  obtain ⟨A, cap, rfl, hc, hm, hcells⟩ := hr
  have hl : (cellsB l2).length = l2.length * 1 := by rw [cellsB_len]; omega
  cases A with
  | none =>
    have hl2 : l2 = [] := by
      rcases hcells with h | ⟨_, h, _⟩
      · exact h
      · cases h
    subst hl2
    refine wpList_plain hgd fun K hK' => ?_
    have hrun := run_app_none (P := P) w base t o.type e i 1 ht hi0 v l.length (cellsB l) hown cap
    unfold Oper.wp
    simp [execOp, ho, resolve, invoke, builtin, hs, hx, hrun, Result.andThen]
    exact hK' _ _ (h v w (by simpa using hown) (World.grownBy.refl w _) (.inl rfl))
  | some ad =>
    have hcell : ∀ j u, (cellsB l2)[j]? = some u → w.cell? (ad.add j) = some u := by
      intro j u hu
      rcases hcells with rfl | ⟨off, hA, _, hc'⟩
      · simp [cellsB] at hu
      · cases hA
        rw [Addr.add_lit]
        exact hc' j u hu
    refine wpList_append_own_at w hgd s x t ho base e i (.int .u8 0) 1 1 ht hi0 hz h1 h2 rfl (by decide) v l.length (cellsB l) hs hown ad l2.length cap (cellsB l2) hx hl hcell (cellsB_one l2) (by unfold maxLen; omega) (by omega) hbase ?_
    intro v' w' ho' hg' _ hb'
    refine h v' w' ?_ hg' hb'
    unfold Ow
    rw [cellsB_app, List.length_append]
    exact ho'

/-- append of a string's bytes -/
theorem wpList_app_str (hgd : o.guard = none) (s x : Operand) (t u e : TypeId) (ho : o.op = .call { callee := .builtin .append, args := #[s, x], argTypes := #[t, u] })
    (ht : P.underlying t = some (.slice e)) (hu : P.underlying u = some .string) (hi : (P.info? e).map (fun i => (i.zero, i.size, i.bytes)) = some (some (.int .u8 0), 1, 1))
    (base : Nat) {v : Value} {l : List UInt8} {p : ByteArray} (hs : a.eval s = v) (hx : a.eval x = .string p) (hown : Ow w e base v l)
    (hsum : l.length + p.size ≤ 1000000000000) (hbase : base ≤ w.heap.size)
    (h : ∀ v' w', Ow w' e base v' (l ++ p.data.toList) → w.grownBy w' v.ownBlock → wpList P ops Q rest (a.put o.dst v') w') :
    wpList P ops Q (o :: rest) a w := by
  obtain ⟨i, hi0, hz, h1, h2⟩ := info_parts hi
  refine Lib.wpList_append_own_string w hgd s x t u ho base e i ht hu hi0 hz h1 h2 v l.length (cellsB l) hs hown p hx (by unfold maxLen; omega) (by omega) hbase ?_
  intro v' w' ho' hg' _
  refine h v' w' ?_ hg'
  unfold Ow
  have e1 : p.data.toList.length = p.size := by rw [Array.length_toList]; rfl
  rw [cellsB_app, List.length_append, e1]
  exact ho'

/-- string(b) -/
theorem run_str (src dst e : TypeId) (hs : P.underlying src = some (.slice e)) (he : P.underlying e = some (.int .u8)) (hd : P.underlying dst = some .string)
    {b : Nat} {v : Value} {l : List UInt8} (hv : Bs w b v l) : (convert src dst v).run P w = .ok (.string ⟨l.toArray⟩) w := by
  obtain ⟨A, cap, rfl, hc, hm, hcells⟩ := hv
  cases A with
  | none =>
    have hl2 : l = [] := by
      rcases hcells with h | ⟨_, h, _⟩
      · exact h
      · cases h
    subst hl2
    exact run_convert_bytes_nil w src e hs he _ cap dst hd
  | some ad =>
    by_cases hl : l = []
    · subst hl
      rw [run_convert_bytes_string w src dst e _ _ _ hs he hd, run_bytesToString w ad ([] : List UInt8).length cap [] (by simp [loadCells, loadCellsFrom])]
      rfl
    · rcases hcells with h | ⟨off, hA, _, hc'⟩
      · exact absurd h hl
      · cases hA
        rw [run_convert_bytes_arg (P := P) w src e hs he b off l.length cap (l.map fun c => (c.toNat : Int)) (by simp) (fun i hi => by
          have := hc' i _ (cellsB_get l i hi)
          rw [this]
          simp [List.getD, hi]) dst hd]
        congr 2
        unfold strOfNums
        congr 1
        rw [List.map_map]
        have e1 : ((fun n : Int => UInt8.ofNat n.toNat) ∘ fun c : UInt8 => (c.toNat : Int)) = id := by funext c; simp
        rw [e1, List.map_id]
end
end Go.Proofs.YtkbileabkfccgaaGreatDoor

/- attr: names (the program's own). -/
namespace Go.Proofs.YtkbileabkfccgaaGreatDoor
open Go.RowKit

def inC (lo hi c : UInt8) : Bool := decide (lo ≤ c) && decide (c ≤ hi)
def inB (lo hi : UInt8) (l : List UInt8) : Bool := l.all (inC lo hi)
def nameB (s : ByteArray) : Bool := decide (1 ≤ s.size) && decide (s.size ≤ 16) && inB 97 122 s.data.toList

theorem ba_len (s : ByteArray) : s.data.toList.length = s.size := by rw [Array.length_toList]; rfl
theorem ba_getD (s : ByteArray) (k : Nat) (hk : k < s.data.toList.length) : s.data.toList.getD k 0 = s.data.toList[k] := by unfold List.getD; rw [List.getElem?_eq_getElem hk]; rfl
theorem inB_yes {lo hi : UInt8} {s : ByteArray} (h : ∀ j, j < s.size → inC lo hi (s.data.toList.getD j 0) = true) : inB lo hi s.data.toList = true := by
  unfold inB
  rw [List.all_eq_true]
  intro x hx
  obtain ⟨j, hj, rfl⟩ := List.mem_iff_getElem.1 hx
  have := h j (by rw [← ba_len]; exact hj)
  rwa [ba_getD s j hj] at this
theorem inB_no {lo hi : UInt8} {s : ByteArray} (k : Nat) (hk : k < s.size) (h : inC lo hi (s.data.toList.getD k 0) = false) : inB lo hi s.data.toList = false := by
  unfold inB
  rw [← Bool.not_eq_true, List.all_eq_true]
  intro hall
  have hk' : k < s.data.toList.length := by rw [ba_len]; exact hk
  rw [ba_getD s k hk', hall _ (List.getElem_mem hk')] at h
  cases h

theorem ret_bool {a b : Bool} (h : a = b) : Ending.returned (.bool a) = .returned (.bool b) := by rw [h]
theorem ret_int {k : IntKind} {a b : Int} (h : a = b) : Ending.returned (.int k a) = .returned (.int k b) := by rw [h]

/-- []byte(s): new bytes -/
theorem bytes_of (P : Program) (w : World) (src dst e : TypeId) (s : ByteArray) (hs : P.underlying src = some .string) (hd : P.underlying dst = some (.slice e)) (he : P.underlying e = some (.int .u8)) :
    ∃ c w1, (convert src dst (.string s)).run P w = .ok (.slice (some ⟨w.heap.size, 0, none⟩) s.size c) w1 ∧ Below w.heap.size w w1 ∧
      Hid (∀ j, j < s.size → w1.cell? ⟨w.heap.size, j, none⟩ = some (.int .u8 ((s.data.toList.getD j 0).toNat : Int))) := by
  refine ⟨_, _, run_bytes_of_string w src dst e s hs hd he, ((Below.refl _ _).drew).alloc (Nat.le_refl _) _, fun j hj => ?_⟩
  rw [cell_of_row _ w.heap.size _ _ e _ (heap_alloc_new w.drew _)]
  have hj' : j < s.data.size := hj
  have hj2 : s.data[j]? = some s.data[j] := Array.getElem?_eq_getElem hj'
  simp only [bytesRow, Array.getElem?_append, Array.size_map]
  rw [if_pos hj']
  simp [List.getD, hj2]

set_option maxRecDepth 100000 in
theorem within_any (s : ByteArray) (lo hi : UInt8) (w : World) (hs : s.size ≤ 1000000000000) :
    Calls Tryz.prog 125 #[.string s, .int .u8 (lo.toNat : Int), .int .u8 (hi.toNat : Int)] w fun e w' => e = .returned (.bool (inB lo hi s.data.toList)) ∧ Below w.heap.size w w' := by
  obtain ⟨c, w1, hrun, B1, HC⟩ := bytes_of Tryz.prog w 9 107 5 s Tryz.underlying9 Tryz.underlying107 Tryz.underlying5
  go_enter Tryz.func125, Tryz.ntmps125
  go_wp2
  go_loop [12] (fun i => ∃ k : Nat, k ≤ s.size ∧ i = .int .i64 k ∧ Hid (∀ j, j < k → inC lo hi (s.data.toList.getD j 0) = true)) (fun i => s.size - (intOf i).toNat)
  case atStart => exact ⟨0, Nat.zero_le _, rfl, fun j hj => by omega⟩
  case round =>
    obtain ⟨k, hk, rfl, hall⟩ := hrel
    by_cases hlt : k < s.size
    · have hc := HC.out k hlt
      obtain ⟨c, hcd⟩ : ∃ c : UInt8, Hid (c = s.data.toList.getD k 0) := ⟨_, rfl⟩
      rw [← hcd.out] at hc
      by_cases hin : lo.toNat ≤ c.toNat ∧ c.toNat ≤ hi.toNat
      · have hall' : Hid (∀ j, j < k + 1 → inC lo hi (s.data.toList.getD j 0) = true) := by
          show ∀ j, _
          intro j hj
          by_cases e : j = k
          · subst e; rw [← hcd.out]; simp [inC, UInt8.le_iff_toNat_le, hin]
          · exact hall.out j (by omega)
        have h1 : ¬ c.toNat < lo.toNat := by omega
        have h2 : ¬ hi.toNat < c.toNat := by omega
        clear hin
        go_wp2
        go_round
        case rel => exact ⟨k + 1, by omega, by go_num, hall'⟩
        case measure => simp [intOf]; omega
      · have hno : Hid (inB lo hi s.data.toList = false) := by
          show _ = _
          refine inB_no k hlt ?_
          rw [← hcd.out]
          simp [inC, UInt8.le_iff_toNat_le]
          omega
        by_cases h1 : c.toNat < lo.toNat
        · clear hin
          go_wp2
          go_ret
          exact ⟨ret_bool hno.out.symm, B1⟩
        · have h2 : hi.toNat < c.toNat := by omega
          clear hin
          go_wp2
          go_ret
          exact ⟨ret_bool hno.out.symm, B1⟩
    · have hyes : Hid (inB lo hi s.data.toList = true) := inB_yes fun j hj => hall.out j (by omega)
      go_wp2
      go_ret
      exact ⟨ret_bool hyes.out.symm, B1⟩

theorem empty_iff (s : ByteArray) : s.toList = [] ↔ s.size = 0 := by
  rw [ByteArray.toList_eq, ← ba_len, List.length_eq_zero_iff]

set_option maxRecDepth 100000 in
theorem name_any (s : ByteArray) (w : World) :
    Calls Tryz.prog 95 #[.string s] w fun e w' => e = .returned (.bool (nameB s)) ∧ Below w.heap.size w w' := by
  by_cases h1 : s.size = 0
  · have hfin : Hid (nameB s = false) := by show _ = _; unfold nameB; simp [h1]
    have h2 : s.toList = [] := (empty_iff s).2 h1
    have h3 : s.toList.isEmpty = true := by rw [h2]; rfl
    clear h1
    go_enter Tryz.func95, Tryz.ntmps95
    go_wp2
    go_ret
    exact ⟨ret_bool hfin.out.symm, Below.refl _ _⟩
  have h3 : ¬ s.toList = [] := fun h => h1 ((empty_iff s).1 h)
  have h4 : s.toList.isEmpty = false := by rw [List.isEmpty_eq_false_iff]; exact h3
  by_cases h2 : s.size ≤ 16
  · have hfin : Hid (nameB s = inB 97 122 s.data.toList) := by show _ = _; unfold nameB; simp [show 1 ≤ s.size by omega, h2]
    go_enter Tryz.func95, Tryz.ntmps95
    go_wp2_with fail
    refine (within_any s 97 122 w (by omega)).mono ?_
    rintro e w1 ⟨rfl, B1⟩
    go_wp2
    go_ret
    exact ⟨ret_bool hfin.out.symm, B1⟩
  · have hfin : Hid (nameB s = false) := by show _ = _; unfold nameB; simp [h2]
    go_enter Tryz.func95, Tryz.ntmps95
    go_wp2
    go_ret
    exact ⟨ret_bool hfin.out.symm, Below.refl _ _⟩
end Go.Proofs.YtkbileabkfccgaaGreatDoor
