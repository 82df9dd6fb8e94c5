/- expr: expressions as trees, and how they lie in memory. Of no program. -/
import Derived.Test.YtfbcafapnagjfaaDoorRd
namespace Go.Proofs.YtfbcafapnagjfaaDoor
open Go.RowKit

/-- an expression: its kind, name, least and most times, kids -/
inductive Ex where
  | mk (k : Int) (n : ByteArray) (a b : Int) (l : List Ex)
namespace Ex
def k : Ex → Int | .mk k _ _ _ _ => k
def n : Ex → ByteArray | .mk _ n _ _ _ => n
def a : Ex → Int | .mk _ _ a _ _ => a
def b : Ex → Int | .mk _ _ _ b _ => b
def l : Ex → List Ex | .mk _ _ _ _ l => l
theorem ind {P : Ex → Prop} (h : ∀ k n a b l, (∀ e ∈ l, P e) → P (.mk k n a b l)) (e : Ex) : P e :=
  Ex.rec (motive_1 := P) (motive_2 := fun l => ∀ e ∈ l, P e) (fun k n a b l ih => h k n a b l ih) (by simp)
    (fun e l h1 h2 x hx => (List.mem_cons.1 hx).elim (fun h => by rw [h]; exact h1) (h2 x)) e
end Ex

/-- the value of an expression whose kids lie in slice s -/
def exV (e : Ex) (s : Value) : Value := .agg #[.int .i64 e.k, .string e.n, .int .i64 e.a, .int .i64 e.b, s]
/-- its cells -/
def exC (e : Ex) (s : Value) : List Value := [.int .i64 e.k, .string e.n, .int .i64 e.a, .int .i64 e.b, s]
def exCs : List Ex → List Value → List Value
  | e :: l, s :: ss => exC e s ++ exCs l ss
  | _, _ => []
theorem exCs_len : ∀ (l : List Ex) (ss : List Value), ss.length = l.length → (exCs l ss).length = l.length * 5
  | [], [], _ => rfl
  | e :: l, s :: ss, h => by
    have := exCs_len l ss (by simpa using h)
    simp only [exCs, exC, List.length_append, List.length_cons, List.length_nil, this]; omega
  | [], _ :: _, h => by simp at h
  | _ :: _, [], h => by simp at h
theorem exCs_app : ∀ (l : List Ex) (ss : List Value) (m : List Ex) (tt : List Value), ss.length = l.length → exCs (l ++ m) (ss ++ tt) = exCs l ss ++ exCs m tt
  | [], [], _, _, _ => rfl
  | e :: l, s :: ss, m, tt, h => by simp only [List.cons_append, exCs, exCs_app l ss m tt (by simpa using h), List.append_assoc]
  | [], _ :: _, _, _, h => by simp at h
  | _ :: _, [], _, _, h => by simp at h
theorem exCs_get : ∀ (l : List Ex) (ss : List Value) (h : ss.length = l.length) (i : Nat) (hi : i < l.length) (j : Nat), j < 5 →
    (exCs l ss)[i * 5 + j]? = (exC l[i] (ss[i]'(by omega)))[j]?
  | e :: l, s :: ss, h, 0, _, j, hj => by
    simp only [exCs, Nat.zero_mul, Nat.zero_add, List.getElem_cons_zero]
    rw [List.getElem?_append_left (by simp [exC]; omega)]
  | e :: l, s :: ss, h, i + 1, hi, j, hj => by
    simp only [exCs, List.getElem_cons_succ]
    rw [show (i + 1) * 5 + j = 5 + (i * 5 + j) by omega, List.getElem?_append_right (by simp [exC]), show 5 + (i * 5 + j) - (exC e s).length = i * 5 + j by simp [exC]]
    exact exCs_get l ss (by simpa using h) i (by simpa using hi) j hj
  | [], [], _, _, hi, _, _ => by simp at hi
  | [], _ :: _, h, _, _, _, _ => by simp at h
  | _ :: _, [], h, _, _, _, _ => by simp at h
theorem exCs_one : ∀ (l : List Ex) (ss : List Value), (∀ s ∈ ss, s.oneCell' = true) → ∀ u ∈ exCs l ss, u.oneCell' = true
  | [], _, _, u, hu => by simp [exCs] at hu
  | _ :: _, [], _, u, hu => by simp [exCs] at hu
  | e :: l, s :: ss, h, u, hu => by
    simp only [exCs, exC, List.mem_append, List.mem_cons, List.not_mem_nil, or_false] at hu
    rcases hu with (rfl | rfl | rfl | rfl | rfl) | hu
    · rfl
    · rfl
    · rfl
    · rfl
    · exact h _ (by simp)
    · exact exCs_one l ss (fun s hs => h s (by simp [hs])) u hu

/-- the slice v has n elements of sz cells each, the cells cs; they lie in blocks of S -/
def RdS (w : World) (S : Nat → Prop) (v : Value) (sz n : Nat) (cs : List Value) : Prop :=
  ∃ A cap, v = .slice A n cap ∧ cs.length = n * sz ∧ n ≤ cap ∧ cap ≤ maxLen ∧
    (n = 0 ∨ ∃ b off, A = some ⟨b, off, none⟩ ∧ S b ∧ ∀ j u, cs[j]? = some u → w.cell? ⟨b, off + j, none⟩ = some u)
section
variable {w w' : World} {S S' : Nat → Prop} {v : Value} {sz n : Nat} {cs : List Value}
theorem RdS.keep (h : RdS w S v sz n cs) (hk : ∀ b o, S b → w'.cell? ⟨b, o, none⟩ = w.cell? ⟨b, o, none⟩) : RdS w' S v sz n cs := by
  obtain ⟨A, cap, rfl, h0, h1, h2, h3⟩ := h
  refine ⟨A, cap, rfl, h0, h1, h2, h3.imp id ?_⟩
  rintro ⟨b, off, hA, hb, hc⟩
  exact ⟨b, off, hA, hb, fun j u hu => (hk _ _ hb).trans (hc j u hu)⟩
theorem RdS.mono (h : RdS w S v sz n cs) (hs : ∀ b, S b → S' b) : RdS w S' v sz n cs := by
  obtain ⟨A, cap, rfl, h0, h1, h2, h3⟩ := h
  refine ⟨A, cap, rfl, h0, h1, h2, h3.imp id ?_⟩
  rintro ⟨b, off, hA, hb, hc⟩
  exact ⟨b, off, hA, hs _ hb, hc⟩
theorem RdS.inb (h : RdS w S v sz n cs) (hsz : 0 < sz) : RdS w (fun b => S b ∧ b < w.heap.size) v sz n cs := by
  obtain ⟨A, cap, rfl, h0, h1, h2, h3⟩ := h
  refine ⟨A, cap, rfl, h0, h1, h2, ?_⟩
  by_cases hn : n = 0
  · exact .inl hn
  · rcases h3 with h3 | ⟨b, off, hA, hb, hc⟩
    · exact absurd h3 hn
    · have hpos : 0 < n * sz := Nat.mul_pos (by omega) hsz
      have hg := hc 0 _ (List.getElem?_eq_getElem (by omega))
      have hlt := World.block_lt_of_cell? w _ hg
      exact .inr ⟨b, off, hA, ⟨hb, hlt⟩, hc⟩
theorem RdS.rd {B : Nat} (h : RdS w S v sz n cs) (hs : ∀ b, S b → b < B) : Rd w B v sz n cs := by
  obtain ⟨A, cap, rfl, h0, h1, h2, h3⟩ := h
  refine ⟨A, cap, rfl, h0, h1, h2, h3.imp id ?_⟩
  rintro ⟨b, off, hA, hb, hc⟩
  exact ⟨b, off, hA, hs _ hb, hc⟩
theorem RdS.of {B : Nat} (h : Rd w B v sz n cs) : RdS w (fun b => b < B) v sz n cs := h
theorem RdS.form (h : RdS w S v sz n cs) : ∃ A cap, v = .slice A n cap := by obtain ⟨A, cap, h, _⟩ := h; exact ⟨A, cap, h⟩
theorem RdS.nil (w : World) (S : Nat → Prop) (sz : Nat) : RdS w S (.slice none 0 0) sz 0 [] := ⟨none, 0, rfl, by simp, Nat.le_refl _, by unfold maxLen; omega, .inl rfl⟩
theorem RdS.max (h : RdS w S v sz n cs) : n ≤ maxLen := by obtain ⟨A, cap, _, _, h1, h2, _⟩ := h; omega
theorem RdS.one (h : RdS w S v sz n cs) : v.oneCell' = true := by obtain ⟨A, cap, rfl, _⟩ := h; rfl
/-- what a call owns is read, in the block that it owns -/
theorem RdS.own {e : TypeId} {base : Nat} (h : w.ownsRow base e sz v n cs) : RdS w (fun b => v.ownBlock = some b) v sz n cs := by
  have h0 := h
  rcases h.2 with ⟨rfl, hn⟩ | ⟨g, cap, cur, rfl, hb, hg, h1, h2, h3, h4⟩
  · subst hn
    have hl := h.1
    rw [Nat.zero_mul] at hl
    obtain rfl := List.eq_nil_of_length_eq_zero hl
    exact RdS.nil w _ _
  · refine ⟨_, cap, rfl, h.1, h1, h2, .inr ⟨g, 0, rfl, rfl, fun j u hu => ?_⟩⟩
    have := World.ownsRow.cells h0 (g := g) rfl j u hu
    rw [Addr.add_lit] at this
    exact this
end

/-- slice s has the kids l, wholly in blocks of S -/
inductive Kd (w : World) (S : Nat → Prop) : Value → List Ex → Prop
  | mk (l : List Ex) (s : Value) (ss : List Value) (h : ss.length = l.length) : RdS w S s 5 l.length (exCs l ss) →
      (∀ i (hi : i < l.length), Kd w S (ss[i]'(by omega)) l[i].l) → Kd w S s l
section
variable {w w' : World} {S S' : Nat → Prop} {s : Value} {l : List Ex}
theorem Kd.keep (h : Kd w S s l) (hk : ∀ b o, S b → w'.cell? ⟨b, o, none⟩ = w.cell? ⟨b, o, none⟩) : Kd w' S s l := by
  induction h with
  | mk l s ss hl hr _ ih => exact .mk l s ss hl (hr.keep hk) ih
theorem Kd.mono (h : Kd w S s l) (hs : ∀ b, S b → S' b) : Kd w S' s l := by
  induction h with
  | mk l s ss hl hr _ ih => exact .mk l s ss hl (hr.mono hs) ih
theorem Kd.inb (h : Kd w S s l) : Kd w (fun b => S b ∧ b < w.heap.size) s l := by
  induction h with
  | mk l s ss hl hr _ ih => exact .mk l s ss hl (hr.inb (by omega)) ih
theorem Kd.form (h : Kd w S s l) : ∃ A cap, s = .slice A l.length cap := by cases h with | mk _ _ ss hl hr _ => exact hr.form
theorem Kd.max (h : Kd w S s l) : l.length ≤ maxLen := by cases h with | mk _ _ ss hl hr _ => exact hr.max
theorem Kd.one (h : Kd w S s l) : s.oneCell' = true := by cases h with | mk _ _ ss hl hr _ => exact hr.one
theorem Kd.nil (w : World) (S : Nat → Prop) : Kd w S (.slice none 0 0) [] := .mk [] _ [] rfl (RdS.nil w S 5) fun i hi => by simp at hi
theorem Kd.at {A : Option Addr} {cap i : Nat} (h : Kd w S (.slice A l.length cap) l) (hi : i < l.length) :
    ∃ b off s, A = some ⟨b, off, none⟩ ∧ S b ∧ l.length ≤ cap ∧ Kd w S s l[i].l ∧ w.cell? ⟨b, off + i * 5, none⟩ = some (.int .i64 l[i].k) ∧ w.cell? ⟨b, off + i * 5 + 1, none⟩ = some (.string l[i].n) ∧
      w.cell? ⟨b, off + i * 5 + 1 + 1, none⟩ = some (.int .i64 l[i].a) ∧ w.cell? ⟨b, off + i * 5 + 1 + 1 + 1, none⟩ = some (.int .i64 l[i].b) ∧ w.cell? ⟨b, off + i * 5 + 1 + 1 + 1 + 1, none⟩ = some s := by
  cases h with
  | mk _ _ ss hl hr hk =>
    obtain ⟨A', cap', hv, _, h1, _, h3⟩ := hr
    simp only [Value.slice.injEq, true_and] at hv
    obtain ⟨rfl, rfl⟩ := hv
    rcases h3 with h3 | ⟨b, off, hA, hb, hc⟩
    · omega
    · have hg := fun j hj => exCs_get l ss hl i hi j hj
      refine ⟨b, off, ss[i]'(by omega), hA, hb, h1, hk i hi, ?_, ?_, ?_, ?_, ?_⟩
      · exact hc _ _ (by simpa [exC] using hg 0 (by omega))
      · exact hc _ _ (by simpa [exC] using hg 1 (by omega))
      · exact hc _ _ (by simpa [exC] using hg 2 (by omega))
      · exact hc _ _ (by simpa [exC] using hg 3 (by omega))
      · exact hc _ _ (by simpa [exC] using hg 4 (by omega))
end
/-- slice s has the kids l, below block B -/
abbrev Kb (w : World) (B : Nat) (s : Value) (l : List Ex) : Prop := Kd w (fun b => b < B) s l
section
variable {w w' : World} {S : Nat → Prop} {B B' : Nat} {s : Value} {l : List Ex}
theorem Kd.kb (h : Kd w S s l) : Kb w w.heap.size s l := h.inb.mono fun _ h => h.2
theorem Kb.below (h : Kb w B s l) (hb : Below B w w') : Kb w' B s l := h.keep fun b o hl => hb.cell (p := ⟨b, o, none⟩) hl
theorem Kb.bmono (h : Kb w B s l) (hB : B ≤ B') : Kb w B' s l := h.mono fun b hb => by omega
theorem Kb.alloc (h : Kb w B s l) (hB : B ≤ w.heap.size) (o : Obj) : Kb (w.alloc o) B s l := Kb.below h ((Below.refl _ _).alloc hB _)
theorem Kd.drew (h : Kd w S s l) : Kd w.drew S s l := h.keep fun _ _ _ => rfl
theorem Kd.drewN (h : Kd w S s l) (k : Nat) : Kd (w.drewN k) S s l := h.keep fun _ _ _ => rfl
end

/-! ## what is asked of expressions -/
def deepN : Nat → Ex → Bool
  | 0, _ => true
  | n + 1, e => e.l.any (deepN n)
mutual
def Ex.anyE (p : Ex → Bool) : Ex → Bool
  | .mk k n a b l => p (.mk k n a b l) || Ex.anyL p l
def Ex.anyL (p : Ex → Bool) : List Ex → Bool
  | [] => false
  | e :: l => Ex.anyE p e || Ex.anyL p l
end
theorem anyL_eq (p : Ex → Bool) : ∀ l : List Ex, Ex.anyL p l = l.any (Ex.anyE p)
  | [] => rfl
  | e :: l => by rw [Ex.anyL, List.any_cons, anyL_eq p l]
theorem anyE_eq (p : Ex → Bool) (e : Ex) : e.anyE p = (p e || e.l.any (Ex.anyE p)) := by
  cases e; rw [Ex.anyE, anyL_eq]; rfl
def exMost : Int := 1073741824
mutual
def Ex.sizeE : Ex → Int
  | .mk k _ a b l => if k = 1 then 1 else if k ≠ 4 then Ex.sizeL 0 l else if b = -1 then min (Ex.sizeL 0 l * (a + 1)) exMost else min (Ex.sizeL 0 l * b) exMost
def Ex.sizeL (s : Int) : List Ex → Int
  | [] => s
  | e :: l => Ex.sizeL (min (s + Ex.sizeE e) exMost) l
end
def wildB (e : Ex) : Bool := decide (min e.a e.b < -1) || decide (1048576 < max e.a e.b)
def sizeN (e : Ex) : Int := if deepN 64 e || e.anyE wildB then exMost else e.sizeE
def longE (e : Ex) : Bool := decide (16 < e.n.size) || decide (16 < e.a) || decide (16 < e.b)
def isB (c : Int) (e : Ex) : Bool := decide (e.k = c)
def nilB (e : Ex) : Bool := isB 2 e && decide (e.l.length = 0)
def noChB (e : Ex) : Bool := isB 3 e || nilB e
def bareB (e : Ex) : Bool := decide (e.a = 0) && decide (e.b = 0)
def timesB (a b : Int) : Bool := !(decide (a < 0) || (decide (a = 1) && decide (b = 1))) && (decide (b = -1) || decide (max a 1 ≤ b))
def sameN : Nat → Ex → Ex → Bool
  | 0, _, _ => false
  | n + 1, x, y => decide (x.k = y.k) && decide (x.n = y.n) && decide (x.a = y.a) && decide (x.b = y.b) && decide (x.l.length = y.l.length) && (x.l.zip y.l).all fun p => sameN n p.1 p.2
end Go.Proofs.YtfbcafapnagjfaaDoor
