/- Rd, App, MpA, MpB, MpR, MpQ, MpZ, MpC, MpH, MpG, MpT, MpD, MpU, MpV, merged. -/
import Derived.Test.YtiilbgejdpnfpaaWords
import Derived.Test.YtiilbgejdpnfpaaProg
import Derived.WalkKit
import Derived.WalkSpells
import Derived.WalkLawsBesides
import Derived.Maps.AppendAt
import Derived.Deep.Draws
import Derived.Deep.RegionHeld3
import Derived.Deep.QuietTactic
import Derived.BigQuiet
import Derived.Deep.AppendLies
import Derived.RegionTactic
import Derived.OwnWalk
import Derived.IntWalk
import Derived.Laws.IdiomStrings
import Derived.Lib.Hide
import Derived.Laws.AppendOwn
import Derived.Deep.LoopGhost
import Derived.Deep.DeepCutAuto
import Derived.Laws.StructEq

/- Words of our own on memory: slices whose elements have any number of cells, as they are read (Rd). Of no program. -/
namespace Go.Proofs.Ytiilbgejdpnfpaa
open Go.RowKit

/-- the slice v has n elements of sz cells each, the cells cs; they lie below block B -/
def Rd (w : World) (B : Nat) (v : Value) (sz n : Nat) (cs : List Value) : Prop :=
  ∃ A cap, v = .slice A n cap ∧ cs.length = n * sz ∧ n ≤ cap ∧ cap ≤ maxLen ∧
    (n = 0 ∨ ∃ b off, A = some ⟨b, off, none⟩ ∧ b < B ∧ ∀ j u, cs[j]? = some u → w.cell? ⟨b, off + j, none⟩ = some u)

section
variable {w w' : World} {B B' : Nat} {v : Value} {sz n : Nat} {cs : List Value}
theorem Rd.keep (h : Rd w B v sz n cs) (hk : ∀ b o, b < B → w'.cell? ⟨b, o, none⟩ = w.cell? ⟨b, o, none⟩) : Rd w' B v sz n cs := by
  obtain ⟨A, cap, rfl, h0, h1, h2, h3⟩ := h
  refine ⟨A, cap, rfl, h0, h1, h2, h3.imp id ?_⟩
  rintro ⟨b, off, hA, hb, hc⟩
  exact ⟨b, off, hA, hb, fun j u hu => (hk _ _ hb).trans (hc j u hu)⟩
theorem Rd.below (h : Rd w B v sz n cs) (hb : Below B w w') : Rd w' B v sz n cs := h.keep fun b o hl => hb.cell (p := ⟨b, o, none⟩) hl
theorem Rd.mono (h : Rd w B v sz n cs) (hB : B ≤ B') : Rd w B' v sz n cs := by
  obtain ⟨A, cap, rfl, h0, h1, h2, h3⟩ := h
  refine ⟨A, cap, rfl, h0, h1, h2, h3.imp id ?_⟩
  rintro ⟨b, off, hA, hb, hc⟩
  exact ⟨b, off, hA, by omega, hc⟩
theorem Rd.drew (h : Rd w B v sz n cs) : Rd w.drew B v sz n cs := h
theorem Rd.drewN (h : Rd w B v sz n cs) (k : Nat) : Rd (w.drewN k) B v sz n cs := h
theorem Rd.alloc (h : Rd w B v sz n cs) (hB : B ≤ w.heap.size) (o : Obj) : Rd (w.alloc o) B v sz n cs := h.below ((Below.refl _ _).alloc hB _)
theorem Rd.nil (w : World) (B sz : Nat) : Rd w B (.slice none 0 0) sz 0 [] := ⟨none, 0, rfl, by simp, Nat.le_refl _, by unfold maxLen; omega, .inl rfl⟩
theorem Rd.form (h : Rd w B v sz n cs) : ∃ A cap, v = .slice A n cap := by obtain ⟨A, cap, h, _⟩ := h; exact ⟨A, cap, h⟩
theorem Rd.len (h : Rd w B v sz n cs) : cs.length = n * sz := by obtain ⟨A, cap, _, h, _⟩ := h; exact h
/-- the address, where there is an element -/
theorem Rd.at {A : Option Addr} {cap : Nat} (h : Rd w B (.slice A n cap) sz n cs) (hn : 0 < n) :
    ∃ b off, A = some ⟨b, off, none⟩ ∧ b < B ∧ n ≤ cap ∧ ∀ j u, cs[j]? = some u → w.cell? ⟨b, off + j, none⟩ = some u := by
  obtain ⟨A', cap', hv, h0, h1, h2, h3⟩ := h
  simp only [Value.slice.injEq, true_and] at hv
  obtain ⟨rfl, rfl⟩ := hv
  rcases h3 with h3 | ⟨b, off, hA, hb, hc⟩
  · omega
  · exact ⟨b, off, hA, hb, h1, hc⟩
theorem Rd.max (h : Rd w B v sz n cs) : n ≤ maxLen := by obtain ⟨A, cap, _, _, h1, h2, _⟩ := h; omega
/-- what a call owns is read -/
theorem Rd.own {e : TypeId} {base : Nat} (h : w.ownsRow base e sz v n cs) : Rd w w.heap.size v sz n cs := by
  have h0 := h
  rcases h.2 with ⟨rfl, hn⟩ | ⟨g, cap, cur, rfl, hb, hg, h1, h2, h3, h4⟩
  · subst hn
    have hl := h.1
    rw [Nat.zero_mul] at hl
    obtain rfl := List.eq_nil_of_length_eq_zero hl
    exact Rd.nil w _ _
  · refine ⟨_, cap, rfl, h.1, h1, h2, .inr ⟨g, 0, rfl, (Array.getElem?_eq_some_iff.1 hg).1, fun j u hu => ?_⟩⟩
    have := World.ownsRow.cells h0 (g := g) rfl j u hu
    rw [Addr.add_lit] at this
    exact this
end

/-! ## rows of a call's own -/
section
variable {w w' : World} {e : TypeId} {base base' sz n : Nat} {v : Value} {cs : List Value}
theorem own_all (h : w.ownsRow base e sz v n cs) (hb : Below w.heap.size w w') : w'.ownsRow base e sz v n cs :=
  World.ownsRow.kept h (row := none) ⟨hb.os, hb.tape, hb.output, hb.size, fun k hk _ => hb.block k hk⟩ (by cases v.ownBlock <;> simp)
theorem own_mono (h : w.ownsRow base e sz v n cs) (hb : base' ≤ base) : w.ownsRow base' e sz v n cs := by
  refine ⟨h.1, ?_⟩
  rcases h.2 with h2 | ⟨g, cap, cur, hv, hg, r⟩
  · exact .inl h2
  · exact .inr ⟨g, cap, cur, hv, by omega, r⟩
theorem own_form (h : w.ownsRow base e sz v n cs) : ∃ A cap, v = .slice A n cap := by
  rcases h.2 with ⟨rfl, rfl⟩ | ⟨g, cap, cur, rfl, _⟩
  · exact ⟨none, 0, rfl⟩
  · exact ⟨_, cap, rfl⟩
end

/-- the literal of a slice -/
theorem Rd.lit (w : World) (e : TypeId) (sz n : Nat) (cs : Array Value) (fr : Nat × Nat) (hn : cs.size = n * sz) (hm : n ≤ 1000000000000) :
    Rd (w.alloc (.cells cs e fr)) (w.heap.size + 1) (.slice (some ⟨w.heap.size, 0, none⟩) n n) sz n cs.toList := by
  refine ⟨_, _, rfl, by simpa using hn, Nat.le_refl _, by unfold maxLen; omega, .inr ⟨w.heap.size, 0, rfl, by omega, fun j u hu => ?_⟩⟩
  rw [cell_of_row (w.alloc (.cells cs e fr)) w.heap.size _ cs e fr (heap_alloc_new w _), ← Array.getElem?_toList, Nat.zero_add]
  exact hu

/-- block facts of a call that made memory: old cells and marks read as before -/
theorem bcell {W w1 : World} {B : Nat} (hb : Below B W w1) : (∀ b o, b < B → w1.cell? ⟨b, o, none⟩ = W.cell? ⟨b, o, none⟩) ∧ (∀ b o, b < B → w1.frozen? ⟨b, o, none⟩ = W.frozen? ⟨b, o, none⟩) :=
  ⟨fun b o h => hb.cell (p := ⟨b, o, none⟩) h, fun b o h => hb.frozen (p := ⟨b, o, none⟩) h⟩

/-! ## texts in order -/
def ltS (a b : ByteArray) : Bool := Op.bytesLess a.toList b.toList
theorem ba_toList (s : ByteArray) : s.toList = s.data.toList := ByteArray.toList_eq s
theorem bl_eq : ∀ (x y : List UInt8), Op.bytesLess x y = decide (x < y)
  | [], [] => by simp [Op.bytesLess]
  | _ :: _, [] => by simp [Op.bytesLess]
  | [], _ :: _ => by simp [Op.bytesLess]
  | a :: x, b :: y => by
    rw [Op.bytesLess, bl_eq x y]
    simp only [List.cons_lt_cons_iff]
    by_cases h1 : a < b <;> by_cases h2 : a = b <;> by_cases h3 : x < y <;> simp [h1, h2, h3]
theorem toList_inj {a b : ByteArray} (h : a.toList = b.toList) : a = b := by
  rw [ba_toList, ba_toList] at h
  cases a; cases b; congr 1
  exact Array.toList_inj.1 h
theorem ltS_iff (a b : ByteArray) : ltS a b = true ↔ a.data.toList < b.data.toList := by unfold ltS; rw [bl_eq, ba_toList, ba_toList]; simp
theorem ltS_irr (a : ByteArray) : ltS a a = false := by
  rw [← Bool.not_eq_true, ltS_iff]; exact List.lt_irrefl _
theorem ltS_trans {a b c : ByteArray} (h : ltS a b = true) (k : ltS b c = true) : ltS a c = true := by
  rw [ltS_iff] at *; exact List.lt_trans h k
theorem ltS_asymm {a b : ByteArray} (h : ltS a b = true) : ltS b a = false := by
  rw [← Bool.not_eq_true]; intro k
  have := ltS_trans h k; rw [ltS_irr] at this; cases this
theorem ltS_tri {a b : ByteArray} (h : ltS a b = false) (k : ltS b a = false) : a = b := by
  rw [← Bool.not_eq_true, ltS_iff] at *
  apply toList_inj
  rw [ba_toList, ba_toList]
  exact List.le_antisymm (List.not_lt.1 k) (List.not_lt.1 h)
theorem eqS_iff (a b : ByteArray) : (a.toList == b.toList) = true ↔ a = b := by
  constructor
  · intro h; exact toList_inj (by simpa using h)
  · rintro rfl; simp
theorem neS_iff (a b : ByteArray) : (a.toList == b.toList) = false ↔ a ≠ b := by
  rw [← Bool.not_eq_true, eqS_iff]
end Go.Proofs.Ytiilbgejdpnfpaa

/- append onto a slice of the call's own, elements of any number of cells; what is appended is read (Rd), be it nil, empty or not. Of no program. -/
namespace Go.Proofs.Ytiilbgejdpnfpaa
open Go.RowKit
section
variable {P : Program} (w : World)

/-- an own row's value: nil, or the head of a block with room for its elements -/
theorem own_shape {w : World} {base e size n : Nat} {v : Value} {xs : List Value} (h : w.ownsRow base e size v n xs) : (v = .slice none 0 0 ∧ n = 0) ∨ ∃ g cap, v = .slice (some ⟨g, 0, none⟩) n cap ∧ n ≤ cap := by
  rcases h.2 with ⟨hv, hn⟩ | ⟨g, cap, _, hv, _, _, hc, _⟩
  · exact .inl ⟨hv, hn⟩
  · exact .inr ⟨g, cap, hv, hc⟩
/-- nothing is appended, out of nil -/
theorem app_nothing {base e size n : Nat} {v : Value} {xs : List Value} {i : TypeInfo} (t ty : TypeId) (hown : w.ownsRow base e size v n xs) (ht : P.underlying t = some (.slice e)) (hi : P.info? e = some i) (c : Nat) :
    (Builtin.append_ #[t, t] ty #[v, .slice none 0 c]).run P w = .ok v w := by
  rcases own_shape hown with ⟨rfl, _⟩ | ⟨g, cap, rfl, hc⟩ <;>
    simp [Builtin.append_, Builtin.lenOf, Builtin.firstCells, typeInfo, sizeOf, storeCells, run_underlying ht, *]

/-- what is read, as the library's law of append asks it -/
theorem Rd.src {w : World} {B size m : Nat} {v2 : Value} {news : List Value} (h : Rd w B v2 size m news) :
    (∃ c, v2 = .slice none 0 c ∧ m = 0 ∧ news = []) ∨ ∃ ad c, v2 = .slice (some ad) m c ∧ ∀ j u, news[j]? = some u → w.cell? (ad.add j) = some u := by
  obtain ⟨A, cap, rfl, hl, _, _, hs⟩ := h
  have hnil : m = 0 → news = [] := by rintro rfl; exact List.eq_nil_of_length_eq_zero (by omega)
  match A, hs with
  | none, .inl h0 => exact .inl ⟨cap, by rw [h0], h0, hnil h0⟩
  | none, .inr ⟨_, _, h0, _⟩ => cases h0
  | some ad, .inl h0 => exact .inr ⟨ad, cap, rfl, fun j u hu => by rw [hnil h0] at hu; simp at hu⟩
  | some _, .inr ⟨b, off, rfl, _, hc⟩ => exact .inr ⟨_, cap, rfl, fun j u hu => by rw [Addr.add_lit]; exact hc j u hu⟩

theorem run_appR (base : Nat) (t ty e : TypeId) (z : Value) (size bytes : Nat) (ht : P.underlying t = some (.slice e)) (hi : (P.info? e).map (fun i => (i.zero, i.size, i.bytes)) = some (some z, size, bytes))
    (hzs : z.cells.size = size) (hsz : 0 < size)
    {v v2 : Value} {n m : Nat} {xs news : List Value} {B : Nat} (hown : w.ownsRow base e size v n xs) (hr : Rd w B v2 size m news) (h1 : ∀ u ∈ news, u.oneCell' = true)
    (h63 : n + m ≤ maxLen) (hbytes : (n + m) * bytes ≤ 140737488355328) (hbase : base ≤ w.heap.size) :
    ∃ v' w', (Builtin.append_ #[t, t] ty #[v, v2]).run P w = .ok v' w' ∧ w'.ownsRow base e size v' (n + m) (xs ++ news) ∧ w.grownBy w' v.ownBlock ∧ (v'.ownBlock = v.ownBlock ∨ v'.ownBlock = some w.heap.size) := by
  obtain ⟨i, hi0, hz, hs1, hs2⟩ := info_parts hi
  rcases hr.src with ⟨c, rfl, rfl, rfl⟩ | ⟨ad, c, rfl, hcell⟩
  · refine ⟨v, w, app_nothing w t ty hown ht hi0 c, ?_, World.grownBy.refl w _, .inl rfl⟩
    rw [Nat.add_zero, List.append_nil]; exact hown
  · obtain ⟨v', w', hrun, ho, hg, _, hb⟩ := run_append_own_at (P := P) w base t ty e i z size bytes ht hi0 hz hs1 hs2 hzs hsz v n xs hown ad m c news hr.len hcell h1 h63 hbytes hbase
    exact ⟨v', w', hrun, ho, hg, hb⟩

theorem wp_appR {o : Oper} {a : Act} {K : Act → World → Prop} {Q : Exit → Act → World → Prop} (s x : Operand) (t e : TypeId)
    (ho : o.op = .call { callee := .builtin .append, args := #[s, x], argTypes := #[t, t] })
    (z : Value) (size bytes : Nat) (ht : P.underlying t = some (.slice e)) (hi : (P.info? e).map (fun i => (i.zero, i.size, i.bytes)) = some (some z, size, bytes))
    (hzs : z.cells.size = size) (hsz : 0 < size) (base : Nat)
    {v v2 : Value} {n m : Nat} {xs news : List Value} {B : Nat} (hs : a.eval s = v) (hx : a.eval x = v2) (hown : w.ownsRow base e size v n xs) (hr : Rd w B v2 size m news) (h1 : ∀ u ∈ news, u.oneCell' = true)
    (h63 : n + m ≤ maxLen) (hbytes : (n + m) * bytes ≤ 140737488355328) (hbase : base ≤ w.heap.size)
    (h : ∀ v' w', w'.ownsRow base e size v' (n + m) (xs ++ news) → w.grownBy w' v.ownBlock → (v'.ownBlock = v.ownBlock ∨ v'.ownBlock = some w.heap.size) → K (a.put o.dst v') w') : o.wp P a w K Q := by
  obtain ⟨v', w', hrun, r1, r2, r3⟩ := run_appR (P := P) w base t o.type e z size bytes ht hi hzs hsz hown hr h1 h63 hbytes hbase
  subst hs hx
  unfold Oper.wp
  simp [execOp, ho, resolve, invoke, builtin, hrun, Result.andThen]
  exact h v' w' r1 r2 r3

theorem wpList_appR {ops : Array Oper} {rest : List Oper} {o : Oper} {a : Act} {Q : Exit → Act → World → Prop} (hgd : o.guard = none) (s x : Operand) (t e : TypeId)
    (ho : o.op = .call { callee := .builtin .append, args := #[s, x], argTypes := #[t, t] })
    (z : Value) (size bytes : Nat) (ht : P.underlying t = some (.slice e)) (hi : (P.info? e).map (fun i => (i.zero, i.size, i.bytes)) = some (some z, size, bytes))
    (hzs : z.cells.size = size) (hsz : 0 < size) (base : Nat)
    {v v2 : Value} {n m : Nat} {xs news : List Value} {B : Nat} (hs : a.eval s = v) (hx : a.eval x = v2) (hown : w.ownsRow base e size v n xs) (hr : Rd w B v2 size m news) (h1 : ∀ u ∈ news, u.oneCell' = true)
    (h63 : n + m ≤ maxLen) (hbytes : (n + m) * bytes ≤ 140737488355328) (hbase : base ≤ w.heap.size)
    (h : ∀ v' w', w'.ownsRow base e size v' (n + m) (xs ++ news) → w.grownBy w' v.ownBlock → (v'.ownBlock = v.ownBlock ∨ v'.ownBlock = some w.heap.size) → wpList P ops Q rest (a.put o.dst v') w') :
    wpList P ops Q (o :: rest) a w :=
  wpList_plain hgd fun _ hK => wp_appR w s x t e ho z size bytes ht hi hzs hsz base hs hx hown hr h1 h63 hbytes hbase fun v' w' r1 r2 r3 => hK _ _ (h v' w' r1 r2 r3)

/-- the same, within a region that draws its order -/
theorem step_appR {ops : Array Oper} {o : Oper} {a : Act} {K : Act → World → Prop} {Q : Exit → Act → World → Prop} {E : Prop} (hgd : o.guard = none) (s x : Operand) (t e : TypeId)
    (ho : o.op = .call { callee := .builtin .append, args := #[s, x], argTypes := #[t, t] })
    (z : Value) (size bytes : Nat) (ht : P.underlying t = some (.slice e)) (hi : (P.info? e).map (fun i => (i.zero, i.size, i.bytes)) = some (some z, size, bytes))
    (hzs : z.cells.size = size) (hsz : 0 < size) (base : Nat)
    {v v2 : Value} {n m : Nat} {xs news : List Value} {B : Nat} (hs : a.eval s = v) (hx : a.eval x = v2) (hown : w.ownsRow base e size v n xs) (hr : Rd w B v2 size m news) (h1 : ∀ u ∈ news, u.oneCell' = true)
    (h63 : n + m ≤ maxLen) (hbytes : (n + m) * bytes ≤ 140737488355328) (hbase : base ≤ w.heap.size)
    (h : ∀ v' w', w'.ownsRow base e size v' (n + m) (xs ++ news) → w.grownBy w' v.ownBlock → (v'.ownBlock = v.ownBlock ∨ v'.ownBlock = some w.heap.size) → K (a.put o.dst v') w') :
    if Region.wanted o (yielded ops a.tmps) = true then Oper.wp P o a w K Q else E := by
  rw [if_pos (by unfold Region.wanted; rw [hgd])]
  exact wp_appR w s x t e ho z size bytes ht hi hzs hsz base hs hx hown hr h1 h63 hbytes hbase h
end
end Go.Proofs.Ytiilbgejdpnfpaa

/- Places through maps: the mathematics of ranges. Of no program. -/
namespace Go.Mps
/-- a Range -/
structure Rg where
  a : Int
  o : Int
  n : Int
deriving DecidableEq, Inhabited
/-- how a place went -/
structure Mv where
  p : Int
  ahead : Bool
  behind : Bool
  across : Bool
  lost : Bool
deriving DecidableEq, Inhabited

def okR (r : Rg) : Bool := decide (0 ≤ r.a ∧ r.a ≤ 1048576 ∧ 0 ≤ r.o ∧ r.o ≤ 1048576 ∧ 0 ≤ r.n ∧ r.n ≤ 1048576 ∧ r.o + r.n ≠ 0)
def okG : Int → List Rg → Bool
  | _, [] => true
  | e, r :: l => okR r && decide (e < r.a) && okG (r.a + r.o) l
def checkM (l : List Rg) : Int := if 64 < l.length then 3 else if okG (-1) l then 0 else 2

def at1 (lean d p : Int) (r : Rg) : Mv :=
  ⟨r.a + d + (if (0 < r.o ∧ p = r.a + r.o) ∨ ((¬ (0 < r.o ∧ p = r.a)) ∧ 0 ≤ lean) then r.n else 0), decide (r.a < p), decide (p < r.a + r.o), decide (r.a < p ∧ p < r.a + r.o), decide ((lean < 0 ∧ r.a < p) ∨ (0 ≤ lean ∧ p < r.a + r.o))⟩
def out (p : Int) : Mv := ⟨p, false, false, false, false⟩
def hitG (lean p : Int) : Int → Nat → List Rg → Mv × Option Nat
  | d, _, [] => (out (p + d), none)
  | d, i, r :: l => if p < r.a then (out (p + d), none) else if r.a + r.o < p then hitG lean p (d + r.n - r.o) (i + 1) l else (at1 lean d p r, some i)
def hitM (l : List Rg) (p lean : Int) : Mv × Option Nat := hitG lean p 0 0 l
def goM (l : List Rg) (p lean : Int) : Mv := if checkM l ≠ 0 ∨ p < 0 ∨ 1048576 < p then out p else (hitM l p lean).1
def turnG : Int → List Rg → List Rg
  | _, [] => []
  | d, r :: l => ⟨r.a + d, r.n, r.o⟩ :: turnG (d + r.n - r.o) l
def turnM (l : List Rg) : List Rg := if checkM l ≠ 0 then [] else turnG 0 l
def sumM : List Rg → Int
  | [] => 0
  | r :: l => r.n - r.o + sumM l
def deltaM (l : List Rg) : Int := if checkM l ≠ 0 then 0 else sumM l
def touchM (l : List Rg) (f t : Int) : Bool := if checkM l ≠ 0 then false else l.any fun r => decide (r.a ≤ t) && decide (f ≤ r.a + r.o)
def pairM : List Rg → List Rg → Bool
  | [], [] => true
  | a :: l, b :: m => decide (b.n = a.o) && pairM l m
  | _, _ => false
/-- where what came by a Range begins -/
def cameM (l : List Rg) (i : Nat) : Int := (l[i]?.getD default).a + sumM (l.take i)

theorem turn_length : ∀ (l : List Rg) (d : Int), (turnG d l).length = l.length
  | [], _ => rfl
  | r :: l, d => by simp [turnG, turn_length l]
theorem turn_turn : ∀ (l : List Rg) (d : Int), turnG (-d) (turnG d l) = l
  | [], _ => rfl
  | r :: l, d => by
      have h := turn_turn l (d + r.n - r.o)
      have e : -d + r.o - r.n = -(d + r.n - r.o) := by omega
      simp only [turnG]
      rw [e, h, Int.add_neg_cancel_right]
theorem sum_turn : ∀ (l : List Rg) (d : Int), sumM l + sumM (turnG d l) = 0
  | [], _ => rfl
  | r :: l, d => by
      have h := sum_turn l (d + r.n - r.o)
      simp only [turnG, sumM] at h ⊢
      omega
theorem pair_turn : ∀ (l : List Rg) (d : Int), pairM l (turnG d l) = true
  | [], _ => rfl
  | r :: l, d => by simp [turnG, pairM, pair_turn l]
theorem came_turn : ∀ (l : List Rg) (d : Int) (i : Nat), (h : i < l.length) → ((turnG d l)[i]?.getD default).a + sumM ((turnG d l).take i) = l[i].a + d
  | r :: l, d, 0, _ => by simp [turnG, sumM]
  | r :: l, d, i + 1, h => by
      have h' : i < l.length := by simpa using h
      have e := came_turn l (d + r.n - r.o) i h'
      simp only [turnG, List.getElem?_cons_succ, List.take_succ_cons, sumM, List.getElem_cons_succ] at e ⊢
      omega

/-- the Range that is hit is of the list, and the place stands in or at it -/
theorem hit_at : ∀ (l : List Rg) (lean p d : Int) (i j : Nat) (v : Mv), hitG lean p d i l = (v, some j) → i ≤ j ∧ ∃ h : j - i < l.length, l[j - i].a ≤ p ∧ p ≤ l[j - i].a + l[j - i].o ∧ v = at1 lean (d + sumM (l.take (j - i))) p l[j - i]
  | [], _, _, _, _, _, _, h => by simp [hitG] at h
  | r :: l, lean, p, d, i, j, v, h => by
      simp only [hitG] at h
      split at h
      · simp at h
      · split at h
        · obtain ⟨h1, h2, h3, h4, h5⟩ := hit_at l lean p _ (i + 1) j v h
          obtain ⟨k, rfl⟩ : ∃ k, j = i + 1 + k := ⟨j - (i + 1), by omega⟩
          have e1 : i + 1 + k - (i + 1) = k := by omega
          have e2 : i + 1 + k - i = k + 1 := by omega
          simp only [e1] at h2 h3 h4 h5
          refine ⟨by omega, ?_⟩
          rw [e2]
          refine ⟨by simpa using h2, by simpa using h3, by simpa using h4, ?_⟩
          simp only [List.getElem_cons_succ, List.take_succ_cons, sumM]
          rw [h5]; congr 1; omega
        · simp only [Prod.mk.injEq, Option.some.injEq] at h
          obtain ⟨h1, rfl⟩ := h
          refine ⟨by omega, ?_⟩
          rw [Nat.sub_self]
          refine ⟨by simp, by simp; omega, by simp; omega, ?_⟩
          simp [sumM, ← h1]

/-- a place between the Ranges goes there and back -/
theorem back_none : ∀ (l : List Rg) (lean p d e : Int) (i : Nat) (v : Mv), okG e l = true → e < p → hitG lean p d i l = (v, none) → v = out v.p ∧ e + d < v.p ∧ ∀ i', hitG lean v.p (-d) i' (turnG d l) = (out p, none)
  | [], lean, p, d, e, i, v, _, hp, h => by
      simp only [hitG, Prod.mk.injEq, and_true] at h
      subst h
      refine ⟨rfl, by simp [out]; omega, fun i' => ?_⟩
      simp only [turnG, hitG, out, Int.add_neg_cancel_right]
  | r :: l, lean, p, d, e, i, v, ho, hp, h => by
      simp only [okG, Bool.and_eq_true, decide_eq_true_eq] at ho
      obtain ⟨⟨h1, h2⟩, h3⟩ := ho
      simp only [okR, decide_eq_true_eq] at h1
      simp only [hitG] at h
      split at h
      · next hlt =>
        simp only [Prod.mk.injEq, and_true] at h
        subst h
        refine ⟨rfl, by simp [out]; omega, fun i' => ?_⟩
        simp only [turnG, hitG, out]
        rw [if_pos (by omega), Int.add_neg_cancel_right]
      · split at h
        · next hlt hgt =>
          obtain ⟨g1, g2, g3⟩ := back_none l lean p (d + r.n - r.o) (r.a + r.o) (i + 1) v h3 hgt h
          refine ⟨g1, by omega, fun i' => ?_⟩
          simp only [turnG, hitG]
          rw [if_neg (by omega), if_pos (by omega)]
          have e1 : -d + r.o - r.n = -(d + r.n - r.o) := by omega
          rw [e1]; exact g3 _
        · simp at h

/-- a place at a Range of nothing goes there and back -/
theorem back_some : ∀ (l : List Rg) (lean p d e : Int) (i j : Nat) (v : Mv), okG e l = true → e < p → hitG lean p d i l = (v, some j) → (∀ h : j - i < l.length, l[j - i].o = 0) → e + d < v.p ∧ v.lost = false ∧ v.across = false ∧ v.ahead = false ∧ v.behind = false ∧ ∀ i', ∃ u k, hitG lean v.p (-d) i' (turnG d l) = (u, some k) ∧ u.p = p ∧ u.lost = false ∧ u.across = false
  | [], _, _, _, _, _, _, _, _, _, h, _ => by simp [hitG] at h
  | r :: l, lean, p, d, e, i, j, v, ho, hp, h, hz => by
      simp only [okG, Bool.and_eq_true, decide_eq_true_eq] at ho
      obtain ⟨⟨h1, h2⟩, h3⟩ := ho
      simp only [okR, decide_eq_true_eq] at h1
      simp only [hitG] at h
      split at h
      · simp at h
      · split at h
        · next hlt hgt =>
          have hij := (hit_at l lean p _ (i + 1) j v h).1
          obtain ⟨k, rfl⟩ : ∃ k, j = i + 1 + k := ⟨j - (i + 1), by omega⟩
          have e1 : i + 1 + k - (i + 1) = k := by omega
          have e2 : i + 1 + k - i = k + 1 := by omega
          obtain ⟨g1, g2, g3, g4, g5, g6⟩ := back_some l lean p (d + r.n - r.o) (r.a + r.o) (i + 1) (i + 1 + k) v h3 hgt h (by
            rw [e1]; intro hk; have := hz (by rw [e2]; simpa using hk); simpa [e2] using this)
          refine ⟨by omega, g2, g3, g4, g5, fun i' => ?_⟩
          simp only [turnG, hitG]
          rw [if_neg (by omega), if_pos (by omega)]
          have e1 : -d + r.o - r.n = -(d + r.n - r.o) := by omega
          rw [e1]; exact g6 _
        · next hlt hgt =>
          simp only [Prod.mk.injEq, Option.some.injEq] at h
          obtain ⟨h4, rfl⟩ := h
          have hz0 : r.o = 0 := by have := hz (by simp); simpa using this
          have hpa : p = r.a := by omega
          subst h4
          refine ⟨?_, ?_, ?_, ?_, ?_, fun i' => ?_⟩
          · simp only [at1]; split <;> omega
          · simp only [at1, decide_eq_false_iff_not]; omega
          · simp only [at1, decide_eq_false_iff_not]; omega
          · simp only [at1, decide_eq_false_iff_not]; omega
          · simp only [at1, decide_eq_false_iff_not]; omega
          · simp only [turnG, hitG]
            have hle : r.a + d ≤ (at1 lean d p r).p ∧ (at1 lean d p r).p ≤ r.a + d + r.n ∧ ((at1 lean d p r).p = r.a + d ∧ lean < 0 ∨ (at1 lean d p r).p = r.a + d + r.n ∧ 0 ≤ lean) := by
              simp only [at1]; split <;> omega
            rw [if_neg (by omega), if_neg (by omega)]
            refine ⟨_, _, rfl, ?_, ?_, ?_⟩
            · simp only [at1] at hle ⊢; split <;> omega
            · generalize (at1 lean d p r).p = q at hle
              simp only [at1, decide_eq_false_iff_not]; omega
            · generalize (at1 lean d p r).p = q at hle
              simp only [at1, decide_eq_false_iff_not]; omega

/-- places keep their order through one map, leaning alike; and do not come behind e -/
theorem hit_low : ∀ (l : List Rg) (lean p d e : Int) (i : Nat), okG e l = true → e ≤ p → e + d ≤ (hitG lean p d i l).1.p
  | [], lean, p, d, e, i, _, hp => by simp [hitG, out]; omega
  | r :: l, lean, p, d, e, i, ho, hp => by
      simp only [okG, Bool.and_eq_true, decide_eq_true_eq] at ho
      obtain ⟨⟨h1, h2⟩, h3⟩ := ho
      simp only [okR, decide_eq_true_eq] at h1
      simp only [hitG]
      split
      · simp [out]; omega
      · split
        · have := hit_low l lean p (d + r.n - r.o) (r.a + r.o) (i + 1) h3 (by omega)
          omega
        · simp only [at1]; split <;> omega
theorem hit_mono : ∀ (l : List Rg) (lean p q d e : Int) (i : Nat), okG e l = true → p ≤ q → e ≤ p → (hitG lean p d i l).1.p ≤ (hitG lean q d i l).1.p
  | [], lean, p, q, d, e, i, _, hp, _ => by simp [hitG, out]; omega
  | r :: l, lean, p, q, d, e, i, ho, hp, hep => by
      simp only [okG, Bool.and_eq_true, decide_eq_true_eq] at ho
      obtain ⟨⟨h1, h2⟩, h3⟩ := ho
      simp only [okR, decide_eq_true_eq] at h1
      by_cases c1 : q < r.a
      · simp only [hitG]; rw [if_pos c1, if_pos (by omega)]; simp [out]; omega
      · by_cases c2 : r.a + r.o < p
        · simp only [hitG]
          rw [if_neg (by omega), if_pos c2, if_neg c1, if_pos (by omega)]
          exact hit_mono l lean p q _ (r.a + r.o) _ h3 hp (by omega)
        · have hlo : (hitG lean p d i (r :: l)).1.p ≤ r.a + d + r.n ∧ (p < r.a → (hitG lean p d i (r :: l)).1.p < r.a + d) := by
            simp only [hitG]
            split
            · simp [out]; omega
            · simp only [at1]; split <;> omega
          by_cases c3 : r.a + r.o < q
          · have := hit_low l lean q (d + r.n - r.o) (r.a + r.o) (i + 1) h3 (by omega)
            have e2 : (hitG lean q d i (r :: l)) = hitG lean q (d + r.n - r.o) (i + 1) l := by
              simp only [hitG]; rw [if_neg c1, if_pos c3]
            rw [e2]; omega
          · have e2 : (hitG lean q d i (r :: l)) = (at1 lean d q r, some i) := by
              simp only [hitG]; rw [if_neg c1, if_neg c3]
            rw [e2]
            by_cases c4 : p < r.a
            · have := hlo.2 c4
              simp only [at1]; split <;> omega
            · have e1 : (hitG lean p d i (r :: l)) = (at1 lean d p r, some i) := by
                simp only [hitG]; rw [if_neg c4, if_neg c2]
              rw [e1]; simp only [at1]; split <;> split <;> omega
end Go.Mps

/- Places through maps: the mathematics of chains. Of no program. -/
namespace Go.Mps
/-- a pair of places in the list -/
structure Mi where
  f : Int
  s : Int
deriving DecidableEq, Inhabited
def firstErr : List (List Rg) → Int
  | [] => 0
  | m :: l => if checkM m ≠ 0 then checkM m else firstErr l
def okMi (maps : List (List Rg)) (m : Mi) : Bool := decide (0 ≤ m.f ∧ m.f < m.s ∧ m.s < maps.length) && pairM (maps[m.f.toNat]?.getD []) (maps[m.s.toNat]?.getD [])
def apart (m o : Mi) : Bool := decide (m.f ≠ o.f ∧ m.f ≠ o.s ∧ m.s ≠ o.f ∧ m.s ≠ o.s)
def mirG (maps : List (List Rg)) : List Mi → List Mi → Bool
  | _, [] => true
  | seen, m :: l => okMi maps m && seen.all (apart m) && mirG maps (seen ++ [m]) l
def checkC (maps : List (List Rg)) (mirrors : List Mi) : Int :=
  if firstErr maps ≠ 0 then firstErr maps else if 256 < maps.length then 3 else if mirG maps [] mirrors then 0 else 2
def secondM : List Mi → Int → Int
  | [], _ => -1
  | m :: l, i => if m.f = i then m.s else secondM l i
def joinM (o v : Mv) : Mv := ⟨v.p, o.ahead || v.ahead, o.behind || v.behind, o.across || v.across, o.lost || v.lost⟩
def thG (maps : List (List Rg)) (mirrors : List Mi) (lean : Int) : Nat → Nat → Mv → Mv
  | 0, _, o => o
  | k + 1, i, o =>
    if i < maps.length then
      match hitG lean o.p 0 0 (maps[i]?.getD []) with
      | (v, some r) =>
        if 0 ≤ secondM mirrors i ∧ 0 < ((maps[i]?.getD [])[r]?.getD default).o then
          thG maps mirrors lean k ((secondM mirrors i).toNat + 1) { o with p := cameM (maps[(secondM mirrors i).toNat]?.getD []) r + o.p - ((maps[i]?.getD [])[r]?.getD default).a }
        else thG maps mirrors lean k (i + 1) (joinM o v)
      | (v, none) => thG maps mirrors lean k (i + 1) (joinM o v)
    else o
def throughM (maps : List (List Rg)) (mirrors : List Mi) (p lean : Int) : Mv :=
  if checkC maps mirrors ≠ 0 ∨ p < 0 ∨ 1048576 < p then out p else thG maps mirrors lean maps.length 0 (out p)

theorem checkM_zero {l : List Rg} : checkM l = 0 ↔ l.length ≤ 64 ∧ okG (-1) l = true := by
  unfold checkM; split
  · simp; omega
  · split
    · next h1 h2 => exact ⟨fun _ => ⟨by omega, h2⟩, fun _ => rfl⟩
    · next h1 h2 => exact ⟨fun h => by omega, fun h => absurd h.2 h2⟩
theorem turnM_of {l : List Rg} (h : checkM l = 0) : turnM l = turnG 0 l := by simp [turnM, h]
theorem turn_back {l : List Rg} (h : checkM l = 0) (h' : checkM (turnM l) = 0) : turnM (turnM l) = l := by
  rw [turnM_of h', turnM_of h]; exact turn_turn l 0
theorem delta_turn {l : List Rg} (h : checkM l = 0) (h' : checkM (turnM l) = 0) : deltaM l + deltaM (turnM l) = 0 := by
  simp only [deltaM, h, h']; rw [turnM_of h]; exact sum_turn l 0
theorem chain_turn {l : List Rg} (h : checkM l = 0) (h' : checkM (turnM l) = 0) : checkC [l, turnM l] [⟨0, 1⟩] = 0 := by
  have hp : pairM l (turnM l) = true := by rw [turnM_of h]; exact pair_turn l 0
  simp [checkC, firstErr, h, h', mirG, okMi, hp]
theorem there_back {l : List Rg} {p lean : Int} (h : checkM l = 0) (h' : checkM (turnM l) = 0) (hp : 0 ≤ p) (hq : p ≤ 524288) :
    0 ≤ (goM l p lean).p ∧ (throughM [l, turnM l] [⟨0, 1⟩] p lean).p = p ∧ (throughM [l, turnM l] [⟨0, 1⟩] p lean).lost = false ∧ (throughM [l, turnM l] [⟨0, 1⟩] p lean).across = false ∧
    ((goM l p lean).p ≤ 1048576 → touchM l p p = false → (goM (turnM l) (goM l p lean).p lean).p = p) := by
  have ho := (checkM_zero.mp h).2
  have eg : goM l p lean = (hitG lean p 0 0 l).1 := by
    unfold goM hitM; rw [if_neg (by omega)]
  have eth : throughM [l, turnM l] [⟨0, 1⟩] p lean = thG [l, turnM l] [⟨0, 1⟩] lean 2 0 (out p) := by
    unfold throughM; rw [if_neg (by rw [chain_turn h h']; omega)]; rfl
  have hlow := hit_low l lean p 0 (-1) 0 ho (by omega)
  have hlow0 : 0 ≤ (hitG lean p 0 0 l).1.p := by
    cases l with
    | nil => simp [hitG, out]; omega
    | cons r l =>
      simp only [okG, Bool.and_eq_true, decide_eq_true_eq] at ho
      obtain ⟨⟨h1, h2⟩, h3⟩ := ho
      simp only [okR, decide_eq_true_eq] at h1
      simp only [hitG]
      split
      · simp [out]; omega
      · split
        · have ht := (checkM_zero.mp h').2
          rw [turnM_of h] at ht
          simp only [turnG, okG, Bool.and_eq_true] at ht
          have := hit_low l lean p (0 + r.n - r.o) (r.a + r.o) (0 + 1) h3 (by omega)
          omega
        · simp only [at1]; split <;> omega
  rw [eg, eth]
  have hA : (out p).p = p := rfl
  cases hh : hitG lean p 0 0 l with
  | mk v j =>
  rw [hh] at hlow0
  cases j with
  | none =>
    obtain ⟨b1, b2, b3⟩ := back_none l lean p 0 (-1) 0 v ho (by omega) hh
    have b3' := b3 0
    rw [Int.neg_zero, ← turnM_of h] at b3'
    have e2 : thG [l, turnM l] [⟨0, 1⟩] lean 2 0 (out p) = joinM (joinM (out p) v) (out p) := by
      unfold thG
      simp only [List.length_cons, List.length_nil, List.getElem?_cons_zero, Option.getD_some, hA, hh]
      unfold thG
      simp only [List.length_cons, List.length_nil, List.getElem?_cons_succ, List.getElem?_cons_zero, Option.getD_some, joinM, b3']
      rfl
    rw [e2, b1]
    refine ⟨by rw [b1] at hlow0; exact hlow0, rfl, rfl, rfl, fun hm ht => ?_⟩
    have : goM (turnM l) v.p lean = (hitG lean v.p 0 0 (turnM l)).1 := by
      unfold goM hitM; rw [if_neg (by simp only [out] at hm; omega)]
    show (goM (turnM l) v.p lean).p = p
    rw [this, b3']; rfl
  | some j =>
    obtain ⟨_, hj, a1, a2, a3⟩ := hit_at l lean p 0 0 j v hh
    simp only [Nat.sub_zero] at hj a1 a2 a3
    have htouch : touchM l p p = true := by
      simp only [touchM, h]
      simp only [ne_eq, not_true_eq_false, if_false, List.any_eq_true, Bool.and_eq_true, decide_eq_true_eq]
      exact ⟨l[j], List.getElem_mem hj, a1, a2⟩
    refine ⟨hlow0, ?_⟩
    rw [htouch]
    simp only [Bool.true_eq_false, false_implies, implies_true, and_true]
    have hl : l[j]?.getD default = l[j] := by rw [List.getElem?_eq_getElem hj]; rfl
    by_cases hz : 0 < l[j].o
    · have e2 : thG [l, turnM l] [⟨0, 1⟩] lean 2 0 (out p) = out p := by
        unfold thG
        simp only [List.length_cons, List.length_nil, List.getElem?_cons_zero, Option.getD_some, hA, hh]
        rw [if_pos (by omega), if_pos (by rw [hl]; exact ⟨by decide, hz⟩)]
        unfold thG
        have hc := came_turn l 0 j hj
        simp only [secondM] at *
        have : cameM (turnM l) j = l[j].a := by unfold cameM; rw [turnM_of h, hc]; omega
        simp [this, hl, out]
        omega
      rw [e2]; exact ⟨rfl, rfl, rfl⟩
    · have hokj : 0 ≤ l[j].o := by
        have : ∀ (l : List Rg) (e : Int) (j : Nat) (h : j < l.length), okG e l = true → 0 ≤ l[j].o := by
          intro l
          induction l with
          | nil => intro e j h; simp at h
          | cons r l ih =>
            intro e j h ho
            simp only [okG, Bool.and_eq_true, decide_eq_true_eq] at ho
            cases j with
            | zero => have := ho.1.1; simp only [okR, decide_eq_true_eq] at this; simp; omega
            | succ j => simpa using ih _ j (by simpa using h) ho.2
        exact this l (-1) j hj ho
      obtain ⟨b1, b2, b3, b4, b5, b6⟩ := back_some l lean p 0 (-1) 0 j v ho (by omega) hh (by intro _; simp only [Nat.sub_zero]; omega)
      obtain ⟨u, k, c1, c2, c3, c4⟩ := b6 0
      rw [Int.neg_zero, ← turnM_of h] at c1
      have e2 : thG [l, turnM l] [⟨0, 1⟩] lean 2 0 (out p) = joinM (joinM (out p) v) u := by
        unfold thG
        simp only [List.length_cons, List.length_nil, List.getElem?_cons_zero, Option.getD_some, hA, hh]
        rw [if_pos (by omega), if_neg (by rw [hl]; omega)]
        unfold thG
        simp only [List.length_cons, List.length_nil, List.getElem?_cons_succ, List.getElem?_cons_zero, Option.getD_some, joinM, c1]
        rw [if_pos (by omega), if_neg (by simp [secondM])]
        rfl
      rw [e2]
      simp [joinM, c2, c3, c4, b2, b3, out]

theorem mono_thG (maps : List (List Rg)) (lean : Int) (ho : ∀ m ∈ maps, okG (-1) m = true) : ∀ (k i : Nat) (o q : Mv), -1 ≤ o.p → o.p ≤ q.p → (thG maps [] lean k i o).p ≤ (thG maps [] lean k i q).p := by
  intro k
  induction k with
  | zero => intro i o q _ h; exact h
  | succ k ih =>
    intro i o q hm h
    unfold thG
    split
    · next hi =>
      have hmem : okG (-1) (maps[i]?.getD []) = true := by
        rw [List.getElem?_eq_getElem hi]; exact ho _ (List.getElem_mem hi)
      have h1 := hit_mono (maps[i]?.getD []) lean o.p q.p 0 (-1) 0 hmem h hm
      have h2 := hit_low (maps[i]?.getD []) lean o.p 0 (-1) 0 hmem hm
      have e : ∀ (x : Mv), (match hitG lean x.p 0 0 (maps[i]?.getD []) with
        | (v, some r) =>
          if 0 ≤ secondM [] (i : Int) ∧ 0 < ((maps[i]?.getD [])[r]?.getD default).o then
            thG maps [] lean k ((secondM [] (i : Int)).toNat + 1) { x with p := cameM (maps[(secondM [] (i : Int)).toNat]?.getD []) r + x.p - ((maps[i]?.getD [])[r]?.getD default).a }
          else thG maps [] lean k (i + 1) (joinM x v)
        | (v, none) => thG maps [] lean k (i + 1) (joinM x v)) = thG maps [] lean k (i + 1) (joinM x (hitG lean x.p 0 0 (maps[i]?.getD [])).1) := by
        intro x
        cases hitG lean x.p 0 0 (maps[i]?.getD []) with
        | mk v j => cases j with
          | none => rfl
          | some j => simp [secondM]
      rw [e o, e q]
      exact ih (i + 1) _ _ (by simp only [joinM]; omega) (by simpa only [joinM] using h1)
    · exact h
theorem firstErr_zero : ∀ (l : List (List Rg)), firstErr l = 0 → ∀ m ∈ l, checkM m = 0
  | [], _, m, h => by simp at h
  | a :: l, h, m, hm => by
      simp only [firstErr] at h
      split at h
      · contradiction
      · next hz =>
        rcases List.mem_cons.mp hm with rfl | hm
        · exact Decidable.not_not.mp hz
        · exact firstErr_zero l h m hm
theorem keeps_order {maps : List (List Rg)} {a b lean : Int} (hc : checkC maps [] = 0) (ha : 0 ≤ a) (hab : a ≤ b) (hb : b ≤ 1048576) :
    (throughM maps [] a lean).p ≤ (throughM maps [] b lean).p := by
  have hf : firstErr maps = 0 := by
    unfold checkC at hc
    split at hc
    · contradiction
    · next h => exact Decidable.not_not.mp h
  unfold throughM
  rw [if_neg (by omega), if_neg (by omega)]
  exact mono_thG maps lean (fun m hm => (checkM_zero.mp (firstErr_zero maps hf m hm)).2) _ _ _ _ (by simp [out]; omega) (by simpa [out] using hab)
end Go.Mps

/- Places through maps: slices of ranges, as they are read. -/
namespace Go.Proofs.Ytiilbgejdpnfpaa
open Go.RowKit Go.Mps

def iV (x : Int) : Value := .int .i64 x
def rgC : List Rg → List Value
  | [] => []
  | r :: l => iV r.a :: iV r.o :: iV r.n :: rgC l
theorem rgC_len : ∀ l : List Rg, (rgC l).length = l.length * 3
  | [] => rfl
  | r :: l => by simp only [rgC, List.length_cons, rgC_len l]; omega
theorem rgC_get : ∀ (l : List Rg) (k : Nat) (h : k < l.length), (rgC l)[k * 3]? = some (iV l[k].a) ∧ (rgC l)[k * 3 + 1]? = some (iV l[k].o) ∧ (rgC l)[k * 3 + 1 + 1]? = some (iV l[k].n)
  | [], k, h => by simp at h
  | r :: l, 0, _ => ⟨rfl, rfl, rfl⟩
  | r :: l, k + 1, h => by
    have ih := rgC_get l k (by simpa using h)
    have e : (k + 1) * 3 = k * 3 + 1 + 1 + 1 := by omega
    rw [e]
    simpa [rgC] using ih
theorem rgC_app : ∀ (l m : List Rg), rgC (l ++ m) = rgC l ++ rgC m
  | [], _ => rfl
  | r :: l, m => by simp [rgC, rgC_app l m]
/-- slice v has the ranges l, below block B -/
def Rgs (w : World) (B : Nat) (v : Value) (l : List Rg) : Prop := Rd w B v 3 l.length (rgC l)
/-- numbers that a machine word holds -/
def wd (x : Int) : Prop := -9223372036854775808 ≤ x ∧ x ≤ 9223372036854775807
def wdR (r : Rg) : Prop := wd r.a ∧ wd r.o ∧ wd r.n
section
variable {w w' : World} {B B' : Nat} {v : Value} {l : List Rg}
theorem Rgs.below (h : Rgs w B v l) (hb : Below B w w') : Rgs w' B v l := Rd.below h hb
theorem Rgs.mono (h : Rgs w B v l) (hB : B ≤ B') : Rgs w B' v l := Rd.mono h hB
theorem Rgs.form (h : Rgs w B v l) : ∃ A cap, v = .slice A l.length cap := Rd.form h
theorem Rgs.max (h : Rgs w B v l) : l.length ≤ maxLen := Rd.max h
/-- range k -/
theorem Rgs.at {A : Option Addr} {cap : Nat} (h : Rgs w B (.slice A l.length cap) l) {k : Nat} (hk : k < l.length) :
    ∃ b off, A = some ⟨b, off, none⟩ ∧ b < B ∧ l.length ≤ cap ∧ w.cell? ⟨b, off + k * 3, none⟩ = some (.int .i64 l[k].a) ∧ w.cell? ⟨b, off + k * 3 + 1, none⟩ = some (.int .i64 l[k].o) ∧ w.cell? ⟨b, off + k * 3 + 1 + 1, none⟩ = some (.int .i64 l[k].n) := by
  obtain ⟨b, off, hA, hb, hc, hg⟩ := Rd.at h (by omega)
  obtain ⟨g1, g2, g3⟩ := rgC_get l k hk
  refine ⟨b, off, hA, hb, hc, hg _ _ g1, ?_, ?_⟩
  · have := hg _ _ g2; rwa [← Nat.add_assoc] at this
  · have := hg _ _ g3; rwa [← Nat.add_assoc, ← Nat.add_assoc] at this
end
def endG : Int → List Rg → Int
  | e, [] => e
  | _, r :: l => endG (r.a + r.o) l
theorem endG_app : ∀ (l : List Rg) (e : Int) (r : Rg), endG e (l ++ [r]) = r.a + r.o
  | [], _, _ => rfl
  | _ :: l, _, r => endG_app l _ r
theorem okG_app : ∀ (l : List Rg) (e : Int) (r : Rg), okG e (l ++ [r]) = (okG e l && (okR r && decide (endG e l < r.a)))
  | [], e, r => by
    show (okR r && decide (e < r.a) && true) = (true && (okR r && decide (e < r.a)))
    rw [Bool.and_true, Bool.true_and]
  | x :: l, e, r => by
    show (okR x && decide (e < x.a) && okG (x.a + x.o) (l ++ [r])) = (okR x && decide (e < x.a) && okG (x.a + x.o) l && (okR r && decide (endG (x.a + x.o) l < r.a)))
    rw [okG_app l, Bool.and_assoc (okR x && decide (e < x.a))]
/-- where the range ahead of k ends -/
def lastE (l : List Rg) (k : Nat) : Int := endG (-1) (l.take k)
theorem lastE_zero (l : List Rg) : lastE l 0 = -1 := rfl
theorem lastE_succ (l : List Rg) {k : Nat} (h : k < l.length) : lastE l (k + 1) = l[k].a + l[k].o := by
  unfold lastE; rw [List.take_succ_eq_append_getElem h, endG_app]
theorem okG_succ (l : List Rg) {k : Nat} (h : k < l.length) : okG (-1) (l.take (k + 1)) = (okG (-1) (l.take k) && (okR l[k] && decide (lastE l k < l[k].a))) := by
  rw [List.take_succ_eq_append_getElem h, okG_app]; rfl
theorem okG_pre (l : List Rg) : ∀ (m : List Rg) (e : Int), okG e (l ++ m) = true → okG e l = true := by
  induction l with
  | nil => intro m e _; rfl
  | cons r l ih =>
    intro m e h
    rw [List.cons_append, okG] at h
    rw [okG]
    simp only [Bool.and_eq_true] at h ⊢
    exact ⟨h.1, ih m _ h.2⟩
theorem okG_no {l : List Rg} {k : Nat} (h : okG (-1) (l.take k) = false) : okG (-1) l = false := by
  cases hb : okG (-1) l with
  | false => rfl
  | true =>
    have := okG_pre (l.take k) (l.drop k) (-1) (by rw [List.take_append_drop]; exact hb)
    rw [this] at h; cases h
theorem okR_of_mem : ∀ {l : List Rg} {e : Int}, okG e l = true → ∀ r ∈ l, okR r = true
  | [], _, _, r, hr => by cases hr
  | x :: l, e, h, r, hr => by
    rw [okG] at h
    simp only [Bool.and_eq_true] at h
    rcases List.mem_cons.1 hr with rfl | hr
    · exact h.1.1
    · exact okR_of_mem h.2 r hr
theorem okR_iff (r : Rg) : okR r = true ↔ 0 ≤ r.a ∧ r.a ≤ 1048576 ∧ 0 ≤ r.o ∧ r.o ≤ 1048576 ∧ 0 ≤ r.n ∧ r.n ≤ 1048576 ∧ r.o + r.n ≠ 0 := by unfold okR; simp
end Go.Proofs.Ytiilbgejdpnfpaa

/- Places through maps: what the walks rest on. -/
namespace Go.Proofs.Ytiilbgejdpnfpaa
open Go.RowKit Go.Mps
theorem blN {B : Nat} {a w : World} (h : Below B a w) (n : Nat) : Below B a (w.drewN n) := ⟨h.os, h.tape, h.output, h.size, h.block⟩
def mvV (m : Mv) : Value := .agg #[.int .i64 m.p, .bool m.ahead, .bool m.behind, .bool m.across, .bool m.lost]
def ixI : Option Nat → Int
  | none => -1
  | some j => (j : Int)
theorem ret_int {x y : Int} (h : x = y) : Ending.returned (.int .i64 x) = .returned (.int .i64 y) := by rw [h]
theorem ret_bool {x y : Bool} (h : x = y) : Ending.returned (.bool x) = .returned (.bool y) := by rw [h]
theorem ret_tup {a b : Value} {x y : Value} (h : a = x) (h2 : b = y) : Ending.returned (.tuple #[a, b]) = .returned (.tuple #[x, y]) := by rw [h, h2]
end Go.Proofs.Ytiilbgejdpnfpaa

/- Places through maps: what holds on the way through a chain. Of no program. -/
namespace Go.Proofs.Ytiilbgejdpnfpaa
open Go.RowKit Go.Mps

/-- a place goes no further than this -/
theorem hit_bound : ∀ (l : List Rg) (lean p d D : Int) (i : Nat), (∀ r ∈ l, okR r = true) → -D ≤ d → d ≤ D →
    p - D - 1048576 * ((l.length : Int) + 2) ≤ (hitG lean p d i l).1.p ∧ (hitG lean p d i l).1.p ≤ p + D + 1048576 * ((l.length : Int) + 2)
  | [], lean, p, d, D, i, _, h1, h2 => by
    show p - D - _ ≤ p + d ∧ p + d ≤ _
    simp only [List.length_nil]; omega
  | r :: l, lean, p, d, D, i, hr, h1, h2 => by
    have hk := (okR_iff r).1 (hr r List.mem_cons_self)
    have ih := hit_bound l lean p (d + r.n - r.o) (D + 1048576) (i + 1) (fun x hx => hr x (List.mem_cons_of_mem _ hx)) (by omega) (by omega)
    rw [hitG]
    simp only [List.length_cons] at ih ⊢
    split
    · show p - D - _ ≤ p + d ∧ p + d ≤ _; omega
    · split
      · omega
      · show p - D - _ ≤ (at1 lean d p r).p ∧ (at1 lean d p r).p ≤ _
        unfold at1
        dsimp only
        split <;> omega
/-- the range that a place stands in is there -/
theorem hit_there {l : List Rg} {lean p : Int} {v : Mv} {j : Nat} (h : hitG lean p 0 0 l = (v, some j)) : j < l.length := by
  obtain ⟨_, h2, _⟩ := hit_at l lean p 0 0 j v h
  omega
theorem second_in : ∀ (l : List Mi) (i : Int), secondM l i = -1 ∨ ∃ m ∈ l, m.f = i ∧ m.s = secondM l i
  | [], _ => .inl rfl
  | m :: l, i => by
    rw [secondM]
    split
    · next h => exact .inr ⟨m, List.mem_cons_self, h, rfl⟩
    · rcases second_in l i with h | ⟨x, hx, h⟩
      · exact .inl h
      · exact .inr ⟨x, List.mem_cons_of_mem _ hx, h⟩
theorem mir_all (ms : List (List Rg)) : ∀ (l seen : List Mi), mirG ms seen l = true → ∀ m ∈ l, okMi ms m = true
  | [], _, _, m, hm => by cases hm
  | x :: l, seen, h, m, hm => by
    rw [mirG] at h
    simp only [Bool.and_eq_true] at h
    rcases List.mem_cons.1 hm with rfl | hm
    · exact h.1.1
    · exact mir_all ms l _ h.2 m hm
theorem checkC_zero {ms : List (List Rg)} {l : List Mi} (h : checkC ms l = 0) : firstErr ms = 0 ∧ ms.length ≤ 256 ∧ ∀ m ∈ l, okMi ms m = true := by
  unfold checkC at h
  split at h
  · contradiction
  · next h1 =>
    split at h
    · omega
    · next h2 =>
      split at h
      · next h3 => exact ⟨Decidable.not_not.1 h1, by omega, mir_all ms l [] h3⟩
      · omega
theorem pair_lens {l m : List Rg} (h : pairM l m = true) : l.length = m.length := by
  induction l generalizing m with
  | nil => cases m with
    | nil => rfl
    | cons => simp [pairM] at h
  | cons a l ih => cases m with
    | nil => simp [pairM] at h
    | cons b m =>
      rw [pairM, Bool.and_eq_true] at h
      simp [ih h.2]
/-- where the mirror of map i leads -/
theorem mirror_there {ms : List (List Rg)} {l : List Mi} (h : checkC ms l = 0) {i : Nat} (hs : 0 ≤ secondM l i) : ∃ s : Nat, secondM l i = s ∧ ∃ (h1 : i < s) (h2 : s < ms.length), (ms[i]'(Nat.lt_trans h1 h2)).length = ms[s].length := by
  obtain ⟨_, _, hm⟩ := checkC_zero h
  rcases second_in l i with h1 | ⟨m, hin, h1, h2⟩
  · omega
  · have hk := hm m hin
    unfold okMi at hk
    rw [Bool.and_eq_true, decide_eq_true_eq] at hk
    obtain ⟨⟨a1, a2, a3⟩, a4⟩ := hk
    refine ⟨(secondM l i).toNat, by omega, by omega, by omega, ?_⟩
    have e1 : m.f.toNat = i := by omega
    have e2 : m.s.toNat = (secondM l i).toNat := by omega
    rw [e1, e2] at a4
    have := pair_lens a4
    rw [List.getElem?_eq_getElem (show i < ms.length by omega), List.getElem?_eq_getElem (show (secondM l i).toNat < ms.length by omega)] at this
    exact this
theorem sum_bound : ∀ l : List Rg, (∀ r ∈ l, okR r = true) → -(1048576 * (l.length : Int)) ≤ sumM l ∧ sumM l ≤ 1048576 * (l.length : Int)
  | [], _ => by simp [sumM]
  | r :: l, h => by
    have hk := (okR_iff r).1 (h r List.mem_cons_self)
    have ih := sum_bound l fun x hx => h x (List.mem_cons_of_mem _ hx)
    rw [sumM, List.length_cons]
    omega
theorem came_bound {l : List Rg} (h : ∀ r ∈ l, okR r = true) {i : Nat} (hi : i < l.length) : -(1048576 * (l.length : Int)) ≤ cameM l i ∧ cameM l i ≤ 1048576 * ((l.length : Int) + 1) := by
  have h1 := (okR_iff l[i]).1 (h _ (List.getElem_mem hi))
  have h2 := sum_bound (l.take i) fun r hr => h r (List.mem_of_mem_take hr)
  rw [List.length_take, Nat.min_eq_left (by omega)] at h2
  unfold cameM
  rw [List.getElem?_eq_getElem hi]
  show -(1048576 * (l.length : Int)) ≤ l[i].a + _ ∧ l[i].a + _ ≤ _
  omega
end Go.Proofs.Ytiilbgejdpnfpaa

/- Places through maps: the reference's Check. -/
namespace Go.Proofs.Ytiilbgejdpnfpaa
open Go.RowKit Go.Mps

set_option maxRecDepth 100000 in
set_option maxHeartbeats 1000000 in
theorem refMpCheck_any (v : Value) (l : List Rg) (B : Nat) (w : World) (hv : Rgs w B v l) (hB : B ≤ w.heap.size) :
    Calls Try.prog 13 #[v] w fun e w' => e = .returned (.int .i64 (checkM l)) ∧ Below w.heap.size w w' := by
  obtain ⟨A, cap, rfl⟩ := hv.form
  have hm := hv.max
  unfold maxLen at hm
  obtain ⟨z, hz⟩ : ∃ z, Hid (z = checkM l) := ⟨_, rfl⟩
  rw [← hz.out]
  by_cases h64 : 64 < l.length
  · have hf : Hid (z = 3) := by show _ = _; rw [hz.out]; unfold checkM; rw [if_pos h64]
    have h1 : (64 : Int) < (l.length : Int) := by omega
    go_enter Try.func13, Try.ntmps13
    go_wp2
    go_ret
    exact ⟨by rw [hf.out]; rfl, Below.refl _ _⟩
  · have h1 : (l.length : Int) ≤ 64 := by omega
    have HV := Lib.hid (fun w' (h : Below w.heap.size w w') => hv.below (h.mono hB))
    have hbad : ∀ k : Nat, Hid (okG (-1) (l.take k) = false → z = 2) := fun k h => by rw [hz.out]; unfold checkM; rw [if_neg h64, if_neg (by rw [okG_no h]; simp)]
    have hgood : Hid (okG (-1) (l.take l.length) = true → z = 0) := fun h => by rw [List.take_length] at h; rw [hz.out]; unfold checkM; rw [if_neg h64, if_pos h]
    clear hv hz
    go_enter Try.func13, Try.ntmps13
    go_wp2
    go_loopw [3] (fun x wr => ∃ k : Nat, k ≤ l.length ∧ x = .int .i64 k ∧ Hid (okG (-1) (l.take k) = true) ∧ Below w.heap.size w wr) (fun x _ => l.length - (intOf x).toNat)
    case atStart => exact ⟨0, Nat.zero_le _, rfl, rfl, Below.refl _ _⟩
    case round =>
      obtain ⟨k, hk, rfl, hok, hb⟩ := hrel
      by_cases hlt : k < l.length
      · have hkI : (k : Int) < (l.length : Int) := by omega
        have hk0 : (0 : Int) ≤ k := by omega
        obtain ⟨b, off, rfl, hbB, hcap, c0, c1, c2⟩ := (HV.out _ hb).at hlt
        have hsz := hb.size
        have hbw : b < wr.heap.size := by omega
        have hsucc := Lib.hid (okG_succ l hlt)
        obtain ⟨a, ha⟩ : ∃ a, Hid (a = l[k].a) := ⟨l[k].a, Lib.hid rfl⟩
        obtain ⟨o, ho⟩ : ∃ o, Hid (o = l[k].o) := ⟨l[k].o, Lib.hid rfl⟩
        obtain ⟨n, hn⟩ : ∃ n, Hid (n = l[k].n) := ⟨l[k].n, Lib.hid rfl⟩
        rw [← ha.out] at c0
        rw [← ho.out] at c1
        rw [← hn.out] at c2
        have hiff := okR_iff l[k]
        rw [← ha.out, ← ho.out, ← hn.out] at hiff
        have hno : Hid (¬ (0 ≤ a ∧ a ≤ 1048576 ∧ 0 ≤ o ∧ o ≤ 1048576 ∧ 0 ≤ n ∧ n ≤ 1048576 ∧ o + n ≠ 0 ∧ lastE l k < a) → z = 2) := fun h => (hbad (k + 1)).out (by
          rw [hsucc.out, ← ha.out]
          cases h1 : okR l[k] with
          | false => simp
          | true =>
            have := hiff.1 h1
            rw [decide_eq_false (fun h2 => h ⟨this.1, this.2.1, this.2.2.1, this.2.2.2.1, this.2.2.2.2.1, this.2.2.2.2.2.1, this.2.2.2.2.2.2, h2⟩)]; simp)
        have hyes : Hid ((0 ≤ a ∧ a ≤ 1048576 ∧ 0 ≤ o ∧ o ≤ 1048576 ∧ 0 ≤ n ∧ n ≤ 1048576 ∧ o + n ≠ 0) → lastE l k < a → okG (-1) (l.take (k + 1)) = true) := fun h h2 => by
          rw [hsucc.out, ← ha.out, hok.out, hiff.2 h, decide_eq_true h2]; rfl
        clear hiff hsucc ha ho hn
        by_cases x8 : a < 0
        · have hf : Hid (z = 2) := hno.out (by omega)
          clear hno hyes 
          go_wp2
          go_quiet (fail)
          go_wp2
          go_ret
          exact ⟨by rw [hf.out]; rfl, blN (hb.alloc hsz _) _⟩
        · have d8 : decide (a < 0) = false := decide_eq_false x8
          replace x8 : 0 ≤ a := by omega
          by_cases x10 : 1048576 < a
          · have hf : Hid (z = 2) := hno.out (by omega)
            clear hno hyes x8
            go_wp2
            go_quiet (fail)
            go_wp2
            go_ret
            exact ⟨by rw [hf.out]; rfl, blN (hb.alloc hsz _) _⟩
          · have d10 : decide (1048576 < a) = false := decide_eq_false x10
            replace x10 : a ≤ 1048576 := by omega
            by_cases x12 : o < 0
            · have hf : Hid (z = 2) := hno.out (by omega)
              clear hno hyes x8 x10
              go_wp2
              go_quiet (fail)
              go_wp2
              go_ret
              exact ⟨by rw [hf.out]; rfl, blN (hb.alloc hsz _) _⟩
            · have d12 : decide (o < 0) = false := decide_eq_false x12
              replace x12 : 0 ≤ o := by omega
              by_cases x14 : 1048576 < o
              · have hf : Hid (z = 2) := hno.out (by omega)
                clear hno hyes x8 x10 x12
                go_wp2
                go_quiet (fail)
                go_wp2
                go_ret
                exact ⟨by rw [hf.out]; rfl, blN (hb.alloc hsz _) _⟩
              · have d14 : decide (1048576 < o) = false := decide_eq_false x14
                replace x14 : o ≤ 1048576 := by omega
                by_cases x16 : n < 0
                · have hf : Hid (z = 2) := hno.out (by omega)
                  clear hno hyes x8 x10 x12 x14
                  go_wp2
                  go_quiet (fail)
                  go_wp2
                  go_ret
                  exact ⟨by rw [hf.out]; rfl, blN (hb.alloc hsz _) _⟩
                · have d16 : decide (n < 0) = false := decide_eq_false x16
                  replace x16 : 0 ≤ n := by omega
                  by_cases x18 : 1048576 < n
                  · have hf : Hid (z = 2) := hno.out (by omega)
                    clear hno hyes x8 x10 x12 x14 x16
                    go_wp2
                    go_quiet (fail)
                    go_wp2
                    go_ret
                    exact ⟨by rw [hf.out]; rfl, blN (hb.alloc hsz _) _⟩
                  · have d18 : decide (1048576 < n) = false := decide_eq_false x18
                    replace x18 : n ≤ 1048576 := by omega
                    have hw : IntKind.i64.wrap (o + n) = o + n := IntWalk.i64_in _ (by omega)
                    by_cases y1 : o + n = 0
                    · have hf : Hid (z = 2) := hno.out (by omega)
                      clear hno hyes x8 x10 x12 x14 x16 x18
                      go_wp2
                      go_quiet (fail)
                      go_wp2
                      go_ret
                      exact ⟨by rw [hf.out]; rfl, blN (hb.alloc hsz _) _⟩
                    · have y2 : (o + n == 0) = false := beq_eq_false_iff_ne.2 y1
                      by_cases k0 : k = 0
                      · subst k0
                        simp only [Nat.zero_mul, Nat.add_zero] at c0 c1 c2
                        have hf := Lib.hid (hyes.out ⟨by omega, by omega, by omega, by omega, by omega, by omega, y1⟩ (by rw [lastE_zero]; omega))
                        clear hno hyes y1 x8 x10 x12 x14 x16 x18
                        go_wp2
                        go_quiet (fail)
                        go_wp2
                        go_roundw
                        case rel => exact ⟨1, by omega, by go_num, hf, blN (hb.alloc hsz _) _⟩
                        case measure => simp [intOf]; omega
                      · obtain ⟨m, rfl⟩ : ∃ m, k = m + 1 := ⟨k - 1, by omega⟩
                        have k1 : (0 : Int) < (m : Int) + 1 := by omega
                        have k2 : IntKind.i64.wrap (m : Int) = (m : Int) := IntWalk.i64_in _ (by omega)
                        have k3 : (m : Int) < (l.length : Int) := by omega
                        have hlast := Lib.hid (lastE_succ l (k := m) (by omega))
                        have hpre := okR_of_mem hok.out l[m] (by rw [List.mem_take_iff_getElem]; exact ⟨m, by omega, rfl⟩)
                        rw [okR_iff] at hpre
                        obtain ⟨b2, off2, e2, _, _, g0, g1, _⟩ := (HV.out _ hb).at (k := m) (by omega)
                        simp only [Option.some.injEq, Addr.mk.injEq, and_true] at e2
                        obtain ⟨rfl, rfl⟩ := e2
                        obtain ⟨pa, hpa⟩ : ∃ x, Hid (x = l[m].a) := ⟨l[m].a, Lib.hid rfl⟩
                        obtain ⟨po, hpo⟩ : ∃ x, Hid (x = l[m].o) := ⟨l[m].o, Lib.hid rfl⟩
                        rw [← hpa.out, ← hpo.out] at hpre
                        have hlast : Hid (lastE l (m + 1) = pa + po) := by show _ = _; rw [hlast.out, hpa.out, hpo.out]
                        rw [← hpa.out] at g0
                        rw [← hpo.out] at g1
                        have hw2 : IntKind.i64.wrap (pa + po) = pa + po := IntWalk.i64_in _ (by omega)
                        clear hpre hpa hpo
                        by_cases y3 : pa + po < a
                        · have hf := Lib.hid (hyes.out ⟨by omega, by omega, by omega, by omega, by omega, by omega, y1⟩ (by rw [hlast.out]; exact y3))
                          have y4 : decide (a ≤ pa + po) = false := decide_eq_false (by omega)
                          clear hno hyes y1 hlast y3 x8 x10 x12 x14 x16 x18
                          go_wp2
                          go_quiet (fail)
                          go_wp2
                          go_roundw
                          case rel => exact ⟨m + 1 + 1, by omega, by go_num, hf, blN (hb.alloc hsz _) _⟩
                          case measure => simp [intOf]; omega
                        · have y4 : a ≤ pa + po := by omega
                          have hf : Hid (z = 2) := hno.out (by rw [hlast.out]; omega)
                          clear hno hyes y1 hlast y3 x8 x10 x12 x14 x16 x18
                          go_wp2
                          go_quiet (fail)
                          go_wp2
                          go_ret
                          exact ⟨by rw [hf.out]; rfl, blN (hb.alloc hsz _) _⟩
      · obtain rfl : k = l.length := by omega
        have hf : Hid (z = 0) := hgood hok.out
        go_wp2
        go_ret
        exact ⟨by rw [hf.out]; rfl, hb⟩
end Go.Proofs.Ytiilbgejdpnfpaa

/- Places through maps: where a place comes to, by the reference. -/
namespace Go.Proofs.Ytiilbgejdpnfpaa
open Go.RowKit Go.Mps

theorem hitG_out {lean p d : Int} {i : Nat} {r : Rg} {l : List Rg} (h : p < r.a) : hitG lean p d i (r :: l) = (out (p + d), none) := by rw [hitG, if_pos h]
theorem hitG_on {lean p d : Int} {i : Nat} {r : Rg} {l : List Rg} (h : ¬ p < r.a) (h2 : r.a + r.o < p) : hitG lean p d i (r :: l) = hitG lean p (d + r.n - r.o) (i + 1) l := by rw [hitG, if_neg h, if_pos h2]
theorem hitG_in {lean p d : Int} {i : Nat} {r : Rg} {l : List Rg} (h : ¬ p < r.a) (h2 : ¬ r.a + r.o < p) : hitG lean p d i (r :: l) = (at1 lean d p r, some i) := by rw [hitG, if_neg h, if_neg h2]
theorem at1_eq {lean d p a o n pl : Int} {b1 b2 b3 b4 : Bool} {k : Nat} (h1 : decide (a < p) = b1) (h2 : decide (p < a + o) = b2) (h3 : (b1 && b2) = b3) (h4 : ((decide (lean < 0) && b1) || (decide (0 ≤ lean) && b2)) = b4)
    (hp : a + d + (if (0 < o ∧ p = a + o) ∨ ((¬ (0 < o ∧ p = a)) ∧ 0 ≤ lean) then n else 0) = pl) : (at1 lean d p ⟨a, o, n⟩, some k) = ((⟨pl, b1, b2, b3, b4⟩ : Mv), some k) := by
  subst h1; subst h2; subst h3; subst h4; subst hp
  simp [at1, Bool.decide_and, Bool.decide_or]
theorem below_al2 {w W : World} (h : Below w.heap.size w W) (o o2 : Obj) : Below w.heap.size w ((W.alloc o).alloc o2) := (h.alloc h.size o).alloc (by have := h.size; simp; omega) o2
theorem Bk.mv {W : World} {g : Nat} {t : TypeId} {c0 c1 c2 c3 c4 : Value} (h : Bk W g t #[c0, c1, c2, c3, c4]) (v0 v1 v2 v3 v4 : Value) :
    Bk (((((W.setCell ⟨g, 0, none⟩ v0).setCell ⟨g, 1, none⟩ v1).setCell ⟨g, 2, none⟩ v2).setCell ⟨g, 3, none⟩ v3).setCell ⟨g, 4, none⟩ v4) g t #[v0, v1, v2, v3, v4] := by
  have := ((((h.set 0 v0).set 1 v1).set 2 v2).set 3 v3).set 4 v4
  simpa using this
theorem below_mv {n g : Nat} {a W : World} (h : Below n a W) (hg : n ≤ g) (v0 v1 v2 v3 v4 : Value) :
    Below n a (((((W.setCell ⟨g, 0, none⟩ v0).setCell ⟨g, 1, none⟩ v1).setCell ⟨g, 2, none⟩ v2).setCell ⟨g, 3, none⟩ v3).setCell ⟨g, 4, none⟩ v4) :=
  ((((h.setCell (p := ⟨g, 0, none⟩) hg v0).setCell (p := ⟨g, 1, none⟩) hg v1).setCell (p := ⟨g, 2, none⟩) hg v2).setCell (p := ⟨g, 3, none⟩) hg v3).setCell (p := ⟨g, 4, none⟩) hg v4
theorem mv_ret {w0 W : World} {g : Nat} {fn : Func} {a : Act} {z : Mv × Option Nat} {m : Mv} {j : Option Nat} (hf : fn.results = #[.cell 6 27, .tmp 7]) (h2 : a.tmps.getD 6 undef = .pointer (some ⟨g, 0, none⟩)) (h3 : a.tmps.getD 7 undef = .int .i64 (ixI j)) (hd : a.defers = [])
    (hz : Hid (z = (m, j))) (hk : Bk W g 27 #[.int .i64 m.p, .bool m.ahead, .bool m.behind, .bool m.across, .bool m.lost]) (hb : Below w0.heap.size w0 W) :
    bodyPost Try.prog fn (fun e w' => e = .returned (.tuple #[mvV z.1, .int .i64 (ixI z.2)]) ∧ Below w0.heap.size w0 w') .ret a W := by
  have x0 := hk.cell 0
  have x1 := hk.cell 1
  have x2 := hk.cell 2
  have x3 := hk.cell 3
  have x4 := hk.cell 4
  simp at x0 x1 x2 x3 x4
  refine bodyPost_ret (v := .tuple #[mvV m, .int .i64 (ixI j)]) ?_ hd ⟨by rw [hz.out], hb⟩
  obtain ⟨tmps, defers⟩ := a
  have e2 : tmps[6]?.getD undef = .pointer (some ⟨g, 0, none⟩) := by simpa using h2
  have e3 : tmps[7]?.getD undef = .int .i64 (ixI j) := by simpa using h3
  simp [results, hf, e2, e3, go_sem, x0, x1, x2, x3, x4, mvV]

set_option maxRecDepth 100000 in
set_option maxHeartbeats 1000000 in
theorem refMpHit_any (v : Value) (l : List Rg) (B : Nat) (w : World) (hv : Rgs w B v l) (hB : B ≤ w.heap.size) (hok : okG (-1) l = true) (h64 : l.length ≤ 64) (p lean : Int) (hp : -1099511627776 ≤ p ∧ p ≤ 1099511627776) :
    Calls Try.prog 33 #[v, .int .i64 p, .int .i64 lean] w fun e w' => e = .returned (.tuple #[mvV (hitM l p lean).1, .int .i64 (ixI (hitM l p lean).2)]) ∧ Below w.heap.size w w' := by
  obtain ⟨A, cap, rfl⟩ := hv.form
  have hm := hv.max
  unfold maxLen at hm
  obtain ⟨z, hz⟩ : ∃ z, Hid (z = hitM l p lean) := ⟨hitM l p lean, Lib.hid rfl⟩
  rw [← hz.out]
  have h1 : (l.length : Int) ≤ 64 := by omega
  have HV := Lib.hid (fun w' (h : Below w.heap.size w w') => hv.below (h.mono hB))
  have HR := Lib.hid (fun r hr => okR_of_mem hok r hr)
  have HBk := Lib.hid (Bk.new w 27 #[.int .i64 0, .bool false, .bool false, .bool false, .bool false])
  have HB0 := Lib.hid (((Below.refl w.heap.size w).alloc (Nat.le_refl _) (.cells #[.int .i64 0, .bool false, .bool false, .bool false, .bool false] 27)))
  clear hv hok
  go_enter Try.func33, Try.ntmps33
  go_wp2
  go_loopw [8, 9] (fun x y wr => ∃ (k : Nat) (d : Int), k ≤ l.length ∧ x = .int .i64 d ∧ y = .int .i64 k ∧ -(1048576 * (k : Int)) ≤ d ∧ d ≤ 1048576 * (k : Int) ∧ Hid (z = hitG lean p d k (l.drop k)) ∧ Hid (Bk wr w.heap.size 27 #[.int .i64 0, .bool false, .bool false, .bool false, .bool false]) ∧ Hid (Below w.heap.size w wr)) (fun _ y _ => l.length - (intOf y).toNat)
  case atStart => exact ⟨0, 0, Nat.zero_le _, rfl, rfl, by omega, by omega, hz, HBk, HB0⟩
  case round =>
    obtain ⟨k, d, hk, rfl, rfl, hd1, hd2, hq, HK, HB⟩ := hrel
    have hsz := HB.out.size
    have hbl := HK.out.lt
    have e0 : wr.cell? ⟨w.heap.size, 0, none⟩ = some (.int .i64 0) := HK.out.cell 0
    have e1 : wr.cell? ⟨w.heap.size, 1, none⟩ = some (.bool false) := HK.out.cell 1
    have e2 : wr.cell? ⟨w.heap.size, 1 + 1, none⟩ = some (.bool false) := HK.out.cell 2
    have e3 : wr.cell? ⟨w.heap.size, 1 + 1 + 1, none⟩ = some (.bool false) := HK.out.cell 3
    have e4 : wr.cell? ⟨w.heap.size, 1 + 1 + 1 + 1, none⟩ = some (.bool false) := HK.out.cell 4
    have f0 : wr.frozen? ⟨w.heap.size, 0, none⟩ = false := HK.out.frozen 0
    have f1 : wr.frozen? ⟨w.heap.size, 1, none⟩ = false := HK.out.frozen 1
    have f2 : wr.frozen? ⟨w.heap.size, 1 + 1, none⟩ = false := HK.out.frozen 2
    have f3 : wr.frozen? ⟨w.heap.size, 1 + 1 + 1, none⟩ = false := HK.out.frozen 3
    have f4 : wr.frozen? ⟨w.heap.size, 1 + 1 + 1 + 1, none⟩ = false := HK.out.frozen 4
    have hwd : IntKind.i64.wrap (p + d) = p + d := IntWalk.i64_in _ (by omega)
    by_cases hlt : k < l.length
    · have hkI : (k : Int) < (l.length : Int) := by omega
      have hk0 : (0 : Int) ≤ k := by omega
      obtain ⟨b, off, rfl, hbB, hcap, c0, c1, c2⟩ := (HV.out _ HB.out).at hlt
      have hbw : b < wr.heap.size := by omega
      have hrr := (okR_iff l[k]).1 (HR.out _ (List.getElem_mem hlt))
      rw [List.drop_eq_getElem_cons hlt] at hq
      obtain ⟨r, hr⟩ : ∃ r, Hid (r = l[k]) := ⟨l[k], Lib.hid rfl⟩
      rw [← hr.out] at c0 c1 c2 hrr hq
      clear hr HV HR hz
      obtain ⟨a, o, n⟩ := r
      dsimp only at c0 c1 c2 hrr
      have hwo : IntKind.i64.wrap (a + o) = a + o := IntWalk.i64_in _ (by omega)
      by_cases h2 : p < a
      · have hf : Hid (z = (out (p + d), none)) := by show _ = _; rw [hq.out, hitG_out h2]
        clear hq
        go_wp2
        have hbm := below_mv HB.out (Nat.le_refl _) (.int .i64 (p + d)) (.bool false) (.bool false) (.bool false) (.bool false)
        exact mv_ret (m := out (p + d)) (j := none) rfl rfl rfl rfl hf ((HK.out.mv _ _ _ _ _).alloc _) (hbm.alloc hbm.size _)
      · have h2' : a ≤ p := by omega
        by_cases h3 : a + o < p
        · have hf : Hid (z = hitG lean p (d + n - o) (k + 1) (l.drop (k + 1))) := by show _ = _; rw [hq.out, hitG_on h2 h3]
          have hw1 : IntKind.i64.wrap (d + n) = d + n := IntWalk.i64_in _ (by omega)
          have hw2 : IntKind.i64.wrap (d + n - o) = d + n - o := IntWalk.i64_in _ (by omega)
          clear hq e0 e1 e2 e3 e4 f0 f1 f2 f3 f4 h2
          go_wp2
          go_roundw
          case rel => exact ⟨k + 1, d + n - o, by omega, rfl, by go_num, by omega, by omega, hf, HK.out.alloc _, HB.out.alloc hsz _⟩
          case measure => simp [intOf]; omega
        · have h3' : p ≤ a + o := by omega
          have hwa : IntKind.i64.wrap (a + d) = a + d := IntWalk.i64_in _ (by omega)
          have hwn : IntKind.i64.wrap (a + d + n) = a + d + n := IntWalk.i64_in _ (by omega)
          by_cases ho : o = 0
          · have hpa : p = a := by omega
            by_cases hL : lean < 0
            · have l1 : decide (lean < 0) = true := decide_eq_true (by omega)
              have l2 : decide (0 ≤ lean) = false := decide_eq_false (by omega)
              have hf : Hid (z = (⟨p + d, false, false, false, false⟩, some k)) := by
                show _ = _; rw [hq.out, hitG_in h2 h3]; exact at1_eq (decide_eq_false (by omega)) (decide_eq_false (by omega)) rfl (by rw [l1, l2]; rfl) (by split <;> omega)
              subst ho; subst hpa
              clear hq h2 h3 h2' h3' hrr hL
              go_wp2
              exact mv_ret (m := ⟨p + d, false, false, false, false⟩) (j := some k) rfl rfl rfl rfl hf (((HK.out.mv _ _ _ _ _).alloc _).alloc _) (below_al2 (below_mv HB.out (Nat.le_refl _) _ _ _ _ _) _ _)
            · have l1 : decide (lean < 0) = false := decide_eq_false (by omega)
              have l2 : decide (0 ≤ lean) = true := decide_eq_true (by omega)
              have hf : Hid (z = (⟨p + d + n, false, false, false, false⟩, some k)) := by
                show _ = _; rw [hq.out, hitG_in h2 h3]; exact at1_eq (decide_eq_false (by omega)) (decide_eq_false (by omega)) rfl (by rw [l1, l2]; rfl) (by split <;> omega)
              subst ho; subst hpa
              clear hq h2 h3 h2' h3' hrr hL
              go_wp2
              exact mv_ret (m := ⟨p + d + n, false, false, false, false⟩) (j := some k) rfl rfl rfl rfl hf (((HK.out.mv _ _ _ _ _).alloc _).alloc _) (below_al2 (below_mv HB.out (Nat.le_refl _) _ _ _ _ _) _ _)
          · by_cases hz0 : p = a
            · by_cases hL : lean < 0
              · have t1 : decide (a < p) = false := decide_eq_false (by omega)
                have t2 : decide (p < a + o) = true := decide_eq_true (by omega)
                have l1 : decide (lean < 0) = true := decide_eq_true (by omega)
                have l2 : decide (0 ≤ lean) = false := decide_eq_false (by omega)
                have hf : Hid (z = (⟨a + d, false, true, false, false⟩, some k)) := by
                  show _ = _; rw [hq.out, hitG_in h2 h3]; exact at1_eq t1 t2 rfl (by rw [l1, l2]; rfl) (by split <;> omega)
                have t3 : decide (0 < o) = true := decide_eq_true (by omega)
                have t4 : (p == a) = true := beq_iff_eq.2 (by omega)
                have t5 : (p == a + o) = false := beq_eq_false_iff_ne.2 (by omega)
                have g2 : decide (p < a) = false := decide_eq_false h2
                have g3 : decide (a + o < p) = false := decide_eq_false h3
                obtain ⟨e, he⟩ : ∃ e, Hid (e = a + o) := ⟨a + o, Lib.hid rfl⟩
                replace hwo : IntKind.i64.wrap (a + o) = e := by rw [hwo, he.out]
                rw [← he.out] at t2 t5 g3
                clear hq h2 h3 h2' h3' hrr ho hL he t1 t4 g2
                subst hz0
                go_wp2
                exact mv_ret (m := ⟨p + d, false, true, false, false⟩) (j := some k) rfl rfl rfl rfl hf (((HK.out.mv _ _ _ _ _).alloc _).alloc _) (below_al2 (below_mv HB.out (Nat.le_refl _) _ _ _ _ _) _ _)
              · have t1 : decide (a < p) = false := decide_eq_false (by omega)
                have t2 : decide (p < a + o) = true := decide_eq_true (by omega)
                have l1 : decide (lean < 0) = false := decide_eq_false (by omega)
                have l2 : decide (0 ≤ lean) = true := decide_eq_true (by omega)
                have hf : Hid (z = (⟨a + d, false, true, false, true⟩, some k)) := by
                  show _ = _; rw [hq.out, hitG_in h2 h3]; exact at1_eq t1 t2 rfl (by rw [l1, l2]; rfl) (by split <;> omega)
                have t3 : decide (0 < o) = true := decide_eq_true (by omega)
                have t4 : (p == a) = true := beq_iff_eq.2 (by omega)
                have t5 : (p == a + o) = false := beq_eq_false_iff_ne.2 (by omega)
                have g2 : decide (p < a) = false := decide_eq_false h2
                have g3 : decide (a + o < p) = false := decide_eq_false h3
                obtain ⟨e, he⟩ : ∃ e, Hid (e = a + o) := ⟨a + o, Lib.hid rfl⟩
                replace hwo : IntKind.i64.wrap (a + o) = e := by rw [hwo, he.out]
                rw [← he.out] at t2 t5 g3
                clear hq h2 h3 h2' h3' hrr ho hL he t1 t4 g2
                subst hz0
                go_wp2
                exact mv_ret (m := ⟨p + d, false, true, false, true⟩) (j := some k) rfl rfl rfl rfl hf (((HK.out.mv _ _ _ _ _).alloc _).alloc _) (below_al2 (below_mv HB.out (Nat.le_refl _) _ _ _ _ _) _ _)
            · by_cases hz1 : p = a + o
              · by_cases hL : lean < 0
                · have t1 : decide (a < p) = true := decide_eq_true (by omega)
                  have t2 : decide (p < a + o) = false := decide_eq_false (by omega)
                  have l1 : decide (lean < 0) = true := decide_eq_true (by omega)
                  have l2 : decide (0 ≤ lean) = false := decide_eq_false (by omega)
                  have hf : Hid (z = (⟨a + d + n, true, false, false, true⟩, some k)) := by
                    show _ = _; rw [hq.out, hitG_in h2 h3]; exact at1_eq t1 t2 rfl (by rw [l1, l2]; rfl) (by split <;> omega)
                  have t3 : decide (0 < o) = true := decide_eq_true (by omega)
                  have t4 : (p == a) = false := beq_eq_false_iff_ne.2 (by omega)
                  have t5 : (p == a + o) = true := beq_iff_eq.2 (by omega)
                  have g2 : decide (p < a) = false := decide_eq_false h2
                  have g3 : decide (a + o < p) = false := decide_eq_false h3
                  obtain ⟨e, he⟩ : ∃ e, Hid (e = a + o) := ⟨a + o, Lib.hid rfl⟩
                  replace hwo : IntKind.i64.wrap (a + o) = e := by rw [hwo, he.out]
                  rw [← he.out] at t2 t5 g3
                  have hz2 : p = e := by rw [he.out]; exact hz1
                  clear hq h2 h3 h2' h3' hrr ho hL hz1 he t2 t5 g3
                  subst hz2
                  go_wp2
                  exact mv_ret (m := ⟨a + d + n, true, false, false, true⟩) (j := some k) rfl rfl rfl rfl hf (((HK.out.mv _ _ _ _ _).alloc _).alloc _) (below_al2 (below_mv HB.out (Nat.le_refl _) _ _ _ _ _) _ _)
                · have t1 : decide (a < p) = true := decide_eq_true (by omega)
                  have t2 : decide (p < a + o) = false := decide_eq_false (by omega)
                  have l1 : decide (lean < 0) = false := decide_eq_false (by omega)
                  have l2 : decide (0 ≤ lean) = true := decide_eq_true (by omega)
                  have hf : Hid (z = (⟨a + d + n, true, false, false, false⟩, some k)) := by
                    show _ = _; rw [hq.out, hitG_in h2 h3]; exact at1_eq t1 t2 rfl (by rw [l1, l2]; rfl) (by split <;> omega)
                  have t3 : decide (0 < o) = true := decide_eq_true (by omega)
                  have t4 : (p == a) = false := beq_eq_false_iff_ne.2 (by omega)
                  have t5 : (p == a + o) = true := beq_iff_eq.2 (by omega)
                  have g2 : decide (p < a) = false := decide_eq_false h2
                  have g3 : decide (a + o < p) = false := decide_eq_false h3
                  obtain ⟨e, he⟩ : ∃ e, Hid (e = a + o) := ⟨a + o, Lib.hid rfl⟩
                  replace hwo : IntKind.i64.wrap (a + o) = e := by rw [hwo, he.out]
                  rw [← he.out] at t2 t5 g3
                  have hz2 : p = e := by rw [he.out]; exact hz1
                  clear hq h2 h3 h2' h3' hrr ho hL hz1 he t2 t5 g3
                  subst hz2
                  go_wp2
                  exact mv_ret (m := ⟨a + d + n, true, false, false, false⟩) (j := some k) rfl rfl rfl rfl hf (((HK.out.mv _ _ _ _ _).alloc _).alloc _) (below_al2 (below_mv HB.out (Nat.le_refl _) _ _ _ _ _) _ _)
              · by_cases hL : lean < 0
                · have t1 : decide (a < p) = true := decide_eq_true (by omega)
                  have t2 : decide (p < a + o) = true := decide_eq_true (by omega)
                  have l1 : decide (lean < 0) = true := decide_eq_true (by omega)
                  have l2 : decide (0 ≤ lean) = false := decide_eq_false (by omega)
                  have hf : Hid (z = (⟨a + d, true, true, true, true⟩, some k)) := by
                    show _ = _; rw [hq.out, hitG_in h2 h3]; exact at1_eq t1 t2 rfl (by rw [l1, l2]; rfl) (by split <;> omega)
                  have t3 : decide (0 < o) = true := decide_eq_true (by omega)
                  have t4 : (p == a) = false := beq_eq_false_iff_ne.2 (by omega)
                  have t5 : (p == a + o) = false := beq_eq_false_iff_ne.2 (by omega)
                  have g2 : decide (p < a) = false := decide_eq_false h2
                  have g3 : decide (a + o < p) = false := decide_eq_false h3
                  obtain ⟨e, he⟩ : ∃ e, Hid (e = a + o) := ⟨a + o, Lib.hid rfl⟩
                  replace hwo : IntKind.i64.wrap (a + o) = e := by rw [hwo, he.out]
                  rw [← he.out] at t2 t5 g3
                  clear hq h2 h3 h2' h3' hrr ho hL he
                  go_wp2
                  exact mv_ret (m := ⟨a + d, true, true, true, true⟩) (j := some k) rfl rfl rfl rfl hf (((HK.out.mv _ _ _ _ _).alloc _).alloc _) (below_al2 (below_mv HB.out (Nat.le_refl _) _ _ _ _ _) _ _)
                · have t1 : decide (a < p) = true := decide_eq_true (by omega)
                  have t2 : decide (p < a + o) = true := decide_eq_true (by omega)
                  have l1 : decide (lean < 0) = false := decide_eq_false (by omega)
                  have l2 : decide (0 ≤ lean) = true := decide_eq_true (by omega)
                  have hf : Hid (z = (⟨a + d + n, true, true, true, true⟩, some k)) := by
                    show _ = _; rw [hq.out, hitG_in h2 h3]; exact at1_eq t1 t2 rfl (by rw [l1, l2]; rfl) (by split <;> omega)
                  have t3 : decide (0 < o) = true := decide_eq_true (by omega)
                  have t4 : (p == a) = false := beq_eq_false_iff_ne.2 (by omega)
                  have t5 : (p == a + o) = false := beq_eq_false_iff_ne.2 (by omega)
                  have g2 : decide (p < a) = false := decide_eq_false h2
                  have g3 : decide (a + o < p) = false := decide_eq_false h3
                  obtain ⟨e, he⟩ : ∃ e, Hid (e = a + o) := ⟨a + o, Lib.hid rfl⟩
                  replace hwo : IntKind.i64.wrap (a + o) = e := by rw [hwo, he.out]
                  rw [← he.out] at t2 t5 g3
                  clear hq h2 h3 h2' h3' hrr ho hL he
                  go_wp2
                  exact mv_ret (m := ⟨a + d + n, true, true, true, true⟩) (j := some k) rfl rfl rfl rfl hf (((HK.out.mv _ _ _ _ _).alloc _).alloc _) (below_al2 (below_mv HB.out (Nat.le_refl _) _ _ _ _ _) _ _)
    · obtain rfl : k = l.length := by omega
      have hf : Hid (z = (out (p + d), none)) := by show _ = _; rw [hq.out]; simp [hitG]
      clear hq
      go_wp2
      exact mv_ret (m := out (p + d)) (j := none) rfl rfl rfl rfl hf (HK.out.mv _ _ _ _ _) (below_mv HB.out (Nat.le_refl _) _ _ _ _ _)
end Go.Proofs.Ytiilbgejdpnfpaa

/- Places through maps: Go of the reference. -/
namespace Go.Proofs.Ytiilbgejdpnfpaa
open Go.RowKit Go.Mps

theorem mvFacts {W : World} {g : Nat} {t : TypeId} {c0 c1 c2 c3 c4 : Value} (h : Bk W g t #[c0, c1, c2, c3, c4]) :
    W.cell? ⟨g, 0, none⟩ = some c0 ∧ W.cell? ⟨g, 1, none⟩ = some c1 ∧ W.cell? ⟨g, 1 + 1, none⟩ = some c2 ∧ W.cell? ⟨g, 1 + 1 + 1, none⟩ = some c3 ∧ W.cell? ⟨g, 1 + 1 + 1 + 1, none⟩ = some c4 ∧
    W.frozen? ⟨g, 0, none⟩ = false ∧ W.frozen? ⟨g, 1, none⟩ = false ∧ W.frozen? ⟨g, 1 + 1, none⟩ = false ∧ W.frozen? ⟨g, 1 + 1 + 1, none⟩ = false ∧ W.frozen? ⟨g, 1 + 1 + 1 + 1, none⟩ = false :=
  ⟨h.cell 0, h.cell 1, h.cell 2, h.cell 3, h.cell 4, h.frozen 0, h.frozen 1, h.frozen 2, h.frozen 3, h.frozen 4⟩
theorem Bk.over {w w' : World} {g : Nat} {t : TypeId} {cs : Array Value} {n : Nat} (h : Bk w g t cs) (hb : Below n w w') (hg : g < n) : Bk w' g t cs := (hb.block g hg).trans h
theorem mv_ret1 {w0 W : World} {g : Nat} {fn : Func} {a : Act} {z m : Mv} (hf : fn.results = #[.cell 6 27]) (h2 : a.tmps.getD 6 undef = .pointer (some ⟨g, 0, none⟩)) (hd : a.defers = [])
    (hz : Hid (z = m)) (hk : Bk W g 27 #[.int .i64 m.p, .bool m.ahead, .bool m.behind, .bool m.across, .bool m.lost]) (hb : Below w0.heap.size w0 W) :
    bodyPost Try.prog fn (fun e w' => e = .returned (mvV z) ∧ Below w0.heap.size w0 w') .ret a W := by
  obtain ⟨x0, x1, x2, x3, x4, -⟩ := mvFacts hk
  refine bodyPost_ret (v := mvV m) ?_ hd ⟨by rw [hz.out], hb⟩
  obtain ⟨tmps, defers⟩ := a
  have e2 : tmps[6]?.getD undef = .pointer (some ⟨g, 0, none⟩) := by simpa using h2
  simp [results, hf, e2, go_sem, x0, x1, x2, x3, x4, mvV]
theorem checkM_range (l : List Rg) : checkM l = 0 ∨ checkM l = 2 ∨ checkM l = 3 := by
  unfold checkM
  split
  · simp
  · split <;> simp

set_option maxRecDepth 100000 in
set_option maxHeartbeats 1000000 in
theorem refMpGo_any (v : Value) (l : List Rg) (B : Nat) (w : World) (hv : Rgs w B v l) (hB : B ≤ w.heap.size) (p lean : Int) :
    Calls Try.prog 15 #[v, .int .i64 p, .int .i64 lean] w fun e w' => e = .returned (mvV (goM l p lean)) ∧ Below w.heap.size w w' := by
  obtain ⟨A, cap, rfl⟩ := hv.form
  obtain ⟨z, hz⟩ : ∃ z, Hid (z = goM l p lean) := ⟨goM l p lean, Lib.hid rfl⟩
  rw [← hz.out]
  have HC := Lib.hid (fun w' (h : Below w.heap.size w w') => refMpCheck_any _ l B w' (hv.below (h.mono hB)) (Nat.le_trans hB h.size))
  have HH := Lib.hid (fun w' (h : Below w.heap.size w w') (hok : okG (-1) l = true) (h64 : l.length ≤ 64) (hp : -1099511627776 ≤ p ∧ p ≤ 1099511627776) => refMpHit_any _ l B w' (hv.below (h.mono hB)) (Nat.le_trans hB h.size) hok h64 p lean hp)
  have HBk := Lib.hid (Bk.new w 27 #[.int .i64 0, .bool false, .bool false, .bool false, .bool false])
  have HB0 := Lib.hid (((Below.refl w.heap.size w).alloc (Nat.le_refl _) (.cells #[.int .i64 0, .bool false, .bool false, .bool false, .bool false] 27)))
  clear hv
  go_enter Try.func15, Try.ntmps15
  go_wp2_with fail
  refine (HC.out _ HB0.out).mono ?_
  rintro e w1 ⟨rfl, hb1⟩
  have HB1 := Lib.hid (HB0.out.trans (hb1.mono HB0.out.size))
  have HK := Lib.hid (HBk.out.over hb1 (by simp))
  obtain ⟨e0, e1, e2, e3, e4, f0, f1, f2, f3, f4⟩ := mvFacts HK.out
  have hlt := HK.out.lt
  clear HC hb1
  obtain ⟨c, hc⟩ : ∃ c, Hid (c = checkM l) := ⟨checkM l, Lib.hid rfl⟩
  rw [← hc.out]
  by_cases c0 : c = 0
  · subst c0
    by_cases p1 : p < 0
    · have hf : Hid (z = out p) := by show _ = _; rw [hz.out]; unfold goM; rw [if_pos (.inr (.inl p1))]
      clear HH hz hc
      go_wp2
      exact mv_ret1 (m := out p) rfl rfl rfl hf (HK.out.mv _ _ _ _ _) (below_mv HB1.out (Nat.le_refl _) _ _ _ _ _)
    · have p1' : decide (p < 0) = false := decide_eq_false p1
      by_cases p2 : 1048576 < p
      · have hf : Hid (z = out p) := by show _ = _; rw [hz.out]; unfold goM; rw [if_pos (.inr (.inr p2))]
        clear HH hz hc p1
        go_wp2
        exact mv_ret1 (m := out p) rfl rfl rfl hf (HK.out.mv _ _ _ _ _) (below_mv HB1.out (Nat.le_refl _) _ _ _ _ _)
      · have p2' : decide (1048576 < p) = false := decide_eq_false p2
        have hcz := checkM_zero.1 hc.out.symm
        have hf : Hid (z = (hitM l p lean).1) := by show _ = _; rw [hz.out]; unfold goM; rw [if_neg (by rw [← hc.out]; omega)]
        have CH := Lib.hid (HH.out w1 HB1.out hcz.2 hcz.1 (by omega))
        obtain ⟨q, hq⟩ : ∃ q, Hid (q = hitM l p lean) := ⟨hitM l p lean, Lib.hid rfl⟩
        rw [← hq.out] at CH hf
        clear HH hz hc p1 p2 hcz hq
        go_wp2_with fail
        refine CH.out.mono ?_
        rintro e w2 ⟨rfl, hb2⟩
        have HB2 := Lib.hid (HB1.out.trans (hb2.mono HB1.out.size))
        have HK2 := Lib.hid (HK.out.over hb2 hlt)
        clear e0 e1 e2 e3 e4 f0 f1 f2 f3 f4
        obtain ⟨e0, e1, e2, e3, e4, f0, f1, f2, f3, f4⟩ := mvFacts HK2.out
        have hlt2 := HK2.out.lt
        clear CH hb2
        obtain ⟨⟨m0, m1, m2, m3, m4⟩, j⟩ := q
        unfold mvV
        dsimp only at hf ⊢
        go_wp2
        have hbm := below_mv HB2.out (Nat.le_refl _) (.int .i64 m0) (.bool m1) (.bool m2) (.bool m3) (.bool m4)
        exact mv_ret1 (m := ⟨m0, m1, m2, m3, m4⟩) rfl rfl rfl hf ((HK2.out.mv _ _ _ _ _).alloc _) (hbm.alloc hbm.size _)
  · have hcb : (c != 0) = true := by simpa using c0
    have hf : Hid (z = out p) := by show _ = _; rw [hz.out]; unfold goM; rw [if_pos (.inl (by rw [← hc.out]; exact c0))]
    clear HH hz hc c0
    go_wp2
    exact mv_ret1 (m := out p) rfl rfl rfl hf (HK.out.mv _ _ _ _ _) (below_mv HB1.out (Nat.le_refl _) _ _ _ _ _)
end Go.Proofs.Ytiilbgejdpnfpaa

/- Places through maps: maps turned round, by the reference. -/
namespace Go.Proofs.Ytiilbgejdpnfpaa
open Go.RowKit Go.Mps

theorem infoRg : (Try.prog.info? 23).map (fun i => (i.zero, i.size, i.bytes)) = some (some (.agg #[.int .i64 0, .int .i64 0, .int .i64 0]), 3, 24) := by kernel_rfl
theorem sumM_app : ∀ (l : List Rg) (r : Rg), sumM (l ++ [r]) = sumM l + (r.n - r.o)
  | [], r => by simp [sumM]
  | x :: l, r => by rw [List.cons_append, sumM, sumM_app l r, sumM]; omega
theorem turnG_app : ∀ (l : List Rg) (d : Int) (r : Rg), turnG d (l ++ [r]) = turnG d l ++ [⟨r.a + (d + sumM l), r.n, r.o⟩]
  | [], d, r => by simp [turnG, sumM]
  | x :: l, d, r => by
    rw [List.cons_append, turnG, turnG_app l _ r, turnG, sumM, List.cons_append]
    congr 3
    simp; omega
theorem turn_succ (l : List Rg) {k : Nat} (h : k < l.length) : turnG 0 (l.take (k + 1)) = turnG 0 (l.take k) ++ [⟨l[k].a + sumM (l.take k), l[k].n, l[k].o⟩] := by
  rw [List.take_succ_eq_append_getElem h, turnG_app, Int.zero_add]
theorem sum_succ (l : List Rg) {k : Nat} (h : k < l.length) : sumM (l.take (k + 1)) = sumM (l.take k) + l[k].n - l[k].o := by
  rw [List.take_succ_eq_append_getElem h, sumM_app]; omega

set_option maxRecDepth 100000 in
set_option maxHeartbeats 1000000 in
theorem refMpTurn_any (v : Value) (l : List Rg) (B : Nat) (w : World) (hv : Rgs w B v l) (hB : B ≤ w.heap.size) :
    Calls Try.prog 18 #[v] w fun e w' => ∃ v', e = .returned v' ∧ w'.ownsRow w.heap.size 23 3 v' (turnM l).length (rgC (turnM l)) ∧ Below w.heap.size w w' := by
  obtain ⟨A, cap, rfl⟩ := hv.form
  have HC := Lib.hid (refMpCheck_any _ l B w hv hB)
  obtain ⟨c, hc⟩ : ∃ c, Hid (c = checkM l) := ⟨checkM l, Lib.hid rfl⟩
  rw [← hc.out] at HC
  have HV := Lib.hid (fun w' (h : Below w.heap.size w w') => hv.below (h.mono hB))
  clear hv
  go_enter Try.func18, Try.ntmps18
  go_wp2_with fail
  refine HC.out.mono ?_
  rintro e w1 ⟨rfl, hb1⟩
  have HB1 := Lib.hid hb1
  clear HC hb1
  by_cases c0 : c = 0
  · subst c0
    have hcz := checkM_zero.1 hc.out.symm
    have hf : Hid (turnM l = turnG 0 (l.take l.length)) := by show _ = _; rw [List.take_length]; exact turnM_of hc.out.symm
    have h64 : (l.length : Int) ≤ 64 := by have := hcz.1; omega
    have HR := Lib.hid (fun r hr => okR_of_mem hcz.2 r hr)
    clear hc hcz
    go_wp2
    go_loopw [3, 4, 5] (fun s3 s4 s5 wr => ∃ (k : Nat) (d : Int), k ≤ l.length ∧ s5 = .int .i64 k ∧ s4 = .int .i64 d ∧ Hid (d = sumM (l.take k)) ∧ -(1048576 * (k : Int)) ≤ d ∧ d ≤ 1048576 * (k : Int) ∧ Hid (wr.ownsRow w.heap.size 23 3 s3 k (rgC (turnG 0 (l.take k)))) ∧ Hid (Below w.heap.size w wr)) (fun _ _ x _ => l.length - (intOf x).toNat)
    case atStart => exact ⟨0, 0, Nat.zero_le _, rfl, rfl, rfl, by omega, by omega, World.ownsRow_nil _ _ _ 3, HB1⟩
    case round =>
      obtain ⟨k, d, hk, rfl, rfl, hd, hd1, hd2, ho, HB⟩ := hrel
      by_cases hlt : k < l.length
      · have hkI : (k : Int) < (l.length : Int) := by omega
        have hk0 : (0 : Int) ≤ k := by omega
        obtain ⟨b, off, rfl, hbB, hcap, c0, c1, c2⟩ := (HV.out _ HB.out).at hlt
        have hsz := HB.out.size
        have hbw : b < wr.heap.size := by omega
        have hrr := (okR_iff l[k]).1 (HR.out _ (List.getElem_mem hlt))
        have hs1 := Lib.hid (turn_succ l hlt)
        have hs2 := Lib.hid (sum_succ l hlt)
        rw [← hd.out] at hs1 hs2
        obtain ⟨r, hr⟩ : ∃ r, Hid (r = l[k]) := ⟨l[k], Lib.hid rfl⟩
        rw [← hr.out] at c0 c1 c2 hrr hs1 hs2
        clear hr
        obtain ⟨a, o, n⟩ := r
        dsimp only at c0 c1 c2 hrr hs1 hs2
        have hw0 : IntKind.i64.wrap (a + d) = a + d := IntWalk.i64_in _ (by omega)
        have hw1 : IntKind.i64.wrap (d + n) = d + n := IntWalk.i64_in _ (by omega)
        have hw2 : IntKind.i64.wrap (d + n - o) = d + n - o := IntWalk.i64_in _ (by omega)
        have hb1 : -(1048576 * ((k + 1 : Nat) : Int)) ≤ d + n - o := by omega
        have hb2 : d + n - o ≤ 1048576 * ((k + 1 : Nat) : Int) := by omega
        clear hrr hd
        have c0' : (wr.drew).cell? ⟨b, off + k * 3, none⟩ = some (.int .i64 a) := c0
        have c1' : (wr.drew).cell? ⟨b, off + k * 3 + 1, none⟩ = some (.int .i64 o) := c1
        have c2' : (wr.drew).cell? ⟨b, off + k * 3 + 1 + 1, none⟩ = some (.int .i64 n) := c2
        have hne : some b ≠ u3.ownBlock := fun h => by have := (ho.out.lt b h.symm).1; omega
        have c0a : (wr.alloc (.cells #[.int .i64 (a + d), .int .i64 n, .int .i64 o] 23)).drew.cell? ⟨b, off + k * 3, none⟩ = some (.int .i64 a) := by go_simp
        have c1a : (wr.alloc (.cells #[.int .i64 (a + d), .int .i64 n, .int .i64 o] 23)).drew.cell? ⟨b, off + k * 3 + 1, none⟩ = some (.int .i64 o) := by go_simp
        have c2a : (wr.alloc (.cells #[.int .i64 (a + d), .int .i64 n, .int .i64 o] 23)).drew.cell? ⟨b, off + k * 3 + 1 + 1, none⟩ = some (.int .i64 n) := by go_simp
        have o1 := Lib.hid ((World.ownsRow.alloc (w := wr.drew) ho.out (.cells #[.int .i64 (a + d), .int .i64 n, .int .i64 o] 23)))
        go_wp2_with fail
        go_region_held3 (fun w' => w'.cell? ⟨b, off + k * 3, none⟩ = some (.int .i64 a) ∧ w'.cell? ⟨b, off + k * 3 + 1, none⟩ = some (.int .i64 o) ∧ w'.cell? ⟨b, off + k * 3 + 1 + 1, none⟩ = some (.int .i64 n))
          (first
            | exact ⟨c0', c1', c2'⟩
            | exact ⟨c0a, c1a, c2a⟩
            | exact ⟨(hg3.cell_far ⟨b, off + k * 3, none⟩ (by simp; omega) hne).trans c0a, (hg3.cell_far ⟨b, off + k * 3 + 1, none⟩ (by simp; omega) hne).trans c1a, (hg3.cell_far ⟨b, off + k * 3 + 1 + 1, none⟩ (by simp; omega) hne).trans c2a⟩)
          ((refine step_appR _ (by rfl) (.tmp 15) (.tmp 34) 24 23 (by rfl) _ 3 24 Try.underlying24 infoRg (by rfl) (by decide) w.heap.size (by rfl) (by rfl) o1.out (Rd.lit wr.drew 23 3 1 #[.int .i64 (a + d), .int .i64 n, .int .i64 o] (0, 0) rfl (by omega)) (by simp [Value.oneCell']) (by unfold maxLen; omega) (by omega) (by simp; omega) ?_; intro v' w3 hown' hg3 hat))
        have c1b : w3.cell? ⟨b, off + k * 3 + 1, none⟩ = some (.int .i64 o) := (hg3.cell_far ⟨b, off + k * 3 + 1, none⟩ (by simp; omega) hne).trans c1a
        have c2b : w3.cell? ⟨b, off + k * 3 + 1 + 1, none⟩ = some (.int .i64 n) := (hg3.cell_far ⟨b, off + k * 3 + 1 + 1, none⟩ (by simp; omega) hne).trans c2a
        have hb4 := Lib.hid (((HB.out.alloc hsz _).drew).grown hg3 (by simp; omega) fun g hg => (ho.out.lt g hg).1)
        have hsz3 := hb4.out.size
        have hbw3 : b < w3.heap.size := by omega
        have hown2 : Hid (w3.ownsRow w.heap.size 23 3 v' (k + 1) (rgC (turnG 0 (l.take (k + 1))))) := by
          show World.ownsRow _ _ _ _ _ _ _
          rw [hs1.out, rgC_app]; exact hown'
        have hd' : Hid (d + n - o = sumM (l.take (k + 1))) := hs2.out.symm
        clear hg3 hat ho hown' c0a c1a c2a c0' c1' c2' o1 c0 c1 c2 hne hs1 hs2 hw0
        go_wp2
        go_quiet (fail)
        go_wp2
        go_roundw
        case rel => exact ⟨k + 1, d + n - o, by omega, by go_num, rfl, hd', hb1, hb2, hown2.out, blN hb4.out _⟩
        case measure => simp [intOf]; omega
      · obtain rfl : k = l.length := by omega
        go_wp2
        go_ret
        refine ⟨_, rfl, ?_, HB.out⟩
        have hl : (turnG 0 (l.take l.length)).length = l.length := by rw [turn_length, List.length_take, Nat.min_self]
        rw [hf.out, hl]
        exact ho.out
  · have hcb : (c != 0) = true := by simpa using c0
    have hf : Hid (turnM l = []) := by show _ = _; unfold turnM; rw [if_pos (by rw [← hc.out]; exact c0)]
    clear hc c0
    go_wp2
    go_ret
    refine ⟨_, rfl, ?_, HB1.out⟩
    rw [hf.out]
    exact World.ownsRow_nil _ _ _ 3
end Go.Proofs.Ytiilbgejdpnfpaa

/- Places through maps: how a row grows, and what a map touches, by the reference. -/
namespace Go.Proofs.Ytiilbgejdpnfpaa
open Go.RowKit Go.Mps

theorem checkM_len {l : List Rg} (h : checkM l = 0) : l.length ≤ 64 := (checkM_zero.1 h).1
set_option maxRecDepth 100000 in
set_option maxHeartbeats 1000000 in
theorem refMpDelta_any (v : Value) (l : List Rg) (B : Nat) (w : World) (hv : Rgs w B v l) (hB : B ≤ w.heap.size) :
    Calls Try.prog 19 #[v] w fun e w' => e = .returned (.int .i64 (deltaM l)) ∧ Below w.heap.size w w' := by
  obtain ⟨A, cap, rfl⟩ := hv.form
  have hm := hv.max
  unfold maxLen at hm
  obtain ⟨z, hz⟩ : ∃ z, Hid (z = deltaM l) := ⟨deltaM l, Lib.hid rfl⟩
  rw [← hz.out]
  obtain ⟨c, hc⟩ : ∃ c, Hid (c = checkM l) := ⟨checkM l, Lib.hid rfl⟩
  have HC := Lib.hid (fun w' (h : Below w.heap.size w w') => refMpCheck_any _ l B w' (hv.below (h.mono hB)) (Nat.le_trans hB h.size))
  rw [← hc.out] at HC
  have HV := Lib.hid (fun w' (h : Below w.heap.size w w') => hv.below (h.mono hB))
  clear hv
  go_enter Try.func19, Try.ntmps19
  go_wp2
  by_cases c0 : c = 0
  · subst c0
    have hcz := checkM_zero.1 hc.out.symm
    have hf : Hid (z = sumM (l.take l.length)) := by show _ = _; rw [List.take_length, hz.out]; unfold deltaM; rw [if_neg (by rw [← hc.out]; omega)]
    have h64 : (l.length : Int) ≤ 64 := by have := hcz.1; omega
    have HR := Lib.hid (fun r hr => okR_of_mem hcz.2 r hr)
    clear hc hcz hz
    go_loopw [3, 4] (fun s4 s5 wr => ∃ (k : Nat) (d : Int), k ≤ l.length ∧ s5 = .int .i64 k ∧ s4 = .int .i64 d ∧ Hid (d = sumM (l.take k)) ∧ -(1048576 * (k : Int)) ≤ d ∧ d ≤ 1048576 * (k : Int) ∧ Hid (Below w.heap.size w wr)) (fun _ x _ => l.length - (intOf x).toNat)
    case atStart => exact ⟨0, 0, Nat.zero_le _, rfl, rfl, rfl, by omega, by omega, Below.refl _ _⟩
    case round =>
      obtain ⟨k, d, hk, rfl, rfl, hd, hd1, hd2, HB⟩ := hrel
      by_cases hlt : k < l.length
      · have hkI : (k : Int) < (l.length : Int) := by omega
        have hk0 : (0 : Int) ≤ k := by omega
        obtain ⟨b, off, rfl, hbB, hcap, c0, c1, c2⟩ := (HV.out _ HB.out).at hlt
        have hrr := (okR_iff l[k]).1 (HR.out _ (List.getElem_mem hlt))
        have hs2 := Lib.hid (sum_succ l hlt)
        rw [← hd.out] at hs2
        obtain ⟨r, hr⟩ : ∃ r, Hid (r = l[k]) := ⟨l[k], Lib.hid rfl⟩
        rw [← hr.out] at c0 c1 c2 hrr hs2
        clear hr
        obtain ⟨a, o, n⟩ := r
        dsimp only at c0 c1 c2 hrr hs2
        have hw1 : IntKind.i64.wrap (d + n) = d + n := IntWalk.i64_in _ (by omega)
        have hw2 : IntKind.i64.wrap (d + n - o) = d + n - o := IntWalk.i64_in _ (by omega)
        have hb1 : -(1048576 * ((k + 1 : Nat) : Int)) ≤ d + n - o := by omega
        have hb2 : d + n - o ≤ 1048576 * ((k + 1 : Nat) : Int) := by omega
        have hd' : Hid (d + n - o = sumM (l.take (k + 1))) := hs2.out.symm
        have CC := Lib.hid (HC.out wr HB.out)
        have hbw0 : b < wr.heap.size := by have := HB.out.size; omega
        clear hrr hd hs2 c0
        go_wp2_with fail
        refine CC.out.mono ?_
        rintro e w1 ⟨rfl, hb⟩
        have c1b := (hb.cell (p := ⟨b, off + k * 3 + 1, none⟩) hbw0).trans c1
        have c2b := (hb.cell (p := ⟨b, off + k * 3 + 1 + 1, none⟩) hbw0).trans c2
        have hbw : b < w1.heap.size := by have := HB.out.size; have := hb.size; omega
        have HB2 := Lib.hid (HB.out.trans (hb.mono HB.out.size))
        clear CC hb c1 c2
        go_wp2
        go_quiet (fail)
        go_wp2
        go_roundw
        case rel => exact ⟨k + 1, d + n - o, by omega, by go_num, rfl, hd', hb1, hb2, blN HB2.out _⟩
        case measure => simp [intOf]; omega
      · obtain rfl : k = l.length := by omega
        have hq : Hid (z = d) := by show _ = _; rw [hf.out, hd.out]
        go_wp2
        go_ret
        exact ⟨by rw [hq.out]; rfl, HB.out⟩
  · have hcb : (c == 0) = false := beq_eq_false_iff_ne.2 c0
    have hf : Hid (z = 0) := by show _ = _; rw [hz.out]; unfold deltaM; rw [if_pos (by rw [← hc.out]; exact c0)]
    clear hc c0 hz
    go_loopw [3, 4] (fun s4 s5 wr => s4 = .int .i64 0 ∧ s5 = .int .i64 0 ∧ Hid (Below w.heap.size w wr)) (fun _ _ _ => 0)
    case atStart => exact ⟨rfl, rfl, Below.refl _ _⟩
    case round =>
      obtain ⟨rfl, rfl, HB⟩ := hrel
      by_cases hl : 0 < l.length
      · have hlI : (0 : Int) < (l.length : Int) := by omega
        have CC := Lib.hid (HC.out wr HB.out)
        go_wp2_with fail
        refine CC.out.mono ?_
        rintro e w1 ⟨rfl, hb⟩
        have HB2 := Lib.hid (HB.out.trans (hb.mono HB.out.size))
        clear CC hb
        go_wp2
        go_ret
        exact ⟨by rw [hf.out]; rfl, HB2.out⟩
      · have hl0 : (l.length : Int) = 0 := by omega
        clear hl
        go_wp2
        go_ret
        exact ⟨by rw [hf.out]; rfl, HB.out⟩
end Go.Proofs.Ytiilbgejdpnfpaa

/- Places through maps: what a map touches, pairs, and are two maps the same. -/
namespace Go.Proofs.Ytiilbgejdpnfpaa
open Go.RowKit Go.Mps

theorem touch_any_succ (l : List Rg) (f t : Int) {k : Nat} (h : k < l.length) : ((l.take (k + 1)).any fun r => decide (r.a ≤ t) && decide (f ≤ r.a + r.o)) = (((l.take k).any fun r => decide (r.a ≤ t) && decide (f ≤ r.a + r.o)) || (decide (l[k].a ≤ t) && decide (f ≤ l[k].a + l[k].o))) := by
  rw [List.take_succ_eq_append_getElem h, List.any_append]; simp
theorem any_yes {α : Type} {p : α → Bool} (l : List α) {k : Nat} (h : k < l.length) (hp : p l[k] = true) : l.any p = true := List.any_eq_true.2 ⟨_, List.getElem_mem h, hp⟩
set_option maxRecDepth 100000 in
set_option maxHeartbeats 1000000 in
theorem refMpTouches_any (v : Value) (l : List Rg) (B : Nat) (w : World) (hv : Rgs w B v l) (hB : B ≤ w.heap.size) (f t : Int) :
    Calls Try.prog 20 #[v, .int .i64 f, .int .i64 t] w fun e w' => e = .returned (.bool (touchM l f t)) ∧ Below w.heap.size w w' := by
  obtain ⟨A, cap, rfl⟩ := hv.form
  have hm := hv.max
  unfold maxLen at hm
  obtain ⟨z, hz⟩ : ∃ z, Hid (z = touchM l f t) := ⟨touchM l f t, Lib.hid rfl⟩
  rw [← hz.out]
  obtain ⟨c, hc⟩ : ∃ c, Hid (c = checkM l) := ⟨checkM l, Lib.hid rfl⟩
  have HC := Lib.hid (fun w' (h : Below w.heap.size w w') => refMpCheck_any _ l B w' (hv.below (h.mono hB)) (Nat.le_trans hB h.size))
  rw [← hc.out] at HC
  have HV := Lib.hid (fun w' (h : Below w.heap.size w w') => hv.below (h.mono hB))
  clear hv
  go_enter Try.func20, Try.ntmps20
  go_wp2
  by_cases c0 : c = 0
  · subst c0
    have hcz := checkM_zero.1 hc.out.symm
    have hf : Hid (z = l.any fun r => decide (r.a ≤ t) && decide (f ≤ r.a + r.o)) := by show _ = _; rw [hz.out]; unfold touchM; rw [if_neg (by rw [← hc.out]; omega)]
    have h64 : (l.length : Int) ≤ 64 := by have := hcz.1; omega
    have HR := Lib.hid (fun r hr => okR_of_mem hcz.2 r hr)
    clear hc hcz hz
    go_loopw [7] (fun s5 wr => ∃ k : Nat, k ≤ l.length ∧ s5 = .int .i64 k ∧ Hid (((l.take k).any fun r => decide (r.a ≤ t) && decide (f ≤ r.a + r.o)) = false) ∧ Hid (Below w.heap.size w wr)) (fun x _ => l.length - (intOf x).toNat)
    case atStart => exact ⟨0, Nat.zero_le _, rfl, rfl, Below.refl _ _⟩
    case round =>
      obtain ⟨k, hk, rfl, hn, HB⟩ := hrel
      by_cases hlt : k < l.length
      · have hkI : (k : Int) < (l.length : Int) := by omega
        have hk0 : (0 : Int) ≤ k := by omega
        obtain ⟨b, off, rfl, hbB, hcap, c0, c1, c2⟩ := (HV.out _ HB.out).at hlt
        have hrr := (okR_iff l[k]).1 (HR.out _ (List.getElem_mem hlt))
        have hs2 := Lib.hid (touch_any_succ l f t hlt)
        have hyes := Lib.hid (fun h => any_yes (p := fun r : Rg => decide (r.a ≤ t) && decide (f ≤ r.a + r.o)) l hlt h)
        rw [← hf.out] at hyes
        rw [hn.out] at hs2
        obtain ⟨r, hr⟩ : ∃ r, Hid (r = l[k]) := ⟨l[k], Lib.hid rfl⟩
        rw [← hr.out] at c0 c1 c2 hrr hs2 hyes
        clear hr
        obtain ⟨a, o, n⟩ := r
        dsimp only at c0 c1 c2 hrr hs2 hyes
        have hw1 : IntKind.i64.wrap (a + o) = a + o := IntWalk.i64_in _ (by omega)
        have CC := Lib.hid (HC.out wr HB.out)
        have hbw0 : b < wr.heap.size := by have := HB.out.size; omega
        clear hrr c2
        go_wp2_with fail
        refine CC.out.mono ?_
        rintro e w1 ⟨rfl, hb⟩
        have c0b := (hb.cell (p := ⟨b, off + k * 3, none⟩) hbw0).trans c0
        have c1b := (hb.cell (p := ⟨b, off + k * 3 + 1, none⟩) hbw0).trans c1
        have hbw : b < w1.heap.size := by have := HB.out.size; have := hb.size; omega
        have HB2 := Lib.hid (HB.out.trans (hb.mono HB.out.size))
        clear CC hb c1 c0
        by_cases x1 : a ≤ t
        · by_cases x2 : f ≤ a + o
          · have hq : Hid (z = true) := hyes.out (by rw [decide_eq_true x1, decide_eq_true x2]; rfl)
            have d2 : decide (f ≤ a + o) = true := decide_eq_true x2
            clear x2 hs2 hyes
            go_wp2
            go_quiet (fail)
            go_wp2
            go_ret
            exact ⟨by rw [hq.out]; rfl, blN HB2.out _⟩
          · have hq : Hid (((l.take (k + 1)).any fun r => decide (r.a ≤ t) && decide (f ≤ r.a + r.o)) = false) := by show _ = _; rw [hs2.out, decide_eq_false x2]; simp
            have d2 : decide (f ≤ a + o) = false := decide_eq_false x2
            clear x2 hs2 hyes
            go_wp2
            go_quiet (fail)
            go_wp2
            go_roundw
            case rel => exact ⟨k + 1, by omega, by go_num, hq, blN HB2.out _⟩
            case measure => simp [intOf]; omega
        · have hq : Hid (((l.take (k + 1)).any fun r => decide (r.a ≤ t) && decide (f ≤ r.a + r.o)) = false) := by show _ = _; rw [hs2.out, decide_eq_false x1]; rfl
          have d1 : decide (a ≤ t) = false := decide_eq_false x1
          clear x1 hs2 hyes
          go_wp2
          go_quiet (fail)
          go_wp2
          go_roundw
          case rel => exact ⟨k + 1, by omega, by go_num, hq, blN HB2.out _⟩
          case measure => simp [intOf]; omega
      · obtain rfl : k = l.length := by omega
        have hq : Hid (z = false) := by
          have := hn.out
          rw [List.take_length] at this
          exact hf.out.trans this
        go_wp2
        go_ret
        exact ⟨by rw [hq.out]; rfl, HB.out⟩
  · have hcb : (c == 0) = false := beq_eq_false_iff_ne.2 c0
    have hf : Hid (z = false) := by show _ = _; rw [hz.out]; unfold touchM; rw [if_pos (by rw [← hc.out]; exact c0)]
    clear hc c0 hz
    go_loopw [7] (fun s5 wr => s5 = .int .i64 0 ∧ Hid (Below w.heap.size w wr)) (fun _ _ => 0)
    case atStart => exact ⟨rfl, Below.refl _ _⟩
    case round =>
      obtain ⟨rfl, HB⟩ := hrel
      by_cases hl : 0 < l.length
      · have hlI : (0 : Int) < (l.length : Int) := by omega
        have CC := Lib.hid (HC.out wr HB.out)
        go_wp2_with fail
        refine CC.out.mono ?_
        rintro e w1 ⟨rfl, hb⟩
        have HB2 := Lib.hid (HB.out.trans (hb.mono HB.out.size))
        clear CC hb
        go_wp2
        go_ret
        exact ⟨by rw [hf.out]; rfl, HB2.out⟩
      · have hl0 : (l.length : Int) = 0 := by omega
        clear hl
        go_wp2
        go_ret
        exact ⟨by rw [hf.out]; rfl, HB.out⟩
end Go.Proofs.Ytiilbgejdpnfpaa

/- Places through maps: pairs; are two maps the same; where what came begins. -/
namespace Go.Proofs.Ytiilbgejdpnfpaa
open Go.RowKit Go.Mps

theorem pairM_iff : ∀ l m : List Rg, pairM l m = true ↔ l.length = m.length ∧ ∀ k (h : k < l.length) (h' : k < m.length), m[k].n = l[k].o
  | [], [] => by simp [pairM]
  | [], _ :: _ => by simp [pairM]
  | _ :: _, [] => by simp [pairM]
  | a :: l, b :: m => by
    rw [pairM, Bool.and_eq_true, pairM_iff l m, decide_eq_true_eq]
    constructor
    · rintro ⟨h1, h2, h3⟩
      refine ⟨by simp [h2], fun k h h' => ?_⟩
      cases k with
      | zero => exact h1
      | succ k => exact h3 k (by simpa using h) (by simpa using h')
    · rintro ⟨h2, h3⟩
      refine ⟨h3 0 (by simp) (by simp), by simpa using h2, fun k h h' => ?_⟩
      have := h3 (k + 1) (by simpa using h) (by simpa using h')
      simpa using this
theorem pair_no {l m : List Rg} {k : Nat} (h : k < l.length) (h' : k < m.length) (hne : m[k].n ≠ l[k].o) : pairM l m = false := by
  rw [Bool.eq_false_iff]; intro e; exact hne (((pairM_iff l m).1 e).2 k h h')
theorem pair_len {l m : List Rg} (h : l.length ≠ m.length) : pairM l m = false := by
  rw [Bool.eq_false_iff]; intro e; exact h ((pairM_iff l m).1 e).1

set_option maxRecDepth 100000 in
set_option maxHeartbeats 1000000 in
theorem refMpPair_any (v1 v2 : Value) (l m : List Rg) (B : Nat) (w : World) (h1 : Rgs w B v1 l) (h2 : Rgs w B v2 m) (hB : B ≤ w.heap.size) :
    Calls Try.prog 35 #[v1, v2] w fun e w' => e = .returned (.bool (pairM l m)) ∧ Below w.heap.size w w' := by
  obtain ⟨A, cap, rfl⟩ := h1.form
  obtain ⟨A2, cap2, rfl⟩ := h2.form
  have hm1 := h1.max
  have hm2 := h2.max
  unfold maxLen at hm1 hm2
  obtain ⟨z, hz⟩ : ∃ z, Hid (z = pairM l m) := ⟨pairM l m, Lib.hid rfl⟩
  rw [← hz.out]
  have HV1 := Lib.hid (fun w' (h : Below w.heap.size w w') => h1.below (h.mono hB))
  have HV2 := Lib.hid (fun w' (h : Below w.heap.size w w') => h2.below (h.mono hB))
  clear h1 h2
  by_cases hl : l.length = m.length
  · have hlI : ((l.length : Int) == (m.length : Int)) = true := by simp [hl]
    have HL := Lib.hid hl
    have hne : ((l.length : Int) != (m.length : Int)) = false := by simp [hl]
    clear hl hlI
    go_enter Try.func35, Try.ntmps35
    go_wp2
    go_loopw [5] (fun x wr => ∃ k : Nat, k ≤ l.length ∧ x = .int .i64 k ∧ Hid (∀ j (h : j < l.length) (h' : j < m.length), j < k → m[j].n = l[j].o) ∧ Hid (Below w.heap.size w wr)) (fun x _ => l.length - (intOf x).toNat)
    case atStart => exact ⟨0, Nat.zero_le _, rfl, fun j h h' hj => by omega, Below.refl _ _⟩
    case round =>
      obtain ⟨k, hk, rfl, hall, HB⟩ := hrel
      by_cases hlt : k < l.length
      · have hltm : k < m.length := by have := HL.out; omega
        have hkI : (k : Int) < (l.length : Int) := by omega
        have hkM : (k : Int) < (m.length : Int) := by omega
        have hk0 : (0 : Int) ≤ k := by omega
        obtain ⟨b, off, rfl, _, _, _, c1, _⟩ := (HV1.out _ HB.out).at hlt
        obtain ⟨b2, off2, rfl, _, _, _, _, g2⟩ := (HV2.out _ HB.out).at hltm
        have hno := Lib.hid (pair_no hlt hltm)
        have hyes : Hid (m[k].n = l[k].o → ∀ j (h : j < l.length) (h' : j < m.length), j < k + 1 → m[j].n = l[j].o) := fun e j h h' hj => by
          by_cases ej : j = k
          · subst ej; exact e
          · exact hall.out j h h' (by omega)
        rw [← hz.out] at hno
        obtain ⟨o, ho⟩ : ∃ o, Hid (o = l[k].o) := ⟨l[k].o, Lib.hid rfl⟩
        obtain ⟨n, hn⟩ : ∃ n, Hid (n = m[k].n) := ⟨m[k].n, Lib.hid rfl⟩
        rw [← ho.out] at c1
        rw [← hn.out] at g2
        by_cases e : n = o
        · have hq := Lib.hid (hyes.out (by rw [← hn.out, ← ho.out]; exact e))
          have hb : (n != o) = false := by simp [e]
          clear hno hyes ho hn e
          go_wp2
          go_quiet (fail)
          go_wp2
          go_roundw
          case rel => exact ⟨k + 1, by omega, by go_num, hq, blN HB.out _⟩
          case measure => simp [intOf]; omega
        · have hq := Lib.hid (hno.out (by rw [← hn.out, ← ho.out]; exact e))
          have hb : (n != o) = true := by simpa using e
          clear hno hyes ho hn e
          go_wp2
          go_quiet (fail)
          go_wp2
          go_ret
          exact ⟨by rw [hq.out]; rfl, blN HB.out _⟩
      · obtain rfl : k = l.length := by omega
        have hq : Hid (z = true) := by show _ = _; rw [hz.out, pairM_iff]; exact ⟨HL.out, fun k h h' => hall.out k h h' h⟩
        go_wp2
        go_ret
        exact ⟨by rw [hq.out]; rfl, HB.out⟩
  · have hne : ((l.length : Int) != (m.length : Int)) = true := by simp; omega
    have hq : Hid (z = false) := hz.out.trans (pair_len hl)
    clear hl
    go_enter Try.func35, Try.ntmps35
    go_wp2
    go_ret
    exact ⟨by rw [hq.out]; rfl, Below.refl _ _⟩

def eqR (a b : Rg) : Bool := (a.a == b.a) && ((a.o == b.o) && (a.n == b.n))
theorem eqR_iff (a b : Rg) : eqR a b = true ↔ a = b := by
  cases a; cases b; simp [eqR]
theorem same_no {l m : List Rg} {k : Nat} (h : k < l.length) (h' : k < m.length) (hne : eqR l[k] m[k] = false) : decide (l = m) = false := by
  rw [decide_eq_false_iff_not]; rintro rfl
  rw [(eqR_iff _ _).2 rfl] at hne; cases hne
theorem eqRg_run (a b : Rg) (w : World) : (Op.equalIn 10000 23 (.agg #[.int .i64 a.a, .int .i64 a.o, .int .i64 a.n]) (.agg #[.int .i64 b.a, .int .i64 b.o, .int .i64 b.n])).run Try.prog w = .ok (eqR a b) w := by
  have u3 := Try.underlying3
  have a3 := Try.isAgg3
  have z3 := Try.sizeOf3
  have hS : Try.prog.underlying 23 = some (.struct (Try.prog.fieldsOf 23)) := by kernel_rfl
  have hp : Try.prog.stoodInHeld 23 = false := by kernel_rfl
  rw [show (10000 : Nat) = 9999 + 1 from rfl, run_equalIn_agg w 9999 23 _ _ hS hp]
  simp only [Program.fieldsOf, Try.underlying23]
  go_simp
  unfold eqR
  cases h1 : (a.a == b.a) <;> cases h2 : (a.o == b.o) <;> cases h3 : (a.n == b.n) <;> simp_all
theorem neqRg_run (a b : Rg) (w : World) : (binOp .neq 23 (.agg #[.int .i64 a.a, .int .i64 a.o, .int .i64 a.n]) (.agg #[.int .i64 b.a, .int .i64 b.o, .int .i64 b.n])).run Try.prog w = .ok (.bool (!(eqR a b))) w := by
  rw [run_neq_struct, eqRg_run]; rfl

set_option maxRecDepth 100000 in
set_option maxHeartbeats 1000000 in
theorem kitMap_any (v1 v2 : Value) (l m : List Rg) (B : Nat) (w : World) (h1 : Rgs w B v1 l) (h2 : Rgs w B v2 m) (hB : B ≤ w.heap.size) :
    Calls Try.prog 16 #[v1, v2] w fun e w' => e = .returned (.bool (decide (l = m))) ∧ Below w.heap.size w w' := by
  obtain ⟨A, cap, rfl⟩ := h1.form
  obtain ⟨A2, cap2, rfl⟩ := h2.form
  have hm1 := h1.max
  have hm2 := h2.max
  unfold maxLen at hm1 hm2
  obtain ⟨z, hz⟩ : ∃ z, Hid (z = decide (l = m)) := ⟨decide (l = m), Lib.hid rfl⟩
  rw [← hz.out]
  have HV1 := Lib.hid (fun w' (h : Below w.heap.size w w') => h1.below (h.mono hB))
  have HV2 := Lib.hid (fun w' (h : Below w.heap.size w w') => h2.below (h.mono hB))
  clear h1 h2
  by_cases hl : l.length = m.length
  · have HL := Lib.hid hl
    have hne : ((l.length : Int) != (m.length : Int)) = false := by simp [hl]
    clear hl
    go_enter Try.func16, Try.ntmps16
    go_wp2
    go_loopw [5] (fun x wr => ∃ k : Nat, k ≤ l.length ∧ x = .int .i64 k ∧ Hid (∀ j (h : j < l.length) (h' : j < m.length), j < k → l[j] = m[j]) ∧ Hid (Below w.heap.size w wr)) (fun x _ => l.length - (intOf x).toNat)
    case atStart => exact ⟨0, Nat.zero_le _, rfl, fun j h h' hj => by omega, Below.refl _ _⟩
    case round =>
      obtain ⟨k, hk, rfl, hall, HB⟩ := hrel
      by_cases hlt : k < l.length
      · have hltm : k < m.length := by have := HL.out; omega
        have hkI : (k : Int) < (l.length : Int) := by omega
        have hkM : (k : Int) < (m.length : Int) := by omega
        have hk0 : (0 : Int) ≤ k := by omega
        obtain ⟨b, off, rfl, _, _, c0, c1, c2⟩ := (HV1.out _ HB.out).at hlt
        obtain ⟨b2, off2, rfl, _, _, g0, g1, g2⟩ := (HV2.out _ HB.out).at hltm
        have hno := Lib.hid (same_no hlt hltm)
        have hyes : Hid (l[k] = m[k] → ∀ j (h : j < l.length) (h' : j < m.length), j < k + 1 → l[j] = m[j]) := fun e j h h' hj => by
          by_cases ej : j = k
          · subst ej; exact e
          · exact hall.out j h h' (by omega)
        rw [← hz.out] at hno
        have hq := neqRg_run l[k] m[k]
        have hgd : Try.prog.eqGuardType Try.prog.depth 23 = false := by kernel_rfl
        obtain ⟨x, hx⟩ : ∃ x, Hid (x = l[k]) := ⟨l[k], Lib.hid rfl⟩
        obtain ⟨y, hy⟩ : ∃ y, Hid (y = m[k]) := ⟨m[k], Lib.hid rfl⟩
        rw [← hx.out] at c0 c1 c2 hno hyes hq
        rw [← hy.out] at g0 g1 g2 hno hyes hq
        clear hx hy
        obtain ⟨xa, xo, xn⟩ := x
        obtain ⟨ya, yo, yn⟩ := y
        dsimp only at c0 c1 c2 g0 g1 g2 hq
        cases he : eqR ⟨xa, xo, xn⟩ ⟨ya, yo, yn⟩
        · have hf := Lib.hid (hno.out he)
          rw [he] at hq
          clear he hno hyes
          go_wp2
          go_quiet (fail)
          go_wp2
          go_ret
          exact ⟨by rw [hf.out]; rfl, blN HB.out _⟩
        · have hf := Lib.hid (hyes.out ((eqR_iff _ _).1 he))
          rw [he] at hq
          clear he hno hyes
          go_wp2
          go_quiet (fail)
          go_wp2
          go_roundw
          case rel => exact ⟨k + 1, by omega, by go_num, hf, blN HB.out _⟩
          case measure => simp [intOf]; omega
      · obtain rfl : k = l.length := by omega
        have hq : Hid (z = true) := by
          show _ = _
          rw [hz.out, decide_eq_true_eq]
          exact List.ext_getElem HL.out fun j h h' => hall.out j h h' h
        go_wp2
        go_ret
        exact ⟨by rw [hq.out]; rfl, HB.out⟩
  · have hne : ((l.length : Int) != (m.length : Int)) = true := by simp; omega
    have hq : Hid (z = false) := by show _ = _; rw [hz.out, decide_eq_false_iff_not]; rintro rfl; exact hl rfl
    clear hl
    go_enter Try.func16, Try.ntmps16
    go_wp2
    go_ret
    exact ⟨by rw [hq.out]; rfl, Below.refl _ _⟩

/-- where what came by a range begins: what is gone through so far -/
theorem cameM_at (l : List Rg) {i : Nat} (h : i < l.length) : cameM l i = l[i].a + sumM (l.take i) := by
  unfold cameM; rw [List.getElem?_eq_getElem h]; rfl
set_option maxRecDepth 100000 in
set_option maxHeartbeats 1000000 in
theorem refMpCame_any (v : Value) (l : List Rg) (B : Nat) (w : World) (hv : Rgs w B v l) (hB : B ≤ w.heap.size) (hok : okG (-1) l = true) (h64 : l.length ≤ 64) (i : Nat) (hi : i < l.length) :
    Calls Try.prog 37 #[v, .int .i64 i] w fun e w' => e = .returned (.int .i64 (cameM l i)) ∧ Below w.heap.size w w' := by
  obtain ⟨A, cap, rfl⟩ := hv.form
  obtain ⟨z, hz⟩ : ∃ z, Hid (z = cameM l i) := ⟨cameM l i, Lib.hid rfl⟩
  rw [← hz.out]
  have hc := Lib.hid (cameM_at l hi)
  rw [← hz.out] at hc
  have HV := Lib.hid (fun w' (h : Below w.heap.size w w') => hv.below (h.mono hB))
  have HR := Lib.hid (fun r hr => okR_of_mem hok r hr)
  have hri := (okR_iff l[i]).1 (HR.out _ (List.getElem_mem hi))
  obtain ⟨b, off, rfl, hbB, hcap, c0, _, _⟩ := hv.at hi
  obtain ⟨a, ha⟩ : ∃ a, Hid (a = l[i].a) := ⟨l[i].a, Lib.hid rfl⟩
  rw [← ha.out] at c0 hc hri
  have hr1 := hri.1
  have hr2 := hri.2.1
  have hiI : (i : Int) < (l.length : Int) := by omega
  have hi0 : (0 : Int) ≤ i := by omega
  have hiM : (i : Int) ≤ 64 := by omega
  clear hv hri hok hz ha
  go_enter Try.func37, Try.ntmps37
  go_wp2
  go_loopw [5, 6] (fun s5 s6 wr => ∃ (k : Nat) (d : Int), k ≤ i ∧ s6 = .int .i64 k ∧ s5 = .int .i64 (a + d) ∧ Hid (d = sumM (l.take k)) ∧ -(1048576 * (k : Int)) ≤ d ∧ d ≤ 1048576 * (k : Int) ∧ Hid (Below w.heap.size w wr)) (fun _ x _ => i - (intOf x).toNat)
  case atStart => exact ⟨0, 0, Nat.zero_le _, rfl, by simp, rfl, by omega, by omega, Below.refl _ _⟩
  case round =>
    obtain ⟨k, d, hk, rfl, rfl, hd, hd1, hd2, HB⟩ := hrel
    by_cases hlt : k < i
    · have hkI : (k : Int) < (i : Int) := by omega
      have hkL : (k : Int) < (l.length : Int) := by omega
      have hk0 : (0 : Int) ≤ k := by omega
      have hll : k < l.length := by omega
      obtain ⟨b', off', e', _, _, _, d1, d2⟩ := (HV.out _ HB.out).at hll
      simp only [Option.some.injEq, Addr.mk.injEq, and_true] at e'
      obtain ⟨rfl, rfl⟩ := e'
      have hrr := (okR_iff l[k]).1 (HR.out _ (List.getElem_mem hll))
      have hs2 := Lib.hid (sum_succ l hll)
      rw [← hd.out] at hs2
      obtain ⟨r, hr⟩ : ∃ r, Hid (r = l[k]) := ⟨l[k], Lib.hid rfl⟩
      rw [← hr.out] at d1 d2 hrr hs2
      clear hr
      obtain ⟨a2, o, n⟩ := r
      dsimp only at d1 d2 hrr hs2
      have hw1 : IntKind.i64.wrap (a + d + n) = a + d + n := IntWalk.i64_in _ (by omega)
      have hw2 : IntKind.i64.wrap (a + d + n - o) = a + (d + n - o) := by rw [IntWalk.i64_in _ (by omega)]; omega
      have hb1 : -(1048576 * ((k + 1 : Nat) : Int)) ≤ d + n - o := by omega
      have hb2 : d + n - o ≤ 1048576 * ((k + 1 : Nat) : Int) := by omega
      have hd' : Hid (d + n - o = sumM (l.take (k + 1))) := hs2.out.symm
      clear hrr hd hs2
      go_wp2
      go_quiet (fail)
      go_wp2
      go_roundw
      case rel => exact ⟨k + 1, d + n - o, by omega, by go_num, rfl, hd', hb1, hb2, blN HB.out _⟩
      case measure => simp [intOf]; omega
    · obtain rfl : k = i := by omega
      have hq : Hid (z = a + d) := by show _ = _; rw [hc.out, hd.out]
      go_wp2
      go_ret
      exact ⟨by rw [hq.out]; rfl, HB.out⟩
end Go.Proofs.Ytiilbgejdpnfpaa
