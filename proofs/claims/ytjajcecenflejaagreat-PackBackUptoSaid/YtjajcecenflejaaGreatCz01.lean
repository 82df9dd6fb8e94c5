/- YtjajcecenflejaaGreatCz01 -/
import Derived.WalkKit
import Derived.WalkSpells
import Derived.WalkLawsBesides
import Derived.Maps.AppendAt
import Derived.Deep.Draws
import Derived.Deep.RegionHeld3
import Derived.Deep.QuietTactic
import Derived.BigQuiet
namespace Go.Proofs.YtjajcecenflejaaGreat
open Go.RowKit
def Rd (w : World) (B : Nat) (v : Value) (sz n : Nat) (cs : List Value) : Prop :=
  ∃ A cap, v = .slice A n cap ∧ cs.length = n * sz ∧ n ≤ cap ∧ cap ≤ maxLen ∧
    (n = 0 ∨ ∃ b off, A = some ⟨b, off, none⟩ ∧ b < B ∧ ∀ j u, cs[j]? = some u → w.cell? ⟨b, off + j, none⟩ = some u)
section
variable {w w' : World} {B B' : Nat} {v : Value} {sz n : Nat} {cs : List Value}
theorem Rd.keep (h : Rd w B v sz n cs) (hk : ∀ b o, b < B → w'.cell? ⟨b, o, none⟩ = w.cell? ⟨b, o, none⟩) : Rd w' B v sz n cs := by
  obtain ⟨A, cap, rfl, h0, h1, h2, h3⟩ := h
  refine ⟨A, cap, rfl, h0, h1, h2, h3.imp id ?_⟩
  rintro ⟨b, off, hA, hb, hc⟩
  exact ⟨b, off, hA, hb, fun j u hu => (hk _ _ hb).trans (hc j u hu)⟩
theorem Rd.below (h : Rd w B v sz n cs) (hb : Below B w w') : Rd w' B v sz n cs := h.keep fun b o hl => hb.cell (p := ⟨b, o, none⟩) hl
theorem Rd.mono (h : Rd w B v sz n cs) (hB : B ≤ B') : Rd w B' v sz n cs := by
  obtain ⟨A, cap, rfl, h0, h1, h2, h3⟩ := h
  refine ⟨A, cap, rfl, h0, h1, h2, h3.imp id ?_⟩
  rintro ⟨b, off, hA, hb, hc⟩
  exact ⟨b, off, hA, by omega, hc⟩
theorem Rd.drew (h : Rd w B v sz n cs) : Rd w.drew B v sz n cs := h
theorem Rd.drewN (h : Rd w B v sz n cs) (k : Nat) : Rd (w.drewN k) B v sz n cs := h
theorem Rd.alloc (h : Rd w B v sz n cs) (hB : B ≤ w.heap.size) (o : Obj) : Rd (w.alloc o) B v sz n cs := h.below ((Below.refl _ _).alloc hB _)
theorem Rd.nil (w : World) (B sz : Nat) : Rd w B (.slice none 0 0) sz 0 [] := ⟨none, 0, rfl, by simp, Nat.le_refl _, by unfold maxLen; omega, .inl rfl⟩
theorem Rd.form (h : Rd w B v sz n cs) : ∃ A cap, v = .slice A n cap := by obtain ⟨A, cap, h, _⟩ := h; exact ⟨A, cap, h⟩
theorem Rd.len (h : Rd w B v sz n cs) : cs.length = n * sz := by obtain ⟨A, cap, _, h, _⟩ := h; exact h
theorem Rd.at {A : Option Addr} {cap : Nat} (h : Rd w B (.slice A n cap) sz n cs) (hn : 0 < n) :
    ∃ b off, A = some ⟨b, off, none⟩ ∧ b < B ∧ n ≤ cap ∧ ∀ j u, cs[j]? = some u → w.cell? ⟨b, off + j, none⟩ = some u := by
  obtain ⟨A', cap', hv, h0, h1, h2, h3⟩ := h
  simp only [Value.slice.injEq, true_and] at hv
  obtain ⟨rfl, rfl⟩ := hv
  rcases h3 with h3 | ⟨b, off, hA, hb, hc⟩
  · omega
  · exact ⟨b, off, hA, hb, h1, hc⟩
theorem Rd.max (h : Rd w B v sz n cs) : n ≤ maxLen := by obtain ⟨A, cap, _, _, h1, h2, _⟩ := h; omega
theorem Rd.own {e : TypeId} {base : Nat} (h : w.ownsRow base e sz v n cs) : Rd w w.heap.size v sz n cs := by
  have h0 := h
  rcases h.2 with ⟨rfl, hn⟩ | ⟨g, cap, cur, rfl, hb, hg, h1, h2, h3, h4⟩
  · subst hn
    have hl := h.1
    rw [Nat.zero_mul] at hl
    obtain rfl := List.eq_nil_of_length_eq_zero hl
    exact Rd.nil w _ _
  · refine ⟨_, cap, rfl, h.1, h1, h2, .inr ⟨g, 0, rfl, (Array.getElem?_eq_some_iff.1 hg).1, fun j u hu => ?_⟩⟩
    have := World.ownsRow.cells h0 (g := g) rfl j u hu
    rw [Addr.add_lit] at this
    exact this
end
section
variable {w w' : World} {e : TypeId} {base base' sz n : Nat} {v : Value} {cs : List Value}
theorem own_all (h : w.ownsRow base e sz v n cs) (hb : Below w.heap.size w w') : w'.ownsRow base e sz v n cs :=
  World.ownsRow.kept h (row := none) ⟨hb.os, hb.tape, hb.output, hb.size, fun k hk _ => hb.block k hk⟩ (by cases v.ownBlock <;> simp)
theorem own_form (h : w.ownsRow base e sz v n cs) : ∃ A cap, v = .slice A n cap := by
  rcases h.2 with ⟨rfl, rfl⟩ | ⟨g, cap, cur, rfl, _⟩
  · exact ⟨none, 0, rfl⟩
  · exact ⟨_, cap, rfl⟩
end
theorem Rd.lit (w : World) (e : TypeId) (sz n : Nat) (cs : Array Value) (fr : Nat × Nat) (hn : cs.size = n * sz) (hm : n ≤ 1000000000000) :
    Rd (w.alloc (.cells cs e fr)) (w.heap.size + 1) (.slice (some ⟨w.heap.size, 0, none⟩) n n) sz n cs.toList := by
  refine ⟨_, _, rfl, by simpa using hn, Nat.le_refl _, by unfold maxLen; omega, .inr ⟨w.heap.size, 0, rfl, by omega, fun j u hu => ?_⟩⟩
  rw [cell_of_row (w.alloc (.cells cs e fr)) w.heap.size _ cs e fr (heap_alloc_new w _), ← Array.getElem?_toList, Nat.zero_add]
  exact hu
theorem ba_toList (s : ByteArray) : s.toList = s.data.toList := ByteArray.toList_eq s
theorem toList_inj {a b : ByteArray} (h : a.toList = b.toList) : a = b := by
  rw [ba_toList, ba_toList] at h
  cases a; cases b; congr 1
  exact Array.toList_inj.1 h
theorem eqS_iff (a b : ByteArray) : (a.toList == b.toList) = true ↔ a = b := by
  constructor
  · intro h; exact toList_inj (by simpa using h)
  · rintro rfl; simp
end Go.Proofs.YtjajcecenflejaaGreat
namespace Go.Proofs.YtjajcecenflejaaGreat
open Go.RowKit
inductive Dt where
  | v (x : Value)
  | l (sz n : Nat) (cs : List Dt)
inductive Lies (w : World) (S : Nat → Prop) : Value → Dt → Prop
  | v (x : Value) (h : x.oneCell' = true) : Lies w S x (.v x)
  | l (A : Option Addr) (sz n cap : Nat) (cs : List Value) (ds : List Dt) (h : cs.length = ds.length) (h0 : cs.length = n * sz) (h1 : n ≤ cap) (h2 : cap ≤ maxLen)
      (h3 : n = 0 ∨ ∃ b off, A = some ⟨b, off, none⟩ ∧ (S b ∧ b < w.heap.size) ∧ ∀ j u, cs[j]? = some u → w.cell? ⟨b, off + j, none⟩ = some u)
      (hk : ∀ i (hi : i < ds.length), Lies w S (cs[i]'(by omega)) ds[i]) : Lies w S (.slice A n cap) (.l sz n ds)
def Kept2 (S S' : Nat → Prop) (w w' : World) : Prop := ∀ b, S b → b < w.heap.size → S' b ∧ b < w'.heap.size ∧ w'.heap[b]? = w.heap[b]?
section
variable {w w' w'' : World} {S S' S'' : Nat → Prop} {v : Value} {d : Dt}
theorem Kept2.refl (S : Nat → Prop) (w : World) : Kept2 S S w w := fun _ h h2 => ⟨h, h2, rfl⟩
theorem Kept2.trans (h : Kept2 S S' w w') (k : Kept2 S' S'' w' w'') : Kept2 S S'' w w'' := fun b h1 h2 => by
  obtain ⟨a1, a2, a3⟩ := h b h1 h2
  obtain ⟨b1, b2, b3⟩ := k b a1 a2
  exact ⟨b1, b2, b3.trans a3⟩
theorem Kept2.below (h : Below w.heap.size w w') : Kept2 S S w w' := fun b h1 h2 => ⟨h1, Nat.lt_of_lt_of_le h2 h.size, h.block b h2⟩
theorem Kept2.alloc (o : Obj) : Kept2 S S w (w.alloc o) := .below ((Below.refl _ _).alloc (Nat.le_refl _) _)
theorem Kept2.grown {row : Option Nat} (hg : w.grownBy w' row) (hS : ∀ b, S b → b < w.heap.size → some b ≠ row ∧ S' b) : Kept2 S S' w w' :=
  fun b h1 h2 => ⟨(hS b h1 h2).2, Nat.lt_of_lt_of_le h2 hg.size, hg.block b h2 (hS b h1 h2).1⟩
theorem Lies.keep (h : Lies w S v d) (hk : Kept2 S S' w w') : Lies w' S' v d := by
  induction h with
  | v x h => exact .v x h
  | l A sz n cap cs ds h h0 h1 h2 h3 _ ih =>
    refine .l A sz n cap cs ds h h0 h1 h2 (h3.imp id ?_) ih
    rintro ⟨b, off, hA, ⟨hs, hb⟩, hc⟩
    obtain ⟨k1, k2, k3⟩ := hk b hs hb
    exact ⟨b, off, hA, ⟨k1, k2⟩, fun j u hu => (World.cell?_of_block (w := w) (a := ⟨b, off + j, none⟩) k3).trans (hc j u hu)⟩
theorem Lies.under (h : Lies w S v d) (hb : Below w.heap.size w w') : Lies w' S v d := h.keep (.below hb)
theorem Lies.mono (h : Lies w S v d) (hS : ∀ b, S b → b < w.heap.size → S' b) : Lies w S' v d := h.keep fun b h1 h2 => ⟨hS b h1 h2, h2, rfl⟩
theorem Lies.drewN (h : Lies w S v d) (n : Nat) : Lies (w.drewN n) S v d := h.keep fun _ h1 h2 => ⟨h1, h2, rfl⟩
theorem Lies.one (h : Lies w S v d) : v.oneCell' = true := by cases h with
  | v x h => exact h
  | l => rfl
theorem Lies.val {x : Value} (h : Lies w S v (.v x)) : v = x := by cases h; rfl
theorem Lies.form {sz n : Nat} {ds : List Dt} (h : Lies w S v (.l sz n ds)) : ∃ A cap, v = .slice A n cap := by cases h; exact ⟨_, _, rfl⟩
theorem Lies.max {sz n : Nat} {ds : List Dt} (h : Lies w S v (.l sz n ds)) : n ≤ maxLen := by cases h; omega
theorem Lies.len {sz n : Nat} {ds : List Dt} (h : Lies w S v (.l sz n ds)) : ds.length = n * sz := by cases h; omega
theorem Lies.nil (w : World) (S : Nat → Prop) (sz : Nat) : Lies w S (.slice none 0 0) (.l sz 0 []) :=
  .l none sz 0 0 [] [] rfl (by simp) (Nat.le_refl _) (by unfold maxLen; omega) (.inl rfl) fun i hi => by simp at hi
theorem Lies.cell {A : Option Addr} {cap sz n : Nat} {ds : List Dt} (h : Lies w S (.slice A n cap) (.l sz n ds)) (hn : 0 < n) :
    ∃ b off, A = some ⟨b, off, none⟩ ∧ (S b ∧ b < w.heap.size) ∧ n ≤ cap ∧ ∀ (j : Nat) (e : Dt), ds[j]? = some e → ∃ u, w.cell? ⟨b, off + j, none⟩ = some u ∧ Lies w S u e := by
  cases h with
  | l _ _ _ _ cs _ h h0 h1 h2 h3 hk =>
    rcases h3 with h3 | ⟨b, off, hA, hb, hc⟩
    · omega
    · refine ⟨b, off, hA, hb, h1, fun j e he => ?_⟩
      obtain ⟨hj, rfl⟩ := List.getElem?_eq_some_iff.1 he
      exact ⟨cs[j]'(by omega), hc j _ (List.getElem?_eq_getElem (by omega)), hk j hj⟩
end
class Cl (T : Type) where
  sz : Nat
  c : T → List Dt
  len : ∀ x, (c x).length = sz
def cD {T : Type} [Cl T] (l : List T) : List Dt := l.flatMap Cl.c
def lD {T : Type} [Cl T] (l : List T) : Dt := .l (Cl.sz T) l.length (cD l)
def Ls {T : Type} [Cl T] (w : World) (S : Nat → Prop) (v : Value) (l : List T) : Prop := Lies w S v (lD l)
theorem cD_get {T : Type} [Cl T] (l : List T) (k : Nat) (hk : k < l.length) (j : Nat) (hj : j < Cl.sz T) : (cD l)[k * Cl.sz T + j]? = (Cl.c l[k])[j]? := by
  unfold cD
  induction l generalizing k with
  | nil => simp at hk
  | cons a l ih =>
    cases k with
    | zero =>
      simp only [List.flatMap_cons, List.getElem_cons_zero, Nat.zero_mul, Nat.zero_add]
      rw [List.getElem?_append_left (by rw [Cl.len]; exact hj)]
    | succ k =>
      have := ih k (by simpa using hk)
      simp only [List.flatMap_cons, List.getElem_cons_succ]
      rw [List.getElem?_append_right (by rw [Cl.len, Nat.succ_mul]; omega), Cl.len, ← this, show (k + 1) * Cl.sz T + j - Cl.sz T = k * Cl.sz T + j by rw [Nat.succ_mul]; omega]
section
variable {T : Type} [Cl T] {w w' : World} {S S' : Nat → Prop} {v : Value} {l : List T}
theorem Ls.keep (h : Ls w S v l) (hk : Kept2 S S' w w') : Ls w' S' v l := Lies.keep h hk
theorem Ls.under (h : Ls w S v l) (hb : Below w.heap.size w w') : Ls w' S v l := Lies.under h hb
theorem Ls.mono (h : Ls w S v l) (hS : ∀ b, S b → b < w.heap.size → S' b) : Ls w S' v l := Lies.mono h hS
theorem Ls.form (h : Ls w S v l) : ∃ A cap, v = .slice A l.length cap := Lies.form h
theorem Ls.max (h : Ls w S v l) : l.length ≤ maxLen := Lies.max h
theorem Ls.one (h : Ls w S v l) : v.oneCell' = true := Lies.one h
theorem Ls.nil (w : World) (S : Nat → Prop) : Ls w S (.slice none 0 0) ([] : List T) := Lies.nil w S _
theorem Ls.at {A : Option Addr} {cap k : Nat} (h : Ls w S (.slice A l.length cap) l) (hk : k < l.length) :
    ∃ b off, A = some ⟨b, off, none⟩ ∧ (S b ∧ b < w.heap.size) ∧ l.length ≤ cap ∧ ∀ (j : Nat) (e : Dt), j < Cl.sz T → (Cl.c l[k])[j]? = some e → ∃ u, w.cell? ⟨b, off + k * Cl.sz T + j, none⟩ = some u ∧ Lies w S u e := by
  obtain ⟨b, off, rfl, hb, hcap, hc⟩ := Lies.cell (show Lies w S _ (.l _ _ _) from h) (by omega)
  refine ⟨b, off, rfl, hb, hcap, fun j e hj he => ?_⟩
  obtain ⟨u, h1, h2⟩ := hc (k * Cl.sz T + j) e (by rw [cD_get l k hk j hj]; exact he)
  exact ⟨u, by rw [Nat.add_assoc]; exact h1, h2⟩
end
noncomputable def tf (P : Prop) : Bool := @decide P (Classical.propDecidable P)
theorem tf_yes {P : Prop} (h : P) : tf P = true := by unfold tf; exact @decide_eq_true P (Classical.propDecidable P) h
theorem tf_no {P : Prop} (h : ¬ P) : tf P = false := by unfold tf; exact @decide_eq_false P (Classical.propDecidable P) h
theorem tf_iff {P : Prop} : tf P = true ↔ P := by unfold tf; exact @decide_eq_true_iff P (Classical.propDecidable P)
theorem tf_of {P : Prop} {b : Bool} (h : b = true ↔ P) : b = tf P := by
  cases b
  · exact (tf_no fun hp => by simpa using h.2 hp).symm
  · exact (tf_yes (h.1 rfl)).symm
end Go.Proofs.YtjajcecenflejaaGreat
namespace Go.Proofs.YtjajcecenflejaaGreat
structure At where
  n : ByteArray
  v : ByteArray
structure Sp where
  n : ByteArray
  d : ByteArray
  m : Bool
structure Mk where
  t : ByteArray
  a : List At
structure Tk where
  k : Int
  t : ByteArray
  a : List At
  m : List Mk
  c : Int
end Go.Proofs.YtjajcecenflejaaGreat
namespace Go.Proofs.YtjajcecenflejaaGreat
open Go.RowKit
structure St where
  k : Int
  f : Int
  t : Int
  g : Int
  e : Int
  i : Int
  mid : List Tk
  m : Mk
  n : ByteArray
  v : ByteArray
inductive Nd where
  | mk (t : ByteArray) (a : List At) (m : List Mk) (x : ByteArray) (k : List Nd)
namespace Nd
def t : Nd → ByteArray | .mk t _ _ _ _ => t
def a : Nd → List At | .mk _ a _ _ _ => a
def m : Nd → List Mk | .mk _ _ m _ _ => m
def x : Nd → ByteArray | .mk _ _ _ x _ => x
def k : Nd → List Nd | .mk _ _ _ _ k => k
theorem ind {P : Nd → Prop} (h : ∀ t a m x k, (∀ e ∈ k, P e) → P (.mk t a m x k)) (e : Nd) : P e :=
  Nd.rec (motive_1 := P) (motive_2 := fun l => ∀ e ∈ l, P e) (fun t a m x k ih => h t a m x k ih) (by simp)
    (fun e l h1 h2 x hx => (List.mem_cons.1 hx).elim (fun h => by rw [h]; exact h1) (h2 x)) e
end Nd
structure Ty where
  n : ByteArray
  c : ByteArray
  g : List ByteArray
  i : Bool
  a : List Sp
  m : List ByteArray
structure Mt where
  n : ByteArray
  e : List ByteArray
  a : List Sp
structure Sc where
  t : List Ty
  m : List Mt
abbrev dS (s : ByteArray) : Dt := .v (.string s)
abbrev dI (n : Int) : Dt := .v (.int .i64 n)
abbrev dB (b : Bool) : Dt := .v (.bool b)
instance : Cl ByteArray := ⟨1, fun s => [dS s], fun _ => rfl⟩
instance : Cl Int := ⟨1, fun s => [dI s], fun _ => rfl⟩
instance : Cl At := ⟨2, fun a => [dS a.n, dS a.v], fun _ => rfl⟩
instance : Cl Sp := ⟨3, fun a => [dS a.n, dS a.d, dB a.m], fun _ => rfl⟩
instance : Cl Mk := ⟨2, fun a => [dS a.t, lD a.a], fun _ => rfl⟩
instance : Cl Tk := ⟨5, fun a => [dI a.k, dS a.t, lD a.a, lD a.m, .v (.int .u8 a.c)], fun _ => rfl⟩
instance : Cl St := ⟨11, fun a => [dI a.k, dI a.f, dI a.t, dI a.g, dI a.e, dI a.i, lD a.mid, dS a.m.t, lD a.m.a, dS a.n, dS a.v], fun _ => rfl⟩
mutual
def Nd.c : Nd → List Dt
  | .mk t a m x k => [dS t, lD a, lD m, dS x, .l 5 k.length (Nd.cs k)]
def Nd.cs : List Nd → List Dt
  | [] => []
  | e :: l => Nd.c e ++ Nd.cs l
end
theorem Nd.c_len (e : Nd) : e.c.length = 5 := by cases e; simp [Nd.c]
instance : Cl Nd := ⟨5, Nd.c, Nd.c_len⟩
theorem Nd.cs_eq : ∀ l : List Nd, Nd.cs l = cD l
  | [] => by rw [Nd.cs]; rfl
  | e :: l => by rw [Nd.cs, Nd.cs_eq l]; rfl
theorem Nd.c_eq (e : Nd) : Nd.c e = [dS e.t, lD e.a, lD e.m, dS e.x, lD e.k] := by
  cases e with
  | mk t a m x k => rw [Nd.c, Nd.cs_eq]; rfl
instance : Cl Ty := ⟨6, fun a => [dS a.n, dS a.c, lD a.g, dB a.i, lD a.a, lD a.m], fun _ => rfl⟩
instance : Cl Mt := ⟨3, fun a => [dS a.n, lD a.e, lD a.a], fun _ => rfl⟩
section
variable {w : World} {S : Nat → Prop} {A : Option Addr} {cap k : Nat}
theorem at_s {l : List ByteArray} (h : Ls w S (.slice A l.length cap) l) (hk : k < l.length) :
    ∃ b off, A = some ⟨b, off, none⟩ ∧ (S b ∧ b < w.heap.size) ∧ l.length ≤ cap ∧ w.cell? ⟨b, off + k, none⟩ = some (.string l[k]) := by
  obtain ⟨b, off, rfl, hb, hcap, hc⟩ := h.at hk
  obtain ⟨u0, c0, r0⟩ := hc 0 (dS l[k]) (by decide) rfl
  obtain rfl := r0.val
  exact ⟨b, off, rfl, hb, hcap, by simpa [Cl.sz] using c0⟩
theorem at_at {l : List At} (h : Ls w S (.slice A l.length cap) l) (hk : k < l.length) :
    ∃ b off, A = some ⟨b, off, none⟩ ∧ (S b ∧ b < w.heap.size) ∧ l.length ≤ cap ∧ w.cell? ⟨b, off + k * 2, none⟩ = some (.string l[k].n) ∧ w.cell? ⟨b, off + k * 2 + 1, none⟩ = some (.string l[k].v) := by
  obtain ⟨b, off, rfl, hb, hcap, hc⟩ := h.at hk
  obtain ⟨u0, c0, r0⟩ := hc 0 (dS l[k].n) (by decide) rfl
  obtain ⟨u1, c1, r1⟩ := hc 1 (dS l[k].v) (by decide) rfl
  obtain rfl := r0.val
  obtain rfl := r1.val
  exact ⟨b, off, rfl, hb, hcap, c0, c1⟩
theorem at_sp {l : List Sp} (h : Ls w S (.slice A l.length cap) l) (hk : k < l.length) :
    ∃ b off, A = some ⟨b, off, none⟩ ∧ (S b ∧ b < w.heap.size) ∧ l.length ≤ cap ∧ w.cell? ⟨b, off + k * 3, none⟩ = some (.string l[k].n) ∧ w.cell? ⟨b, off + k * 3 + 1, none⟩ = some (.string l[k].d) ∧ w.cell? ⟨b, off + k * 3 + 1 + 1, none⟩ = some (.bool l[k].m) := by
  obtain ⟨b, off, rfl, hb, hcap, hc⟩ := h.at hk
  obtain ⟨u0, c0, r0⟩ := hc 0 (dS l[k].n) (by decide) rfl
  obtain ⟨u1, c1, r1⟩ := hc 1 (dS l[k].d) (by decide) rfl
  obtain ⟨u2, c2, r2⟩ := hc 2 (dB l[k].m) (by decide) rfl
  obtain rfl := r0.val
  obtain rfl := r1.val
  obtain rfl := r2.val
  exact ⟨b, off, rfl, hb, hcap, c0, c1, c2⟩
theorem at_mk {l : List Mk} (h : Ls w S (.slice A l.length cap) l) (hk : k < l.length) :
    ∃ b off va, A = some ⟨b, off, none⟩ ∧ (S b ∧ b < w.heap.size) ∧ l.length ≤ cap ∧ w.cell? ⟨b, off + k * 2, none⟩ = some (.string l[k].t) ∧ w.cell? ⟨b, off + k * 2 + 1, none⟩ = some va ∧ Ls w S va l[k].a := by
  obtain ⟨b, off, rfl, hb, hcap, hc⟩ := h.at hk
  obtain ⟨u0, c0, r0⟩ := hc 0 (dS l[k].t) (by decide) rfl
  obtain ⟨u1, c1, r1⟩ := hc 1 (lD l[k].a) (by decide) rfl
  obtain rfl := r0.val
  exact ⟨b, off, u1, rfl, hb, hcap, c0, c1, r1⟩
theorem at_tk {l : List Tk} (h : Ls w S (.slice A l.length cap) l) (hk : k < l.length) :
    ∃ b off va vm, A = some ⟨b, off, none⟩ ∧ (S b ∧ b < w.heap.size) ∧ l.length ≤ cap ∧ w.cell? ⟨b, off + k * 5, none⟩ = some (.int .i64 l[k].k) ∧ w.cell? ⟨b, off + k * 5 + 1, none⟩ = some (.string l[k].t) ∧
      w.cell? ⟨b, off + k * 5 + 1 + 1, none⟩ = some va ∧ w.cell? ⟨b, off + k * 5 + 1 + 1 + 1, none⟩ = some vm ∧ w.cell? ⟨b, off + k * 5 + 1 + 1 + 1 + 1, none⟩ = some (.int .u8 l[k].c) ∧ Ls w S va l[k].a ∧ Ls w S vm l[k].m := by
  obtain ⟨b, off, rfl, hb, hcap, hc⟩ := h.at hk
  obtain ⟨u0, c0, r0⟩ := hc 0 (dI l[k].k) (by decide) rfl
  obtain ⟨u1, c1, r1⟩ := hc 1 (dS l[k].t) (by decide) rfl
  obtain ⟨u2, c2, r2⟩ := hc 2 (lD l[k].a) (by decide) rfl
  obtain ⟨u3, c3, r3⟩ := hc 3 (lD l[k].m) (by decide) rfl
  obtain ⟨u4, c4, r4⟩ := hc 4 (.v (.int .u8 l[k].c)) (by decide) rfl
  obtain rfl := r0.val
  obtain rfl := r1.val
  obtain rfl := r4.val
  exact ⟨b, off, u2, u3, rfl, hb, hcap, c0, c1, c2, c3, c4, r2, r3⟩
theorem at_nd {l : List Nd} (h : Ls w S (.slice A l.length cap) l) (hk : k < l.length) :
    ∃ b off va vm vk, A = some ⟨b, off, none⟩ ∧ (S b ∧ b < w.heap.size) ∧ l.length ≤ cap ∧ w.cell? ⟨b, off + k * 5, none⟩ = some (.string l[k].t) ∧ w.cell? ⟨b, off + k * 5 + 1, none⟩ = some va ∧
      w.cell? ⟨b, off + k * 5 + 1 + 1, none⟩ = some vm ∧ w.cell? ⟨b, off + k * 5 + 1 + 1 + 1, none⟩ = some (.string l[k].x) ∧ w.cell? ⟨b, off + k * 5 + 1 + 1 + 1 + 1, none⟩ = some vk ∧ Ls w S va l[k].a ∧ Ls w S vm l[k].m ∧ Ls w S vk l[k].k := by
  obtain ⟨b, off, rfl, hb, hcap, hc⟩ := h.at hk
  have e : Cl.c l[k] = [dS l[k].t, lD l[k].a, lD l[k].m, dS l[k].x, lD l[k].k] := Nd.c_eq _
  rw [e] at hc
  obtain ⟨u0, c0, r0⟩ := hc 0 (dS l[k].t) (by decide) rfl
  obtain ⟨u1, c1, r1⟩ := hc 1 (lD l[k].a) (by decide) rfl
  obtain ⟨u2, c2, r2⟩ := hc 2 (lD l[k].m) (by decide) rfl
  obtain ⟨u3, c3, r3⟩ := hc 3 (dS l[k].x) (by decide) rfl
  obtain ⟨u4, c4, r4⟩ := hc 4 (lD l[k].k) (by decide) rfl
  obtain rfl := r0.val
  obtain rfl := r3.val
  exact ⟨b, off, u1, u2, u4, rfl, hb, hcap, c0, c1, c2, c3, c4, r1, r2, r4⟩
theorem at_ty {l : List Ty} (h : Ls w S (.slice A l.length cap) l) (hk : k < l.length) :
    ∃ b off vg va vm, A = some ⟨b, off, none⟩ ∧ (S b ∧ b < w.heap.size) ∧ l.length ≤ cap ∧ w.cell? ⟨b, off + k * 6, none⟩ = some (.string l[k].n) ∧ w.cell? ⟨b, off + k * 6 + 1, none⟩ = some (.string l[k].c) ∧
      w.cell? ⟨b, off + k * 6 + 1 + 1, none⟩ = some vg ∧ w.cell? ⟨b, off + k * 6 + 1 + 1 + 1, none⟩ = some (.bool l[k].i) ∧ w.cell? ⟨b, off + k * 6 + 1 + 1 + 1 + 1, none⟩ = some va ∧ w.cell? ⟨b, off + k * 6 + 1 + 1 + 1 + 1 + 1, none⟩ = some vm ∧
      Ls w S vg l[k].g ∧ Ls w S va l[k].a ∧ Ls w S vm l[k].m := by
  obtain ⟨b, off, rfl, hb, hcap, hc⟩ := h.at hk
  obtain ⟨u0, c0, r0⟩ := hc 0 (dS l[k].n) (by decide) rfl
  obtain ⟨u1, c1, r1⟩ := hc 1 (dS l[k].c) (by decide) rfl
  obtain ⟨u2, c2, r2⟩ := hc 2 (lD l[k].g) (by decide) rfl
  obtain ⟨u3, c3, r3⟩ := hc 3 (dB l[k].i) (by decide) rfl
  obtain ⟨u4, c4, r4⟩ := hc 4 (lD l[k].a) (by decide) rfl
  obtain ⟨u5, c5, r5⟩ := hc 5 (lD l[k].m) (by decide) rfl
  obtain rfl := r0.val
  obtain rfl := r1.val
  obtain rfl := r3.val
  exact ⟨b, off, u2, u4, u5, rfl, hb, hcap, c0, c1, c2, c3, c4, c5, r2, r4, r5⟩
theorem at_mt {l : List Mt} (h : Ls w S (.slice A l.length cap) l) (hk : k < l.length) :
    ∃ b off ve va, A = some ⟨b, off, none⟩ ∧ (S b ∧ b < w.heap.size) ∧ l.length ≤ cap ∧ w.cell? ⟨b, off + k * 3, none⟩ = some (.string l[k].n) ∧ w.cell? ⟨b, off + k * 3 + 1, none⟩ = some ve ∧ w.cell? ⟨b, off + k * 3 + 1 + 1, none⟩ = some va ∧
      Ls w S ve l[k].e ∧ Ls w S va l[k].a := by
  obtain ⟨b, off, rfl, hb, hcap, hc⟩ := h.at hk
  obtain ⟨u0, c0, r0⟩ := hc 0 (dS l[k].n) (by decide) rfl
  obtain ⟨u1, c1, r1⟩ := hc 1 (lD l[k].e) (by decide) rfl
  obtain ⟨u2, c2, r2⟩ := hc 2 (lD l[k].a) (by decide) rfl
  obtain rfl := r0.val
  exact ⟨b, off, u1, u2, rfl, hb, hcap, c0, c1, c2, r1, r2⟩
theorem at_st {l : List St} (h : Ls w S (.slice A l.length cap) l) (hk : k < l.length) :
    ∃ b off vd va, A = some ⟨b, off, none⟩ ∧ (S b ∧ b < w.heap.size) ∧ l.length ≤ cap ∧ w.cell? ⟨b, off + k * 11, none⟩ = some (.int .i64 l[k].k) ∧ w.cell? ⟨b, off + k * 11 + 1, none⟩ = some (.int .i64 l[k].f) ∧ w.cell? ⟨b, off + k * 11 + 1 + 1, none⟩ = some (.int .i64 l[k].t) ∧
      w.cell? ⟨b, off + k * 11 + 1 + 1 + 1, none⟩ = some (.int .i64 l[k].g) ∧ w.cell? ⟨b, off + k * 11 + 1 + 1 + 1 + 1, none⟩ = some (.int .i64 l[k].e) ∧ w.cell? ⟨b, off + k * 11 + 1 + 1 + 1 + 1 + 1, none⟩ = some (.int .i64 l[k].i) ∧
      w.cell? ⟨b, off + k * 11 + 1 + 1 + 1 + 1 + 1 + 1, none⟩ = some vd ∧ w.cell? ⟨b, off + k * 11 + 1 + 1 + 1 + 1 + 1 + 1 + 1, none⟩ = some (.string l[k].m.t) ∧ w.cell? ⟨b, off + k * 11 + 1 + 1 + 1 + 1 + 1 + 1 + 1 + 1, none⟩ = some va ∧
      w.cell? ⟨b, off + k * 11 + 1 + 1 + 1 + 1 + 1 + 1 + 1 + 1 + 1, none⟩ = some (.string l[k].n) ∧ w.cell? ⟨b, off + k * 11 + 1 + 1 + 1 + 1 + 1 + 1 + 1 + 1 + 1 + 1, none⟩ = some (.string l[k].v) ∧ Ls w S vd l[k].mid ∧ Ls w S va l[k].m.a := by
  obtain ⟨b, off, rfl, hb, hcap, hc⟩ := h.at hk
  obtain ⟨u0, c0, r0⟩ := hc 0 (dI l[k].k) (by decide) rfl
  obtain ⟨u1, c1, r1⟩ := hc 1 (dI l[k].f) (by decide) rfl
  obtain ⟨u2, c2, r2⟩ := hc 2 (dI l[k].t) (by decide) rfl
  obtain ⟨u3, c3, r3⟩ := hc 3 (dI l[k].g) (by decide) rfl
  obtain ⟨u4, c4, r4⟩ := hc 4 (dI l[k].e) (by decide) rfl
  obtain ⟨u5, c5, r5⟩ := hc 5 (dI l[k].i) (by decide) rfl
  obtain ⟨u6, c6, r6⟩ := hc 6 (lD l[k].mid) (by decide) rfl
  obtain ⟨u7, c7, r7⟩ := hc 7 (dS l[k].m.t) (by decide) rfl
  obtain ⟨u8, c8, r8⟩ := hc 8 (lD l[k].m.a) (by decide) rfl
  obtain ⟨u9, c9, r9⟩ := hc 9 (dS l[k].n) (by decide) rfl
  obtain ⟨u10, c10, r10⟩ := hc 10 (dS l[k].v) (by decide) rfl
  obtain rfl := r0.val
  obtain rfl := r1.val
  obtain rfl := r2.val
  obtain rfl := r3.val
  obtain rfl := r4.val
  obtain rfl := r5.val
  obtain rfl := r7.val
  obtain rfl := r9.val
  obtain rfl := r10.val
  exact ⟨b, off, u6, u8, rfl, hb, hcap, c0, c1, c2, c3, c4, c5, c6, c7, c8, c9, c10, r6, r8⟩
end
end Go.Proofs.YtjajcecenflejaaGreat
