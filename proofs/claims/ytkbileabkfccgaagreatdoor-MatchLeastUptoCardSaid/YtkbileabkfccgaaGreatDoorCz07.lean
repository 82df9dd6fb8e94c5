/- MaT, MaA, MaB, ShA, merged. -/
import Derived.Test.YtkbileabkfccgaaGreatDoorCz02
import Derived.Shelf.Small.Bits
import Derived.Shelf.Strconv.Itoa0
import Derived.Shelf.Sort.Plain
import Derived.Shelf.Slices.ReverseS
import Derived.Shelf.Slices.CompactS
import Derived.Shelf.Slices.Cells
import Derived.Shelf.Slices.In.SortNone
import Derived.Test.YtkbileabkfccgaaGreatDoorProg

/- match: texts, edges, groups, states, as they lie in memory. Of no program. -/
namespace Go.Proofs.YtkbileabkfccgaaGreatDoor
open Go.RowKit

theorem box1 (w : World) (o : Obj) : Below w.heap.size w (w.alloc o) := (Below.refl _ _).alloc (Nat.le_refl _) _
theorem box2 (w : World) (o o2 : Obj) : Below w.heap.size w ((w.alloc o).alloc o2) := ((Below.refl _ _).alloc (Nat.le_refl _) _).alloc (by simp) _
theorem box3 (w : World) (o o2 o3 : Obj) : Below w.heap.size w (((w.alloc o).alloc o2).alloc o3) := (((Below.refl _ _).alloc (Nat.le_refl _) _).alloc (by simp) _).alloc (by simp; omega) _

/-! ## texts -/
def txC (l : List ByteArray) : List Value := l.map Value.string
theorem txC_len (l : List ByteArray) : (txC l).length = l.length * 1 := by simp [txC]
theorem txC_app (l m : List ByteArray) : txC (l ++ m) = txC l ++ txC m := by simp [txC]
theorem txC_one (l : List ByteArray) : ∀ u ∈ txC l, u.oneCell' = true := by
  intro u hu; simp only [txC, List.mem_map] at hu; obtain ⟨b, _, rfl⟩ := hu; rfl
theorem txC_get (l : List ByteArray) (k : Nat) (hk : k < l.length) : (txC l)[k]? = some (.string l[k]) := by simp [txC, hk]
/-- slice v holds the texts l, below block B -/
def Tx (w : World) (B : Nat) (v : Value) (l : List ByteArray) : Prop := Rd w B v 1 l.length (txC l)
section
variable {w w' : World} {B B' : Nat} {v : Value} {l : List ByteArray}
theorem Tx.below (h : Tx w B v l) (hb : Below B w w') : Tx w' B v l := Rd.below h hb
theorem Tx.mono (h : Tx w B v l) (hb : B ≤ B') : Tx w B' v l := Rd.mono h hb
theorem Tx.form (h : Tx w B v l) : ∃ A cap, v = .slice A l.length cap := Rd.form h
theorem Tx.max (h : Tx w B v l) : l.length ≤ maxLen := Rd.max h
theorem Tx.nil (w : World) (B : Nat) : Tx w B (.slice none 0 0) [] := Rd.nil w B 1
theorem Tx.drew (h : Tx w B v l) : Tx w.drew B v l := h
theorem Tx.at {A : Option Addr} {cap k : Nat} (h : Tx w B (.slice A l.length cap) l) (hk : k < l.length) :
    ∃ b off, A = some ⟨b, off, none⟩ ∧ b < B ∧ l.length ≤ cap ∧ w.cell? ⟨b, off + k, none⟩ = some (.string l[k]) := by
  obtain ⟨b, off, rfl, hb, hcap, hc⟩ := Rd.at h (by omega)
  exact ⟨b, off, rfl, hb, hcap, hc _ _ (txC_get l k hk)⟩
theorem Tx.own {e : TypeId} {base : Nat} (h : w.ownsRow base e 1 v l.length (txC l)) : Tx w w.heap.size v l := Rd.own h
end

/-! ## edges -/
/-- an edge: its type, where it leads -/
structure Ed where
  t : ByteArray
  n : Int
theorem Ed.ext' {a b : Ed} (h1 : a.t = b.t) (h2 : a.n = b.n) : a = b := by cases a; cases b; simp_all
instance : DecidableEq Ed := fun a b => if h : a.t = b.t ∧ a.n = b.n then .isTrue (Ed.ext' h.1 h.2) else .isFalse fun e => h ⟨by rw [e], by rw [e]⟩
def edC (l : List Ed) : List Value := l.flatMap fun e => [.string e.t, .int .i64 e.n]
theorem edC_len (l : List Ed) : (edC l).length = l.length * 2 := by
  unfold edC; induction l with
  | nil => rfl
  | cons a l ih => simp only [List.flatMap_cons, List.length_append, List.length_cons, ih, List.length_nil]; omega
theorem edC_app (l m : List Ed) : edC (l ++ m) = edC l ++ edC m := by simp [edC]
theorem edC_one (l : List Ed) : ∀ u ∈ edC l, u.oneCell' = true := by
  intro u hu
  simp only [edC, List.mem_flatMap] at hu
  obtain ⟨a, _, h⟩ := hu
  simp at h
  rcases h with rfl | rfl <;> rfl
theorem edC_get (l : List Ed) (k : Nat) (hk : k < l.length) : (edC l)[k * 2]? = some (.string l[k].t) ∧ (edC l)[k * 2 + 1]? = some (.int .i64 l[k].n) := by
  unfold edC
  induction l generalizing k with
  | nil => simp at hk
  | cons a l ih =>
    cases k with
    | zero => simp
    | succ k =>
      have := ih k (by simpa using hk)
      simp only [List.flatMap_cons, List.cons_append, List.nil_append, List.getElem_cons_succ]
      rw [show (k + 1) * 2 = k * 2 + 1 + 1 by omega]
      simpa using this
/-- slice v holds the edges l, below block B -/
def Eds (w : World) (B : Nat) (v : Value) (l : List Ed) : Prop := Rd w B v 2 l.length (edC l)
section
variable {w w' : World} {B B' : Nat} {v : Value} {l : List Ed}
theorem Eds.below (h : Eds w B v l) (hb : Below B w w') : Eds w' B v l := Rd.below h hb
theorem Eds.mono (h : Eds w B v l) (hb : B ≤ B') : Eds w B' v l := Rd.mono h hb
theorem Eds.form (h : Eds w B v l) : ∃ A cap, v = .slice A l.length cap := Rd.form h
theorem Eds.max (h : Eds w B v l) : l.length ≤ maxLen := Rd.max h
theorem Eds.nil (w : World) (B : Nat) : Eds w B (.slice none 0 0) [] := Rd.nil w B 2
theorem Eds.at {A : Option Addr} {cap k : Nat} (h : Eds w B (.slice A l.length cap) l) (hk : k < l.length) :
    ∃ b off, A = some ⟨b, off, none⟩ ∧ b < B ∧ l.length ≤ cap ∧ w.cell? ⟨b, off + k * 2, none⟩ = some (.string l[k].t) ∧ w.cell? ⟨b, off + k * 2 + 1, none⟩ = some (.int .i64 l[k].n) := by
  obtain ⟨b, off, rfl, hb, hcap, hc⟩ := Rd.at h (by omega)
  exact ⟨b, off, rfl, hb, hcap, hc _ _ (edC_get l k hk).1, by rw [Nat.add_assoc]; exact hc _ _ (edC_get l k hk).2⟩
theorem Eds.own {e : TypeId} {base : Nat} (h : w.ownsRow base e 2 v l.length (edC l)) : Eds w w.heap.size v l := Rd.own h
end

/-! ## elements of a cell and a slice -/
section
variable {α : Type} (c : α → Value)
def neC : List α → List Value → List Value
  | x :: l, s :: ss => c x :: s :: neC l ss
  | _, _ => []
theorem neC_len : ∀ (l : List α) (ss : List Value), ss.length = l.length → (neC c l ss).length = l.length * 2
  | [], [], _ => rfl
  | e :: l, s :: ss, h => by
    have := neC_len l ss (by simpa using h)
    simp only [neC, List.length_cons, this]; omega
  | [], _ :: _, h => by simp at h
  | _ :: _, [], h => by simp at h
theorem neC_app : ∀ (l : List α) (ss : List Value) (m : List α) (tt : List Value), ss.length = l.length → neC c (l ++ m) (ss ++ tt) = neC c l ss ++ neC c m tt
  | [], [], _, _, _ => rfl
  | e :: l, s :: ss, m, tt, h => by simp only [List.cons_append, neC, neC_app l ss m tt (by simpa using h)]
  | [], _ :: _, _, _, h => by simp at h
  | _ :: _, [], _, _, h => by simp at h
theorem neC_get : ∀ (l : List α) (ss : List Value) (h : ss.length = l.length) (i : Nat) (hi : i < l.length),
    (neC c l ss)[i * 2]? = some (c l[i]) ∧ (neC c l ss)[i * 2 + 1]? = some (ss[i]'(by omega))
  | e :: l, s :: ss, h, 0, _ => by simp [neC]
  | e :: l, s :: ss, h, i + 1, hi => by
    have := neC_get l ss (by simpa using h) i (by simpa using hi)
    simp only [neC, List.getElem_cons_succ]
    rw [show (i + 1) * 2 = i * 2 + 1 + 1 by omega]
    simpa using this
  | [], [], _, _, hi => by simp at hi
  | [], _ :: _, h, _, _ => by simp at h
  | _ :: _, [], h, _, _ => by simp at h
theorem neC_one (hc : ∀ x, (c x).oneCell' = true) : ∀ (l : List α) (ss : List Value), (∀ s ∈ ss, s.oneCell' = true) → ∀ u ∈ neC c l ss, u.oneCell' = true
  | [], _, _, u, hu => by simp [neC] at hu
  | _ :: _, [], _, u, hu => by simp [neC] at hu
  | e :: l, s :: ss, h, u, hu => by
    simp only [neC, List.mem_cons] at hu
    rcases hu with rfl | rfl | hu
    · exact hc _
    · exact h _ (by simp)
    · exact neC_one hc l ss (fun s hs => h s (by simp [hs])) u hu
/-- slice v has the elements l, in blocks of S; the slice of each is as R says -/
def Ne (R : World → Value → α → Prop) (w : World) (S : Nat → Prop) (v : Value) (l : List α) : Prop :=
  ∃ (ss : List Value) (h : ss.length = l.length), RdS w S v 2 l.length (neC c l ss) ∧ ∀ i (hi : i < l.length), R w (ss[i]'(by omega)) l[i]
end
section
variable {α : Type} {c : α → Value} {R R' : World → Value → α → Prop} {w w' : World} {S S' : Nat → Prop} {v : Value} {l : List α}
theorem Ne.keep (h : Ne c R w S v l) (hk : ∀ b o, S b → w'.cell? ⟨b, o, none⟩ = w.cell? ⟨b, o, none⟩) (hR : ∀ s x, R w s x → R' w' s x) : Ne c R' w' S v l := by
  obtain ⟨ss, hl, hr, hs⟩ := h
  exact ⟨ss, hl, hr.keep hk, fun i hi => hR _ _ (hs i hi)⟩
theorem Ne.mono (h : Ne c R w S v l) (hS : ∀ b, S b → S' b) (hR : ∀ s x, R w s x → R' w s x) : Ne c R' w S' v l := by
  obtain ⟨ss, hl, hr, hs⟩ := h
  exact ⟨ss, hl, hr.mono hS, fun i hi => hR _ _ (hs i hi)⟩
theorem Ne.form (h : Ne c R w S v l) : ∃ A cap, v = .slice A l.length cap := by obtain ⟨_, _, hr, _⟩ := h; exact hr.form
theorem Ne.max (h : Ne c R w S v l) : l.length ≤ maxLen := by obtain ⟨_, _, hr, _⟩ := h; exact hr.max
theorem Ne.nil (w : World) (S : Nat → Prop) : Ne c R w S (.slice none 0 0) ([] : List α) := ⟨[], rfl, RdS.nil w S 2, fun i hi => by simp at hi⟩
theorem Ne.at {A : Option Addr} {cap k : Nat} (h : Ne c R w S (.slice A l.length cap) l) (hk : k < l.length) :
    ∃ b off s, A = some ⟨b, off, none⟩ ∧ S b ∧ l.length ≤ cap ∧ R w s l[k] ∧ w.cell? ⟨b, off + k * 2, none⟩ = some (c l[k]) ∧ w.cell? ⟨b, off + k * 2 + 1, none⟩ = some s := by
  obtain ⟨ss, hl, ⟨A', cap', hv, _, h1, _, h3⟩, hs⟩ := h
  simp only [Value.slice.injEq, true_and] at hv
  obtain ⟨rfl, rfl⟩ := hv
  rcases h3 with h3 | ⟨b, off, hA, hb, hc⟩
  · omega
  · have hg := neC_get c l ss hl k hk
    exact ⟨b, off, _, hA, hb, h1, hs k hk, hc _ _ hg.1, by rw [Nat.add_assoc]; exact hc _ _ hg.2⟩
end
/-- a group: its name, its types -/
structure Gr where
  n : ByteArray
  ts : List ByteArray
/-- a state: does it end, its edges -/
structure St where
  b : Bool
  es : List Ed
/-- slice v holds the groups l, below block B -/
def Grs (w : World) (B : Nat) (v : Value) (l : List Gr) : Prop := Ne (fun g : Gr => .string g.n) (fun w s g => Tx w B s g.ts) w (· < B) v l
/-- slice v holds the states l, below block B -/
def Sts (w : World) (B : Nat) (v : Value) (l : List St) : Prop := Ne (fun x : St => .bool x.b) (fun w s x => Eds w B s x.es) w (· < B) v l
section
variable {w w' : World} {B B' : Nat} {v : Value} {l : List Gr} {m : List St}
theorem Grs.below (h : Grs w B v l) (hb : Below B w w') : Grs w' B v l := Ne.keep h (fun b o hl => hb.cell (p := ⟨b, o, none⟩) hl) fun _ _ hx => hx.below hb
theorem Sts.below (h : Sts w B v m) (hb : Below B w w') : Sts w' B v m := Ne.keep h (fun b o hl => hb.cell (p := ⟨b, o, none⟩) hl) fun _ _ hx => hx.below hb
theorem Grs.mono (h : Grs w B v l) (hB : B ≤ B') : Grs w B' v l := Ne.mono h (fun _ hb => Nat.lt_of_lt_of_le hb hB) fun _ _ hx => hx.mono hB
theorem Sts.mono (h : Sts w B v m) (hB : B ≤ B') : Sts w B' v m := Ne.mono h (fun _ hb => Nat.lt_of_lt_of_le hb hB) fun _ _ hx => hx.mono hB
theorem Grs.form (h : Grs w B v l) : ∃ A cap, v = .slice A l.length cap := Ne.form h
theorem Sts.form (h : Sts w B v m) : ∃ A cap, v = .slice A m.length cap := Ne.form h
theorem Grs.max (h : Grs w B v l) : l.length ≤ maxLen := Ne.max h
theorem Sts.max (h : Sts w B v m) : m.length ≤ maxLen := Ne.max h
theorem Grs.nil (w : World) (B : Nat) : Grs w B (.slice none 0 0) [] := Ne.nil _ _
theorem Sts.nil (w : World) (B : Nat) : Sts w B (.slice none 0 0) [] := Ne.nil _ _
theorem Grs.at {A : Option Addr} {cap k : Nat} (h : Grs w B (.slice A l.length cap) l) (hk : k < l.length) :
    ∃ b off s, A = some ⟨b, off, none⟩ ∧ b < B ∧ l.length ≤ cap ∧ Tx w B s l[k].ts ∧ w.cell? ⟨b, off + k * 2, none⟩ = some (.string l[k].n) ∧ w.cell? ⟨b, off + k * 2 + 1, none⟩ = some s := Ne.at h hk
theorem Sts.at {A : Option Addr} {cap k : Nat} (h : Sts w B (.slice A m.length cap) m) (hk : k < m.length) :
    ∃ b off s, A = some ⟨b, off, none⟩ ∧ b < B ∧ m.length ≤ cap ∧ Eds w B s m[k].es ∧ w.cell? ⟨b, off + k * 2, none⟩ = some (.bool m[k].b) ∧ w.cell? ⟨b, off + k * 2 + 1, none⟩ = some s := Ne.at h hk
end
/-- the values of an edge, a group, a state -/
def edV (e : Ed) : Value := .agg #[.string e.t, .int .i64 e.n]
def grV (g : Gr) (s : Value) : Value := .agg #[.string g.n, s]
def stV (x : St) (s : Value) : Value := .agg #[.bool x.b, s]
end Go.Proofs.YtkbileabkfccgaaGreatDoor

/- match: slices.IndexFunc, ContainsFunc over texts, edges, groups, at any function. -/
namespace Go.Proofs.YtkbileabkfccgaaGreatDoor
open Go.RowKit

/-- at each element of l, and any later world, function value K at caps answers p -/
def AsksTx (P : Program) (p : ByteArray → Bool) (K : Nat) (caps : Array Value) (w : World) (l : List ByteArray) : Prop :=
  Enters P K ∧ ∀ e, e ∈ l → ∀ w', Below w.heap.size w w' → Calls P K (#[.string e] ++ caps) w' (RetB (p e) w')

set_option maxRecDepth 100000 in
theorem idxTx_any (p : ByteArray → Bool) (K : Nat) (caps : Array Value) (v : Value) (l : List ByteArray) (B : Nat) (w : World) (hv : Tx w B v l) (hB : B ≤ w.heap.size) (hf : AsksTx Tryz.prog p K caps w l) :
    Calls Tryz.prog 126 #[v, .func (.func K) #[] caps] w fun e w' => e = .returned (.int .i64 (idx p l)) ∧ Below w.heap.size w w' := by
  obtain ⟨A, cap, rfl⟩ := hv.form
  have hm := hv.max
  unfold maxLen at hm
  go_enter Tryz.func126, Tryz.ntmps126
  go_wp2
  go_loopw [8] (fun i wr => ∃ k : Nat, k ≤ l.length ∧ i = .int .i64 k ∧ Below w.heap.size w wr ∧ Hid (∀ j (hj : j < l.length), j < k → p l[j] = false)) (fun i _ => l.length - (intOf i).toNat)
  case atStart => exact ⟨0, Nat.zero_le _, rfl, Below.refl _ _, fun j _ hj => by omega⟩
  case round =>
    obtain ⟨k, hk, rfl, hb, hall⟩ := hrel
    by_cases hlt : k < l.length
    · obtain ⟨b, off, rfl, hbB, hcap, hc0⟩ := (hv.below (hb.mono hB)).at hlt
      have hcall := Lib.hid (hf.2 l[k] (List.getElem_mem hlt) wr hb)
      have hent := hf.1 (#[.string l[k]] ++ caps) wr
      skip
      clear hf
      go_wp2_with fail
      refine (hcall.out).mono ?_
      rintro e w1 ⟨rfl, hb1⟩
      clear hcall
      have hb2 := hb.trans (hb1.mono hb.size)
      clear hb1
      by_cases hp : p l[k] = true
      · have hfin : Hid (idx p l = k) := idx_at hlt hp hall.out
        go_wp2
        go_ret
        exact ⟨ret_int hfin.out.symm, hb2⟩
      · have hp : p l[k] = false := by simpa using hp
        have hall' : Hid (∀ j (hj : j < l.length), j < k + 1 → p l[j] = false) := by
          show ∀ j, _
          intro j hj hjk
          by_cases e : j = k
          · subst e; exact hp
          · exact hall.out j hj (by omega)
        go_wp2
        go_roundw
        case rel => exact ⟨k + 1, by omega, by go_num, hb2, hall'⟩
        case measure => simp [intOf]; omega
    · have hfin : Hid (idx p l = -1) := idx_no fun j hj => hall.out j hj (by omega)
      go_wp2
      go_ret
      exact ⟨ret_int hfin.out.symm, hb⟩

set_option maxRecDepth 100000 in
theorem contTx_any (p : ByteArray → Bool) (K : Nat) (caps : Array Value) (v : Value) (l : List ByteArray) (B : Nat) (w : World) (hv : Tx w B v l) (hB : B ≤ w.heap.size) (hf : AsksTx Tryz.prog p K caps w l) :
    Calls Tryz.prog 103 #[v, .func (.func K) #[] caps] w (RetB (l.any p) w) := by
  obtain ⟨A, cap, rfl⟩ := hv.form
  have hi := Lib.hid (idxTx_any p K caps _ l B w hv hB hf)
  have hfin := Lib.hid (idx_ge p l)
  clear hf
  go_enter Tryz.func103, Tryz.ntmps103
  go_wp2_with fail
  refine (hi.out).mono ?_
  rintro e w1 ⟨rfl, hb1⟩
  clear hi
  go_wp2
  go_ret
  exact retB hfin.out hb1

/-- at each element of l, and any later world, function value K at caps answers p -/
def AsksEd (P : Program) (p : Ed → Bool) (K : Nat) (caps : Array Value) (w : World) (l : List Ed) : Prop :=
  Enters P K ∧ ∀ e, e ∈ l → ∀ w', Below w.heap.size w w' → Calls P K (#[edV e] ++ caps) w' (RetB (p e) w')

set_option maxRecDepth 100000 in
theorem idxEd_any (p : Ed → Bool) (K : Nat) (caps : Array Value) (v : Value) (l : List Ed) (B : Nat) (w : World) (hv : Eds w B v l) (hB : B ≤ w.heap.size) (hf : AsksEd Tryz.prog p K caps w l) :
    Calls Tryz.prog 85 #[v, .func (.func K) #[] caps] w fun e w' => e = .returned (.int .i64 (idx p l)) ∧ Below w.heap.size w w' := by
  obtain ⟨A, cap, rfl⟩ := hv.form
  have hm := hv.max
  unfold maxLen at hm
  go_enter Tryz.func85, Tryz.ntmps85
  go_wp2
  go_loopw [8] (fun i wr => ∃ k : Nat, k ≤ l.length ∧ i = .int .i64 k ∧ Below w.heap.size w wr ∧ Hid (∀ j (hj : j < l.length), j < k → p l[j] = false)) (fun i _ => l.length - (intOf i).toNat)
  case atStart => exact ⟨0, Nat.zero_le _, rfl, Below.refl _ _, fun j _ hj => by omega⟩
  case round =>
    obtain ⟨k, hk, rfl, hb, hall⟩ := hrel
    by_cases hlt : k < l.length
    · obtain ⟨b, off, rfl, hbB, hcap, hc0, hc1⟩ := (hv.below (hb.mono hB)).at hlt
      have hcall := Lib.hid (hf.2 l[k] (List.getElem_mem hlt) wr hb)
      have hent := hf.1 (#[edV l[k]] ++ caps) wr
      unfold edV at hent
      clear hf
      go_wp2_with fail
      refine (hcall.out).mono ?_
      rintro e w1 ⟨rfl, hb1⟩
      clear hcall
      have hb2 := hb.trans (hb1.mono hb.size)
      clear hb1
      by_cases hp : p l[k] = true
      · have hfin : Hid (idx p l = k) := idx_at hlt hp hall.out
        go_wp2
        go_ret
        exact ⟨ret_int hfin.out.symm, hb2⟩
      · have hp : p l[k] = false := by simpa using hp
        have hall' : Hid (∀ j (hj : j < l.length), j < k + 1 → p l[j] = false) := by
          show ∀ j, _
          intro j hj hjk
          by_cases e : j = k
          · subst e; exact hp
          · exact hall.out j hj (by omega)
        go_wp2
        go_roundw
        case rel => exact ⟨k + 1, by omega, by go_num, hb2, hall'⟩
        case measure => simp [intOf]; omega
    · have hfin : Hid (idx p l = -1) := idx_no fun j hj => hall.out j hj (by omega)
      go_wp2
      go_ret
      exact ⟨ret_int hfin.out.symm, hb⟩

/-- at each element of l, and any later world, function value K at caps answers p -/
def AsksGr (P : Program) (p : Gr → Bool) (K : Nat) (caps : Array Value) (B : Nat) (w : World) (l : List Gr) : Prop :=
  Enters P K ∧ ∀ e, e ∈ l → ∀ s w', Below w.heap.size w w' → Tx w' B s e.ts → Calls P K (#[grV e s] ++ caps) w' (RetB (p e) w')

set_option maxRecDepth 100000 in
theorem idxGr_any (p : Gr → Bool) (K : Nat) (caps : Array Value) (v : Value) (l : List Gr) (B : Nat) (w : World) (hv : Grs w B v l) (hB : B ≤ w.heap.size) (hf : AsksGr Tryz.prog p K caps B w l) :
    Calls Tryz.prog 101 #[v, .func (.func K) #[] caps] w fun e w' => e = .returned (.int .i64 (idx p l)) ∧ Below w.heap.size w w' := by
  obtain ⟨A, cap, rfl⟩ := hv.form
  have hm := hv.max
  unfold maxLen at hm
  go_enter Tryz.func101, Tryz.ntmps101
  go_wp2
  go_loopw [8] (fun i wr => ∃ k : Nat, k ≤ l.length ∧ i = .int .i64 k ∧ Below w.heap.size w wr ∧ Hid (∀ j (hj : j < l.length), j < k → p l[j] = false)) (fun i _ => l.length - (intOf i).toNat)
  case atStart => exact ⟨0, Nat.zero_le _, rfl, Below.refl _ _, fun j _ hj => by omega⟩
  case round =>
    obtain ⟨k, hk, rfl, hb, hall⟩ := hrel
    by_cases hlt : k < l.length
    · obtain ⟨b, off, s, rfl, hbB, hcap, hks, hc0, hc1⟩ := (hv.below (hb.mono hB)).at hlt
      have hcall := Lib.hid (hf.2 l[k] (List.getElem_mem hlt) s wr hb hks)
      have hent := hf.1 (#[grV l[k] s] ++ caps) wr
      unfold grV at hent
      clear hf
      go_wp2_with fail
      refine (hcall.out).mono ?_
      rintro e w1 ⟨rfl, hb1⟩
      clear hcall
      have hb2 := hb.trans (hb1.mono hb.size)
      clear hb1
      by_cases hp : p l[k] = true
      · have hfin : Hid (idx p l = k) := idx_at hlt hp hall.out
        go_wp2
        go_ret
        exact ⟨ret_int hfin.out.symm, hb2⟩
      · have hp : p l[k] = false := by simpa using hp
        have hall' : Hid (∀ j (hj : j < l.length), j < k + 1 → p l[j] = false) := by
          show ∀ j, _
          intro j hj hjk
          by_cases e : j = k
          · subst e; exact hp
          · exact hall.out j hj (by omega)
        go_wp2
        go_roundw
        case rel => exact ⟨k + 1, by omega, by go_num, hb2, hall'⟩
        case measure => simp [intOf]; omega
    · have hfin : Hid (idx p l = -1) := idx_no fun j hj => hall.out j hj (by omega)
      go_wp2
      go_ret
      exact ⟨ret_int hfin.out.symm, hb⟩

set_option maxRecDepth 100000 in
theorem contGr_any (p : Gr → Bool) (K : Nat) (caps : Array Value) (v : Value) (l : List Gr) (B : Nat) (w : World) (hv : Grs w B v l) (hB : B ≤ w.heap.size) (hf : AsksGr Tryz.prog p K caps B w l) :
    Calls Tryz.prog 56 #[v, .func (.func K) #[] caps] w (RetB (l.any p) w) := by
  obtain ⟨A, cap, rfl⟩ := hv.form
  have hi := Lib.hid (idxGr_any p K caps _ l B w hv hB hf)
  have hfin := Lib.hid (idx_ge p l)
  clear hf
  go_enter Tryz.func56, Tryz.ntmps56
  go_wp2_with fail
  refine (hi.out).mono ?_
  rintro e w1 ⟨rfl, hb1⟩
  clear hi
  go_wp2
  go_ret
  exact retB hfin.out hb1
end Go.Proofs.YtkbileabkfccgaaGreatDoor

/- match: what groups may be: long, wrong. -/
namespace Go.Proofs.YtkbileabkfccgaaGreatDoor
open Go.RowKit

def longNm (s : ByteArray) : Bool := decide (16 < s.size)
def longG (g : Gr) : Bool := longNm g.n || g.ts.any longNm

set_option maxRecDepth 100000 in
theorem longName_any (s : ByteArray) (w : World) : Calls Tryz.prog 102 #[.string s] w fun e w' => e = .returned (.bool (longNm s)) ∧ w = w' := by
  obtain ⟨c, HF⟩ : ∃ c, Hid (c = longNm s) := ⟨_, rfl⟩
  rw [← HF.out]
  go_enter Tryz.func102, Tryz.ntmps102
  go_wp2
  all_goals
    go_ret
    exact ⟨ret_bool (by rw [HF.out]; unfold longNm; rw [Bool.eq_iff_iff]; simp; omega), rfl⟩

theorem entLN : Enters Tryz.prog 102 := enters Tryz.func102 (by kernel_rfl) (by kernel_rfl)
theorem askLN (w : World) (l : List ByteArray) : AsksTx Tryz.prog longNm 102 #[] w l :=
  ⟨entLN, fun e _ w' _ => (longName_any e w').mono fun _ _ ⟨h1, h2⟩ => h2 ▸ ⟨h1, Below.refl _ _⟩⟩

set_option maxRecDepth 100000 in
theorem longGr_any (g : Gr) (s : Value) (B : Nat) (w : World) (hs : Tx w B s g.ts) (hB : B ≤ w.heap.size) :
    Calls Tryz.prog 57 #[grV g s] w (RetB (longG g) w) := by
  have B1 : Below w.heap.size w (w.alloc (.cells #[.string g.n, s] 88)) := (Below.refl _ _).alloc (Nat.le_refl _) _
  obtain ⟨c, HC⟩ : ∃ c, Hid (c = longNm g.n) := ⟨_, rfl⟩
  obtain ⟨d, HD⟩ : ∃ d, Hid (d = g.ts.any longNm) := ⟨_, rfl⟩
  have hall : longG g = (c || d) := by rw [HC.out, HD.out]; rfl
  rw [hall]
  clear hall
  have C0 := fun w => longName_any g.n w
  rw [← HC.out] at C0
  have C1 := contTx_any longNm _ #[] s g.ts B _ (hs.below (B1.mono hB)) (Nat.le_trans hB B1.size) (askLN _ _)
  rw [← HD.out] at C1
  have H1 := Lib.hid C1
  clear C1 hs
  show Calls Tryz.prog 57 #[.agg #[.string g.n, s]] w (RetB (c || d) w)
  cases c
  · go_enter Tryz.func57, Tryz.ntmps57
    go_wp2_with fail
    refine (C0 _).mono ?_
    rintro e w1 ⟨rfl, rfl⟩
    go_wp2_with fail
    refine H1.out.mono ?_
    rintro e w1 ⟨rfl, hb1⟩
    have hb := B1.trans (hb1.mono B1.size)
    clear C0 hb1 B1 H1
    go_wp2
    go_ret
    exact retB rfl hb
  · clear H1
    go_enter Tryz.func57, Tryz.ntmps57
    go_wp2_with fail
    refine (C0 _).mono ?_
    rintro e w1 ⟨rfl, rfl⟩
    clear C0
    go_wp2
    go_ret
    exact retB rfl B1

/-! ## wrong -/
def txAt (l : List ByteArray) (i : Nat) : ByteArray := l.getD i ⟨#[]⟩
def badAt (l : List ByteArray) (i : Nat) : Bool := !(decide (i = 0) || ltS (txAt l (i - 1)) (txAt l i)) || !nameB (txAt l i)
def badTs (l : List ByteArray) : Bool := (List.range l.length).any (badAt l)
def wrongG (g : Gr) : Bool := badTs g.ts || (decide (g.ts.length = 0) || !nameB g.n)
theorem badTs_yes {l : List ByteArray} (k : Nat) (hk : k < l.length) (h : badAt l k = true) : badTs l = true := List.any_eq_true.2 ⟨k, by simpa using hk, h⟩
theorem badTs_no {l : List ByteArray} (h : ∀ j, j < l.length → badAt l j = false) : badTs l = false := by
  unfold badTs; rw [List.any_eq_false]; intro j hj; rw [h j (by simpa using hj)]; simp
theorem txAt_get (l : List ByteArray) (k : Nat) (hk : k < l.length) : txAt l k = l[k] := by unfold txAt; rw [List.getD_eq_getElem?_getD, List.getElem?_eq_getElem hk]; rfl

theorem int_pred (k : Nat) (h : 0 < k) : (k : Int) - 1 = ((k - 1 : Nat) : Int) := by omega

set_option maxRecDepth 100000 in
set_option maxHeartbeats 1600000 in
theorem wrongGr_any (n : ByteArray) (l : List ByteArray) (s : Value) (B : Nat) (w : World) (hs : Tx w B s l) (hB : B ≤ w.heap.size) :
    Calls Tryz.prog 58 #[grV ⟨n, l⟩ s] w (RetB (wrongG ⟨n, l⟩) w) := by
  obtain ⟨A, cap, rfl⟩ := hs.form
  have hm := hs.max
  unfold maxLen at hm
  have HB1 : Hid (Below w.heap.size w (w.alloc (.cells #[.string n, .slice A l.length cap] 88))) := (Below.refl _ _).alloc (Nat.le_refl _) _
  have C0 := fun x w => name_any x w
  obtain ⟨c, HC⟩ : ∃ c, Hid (c = wrongG ⟨n, l⟩) := ⟨_, rfl⟩
  rw [← HC.out]
  obtain ⟨w0, rfl⟩ : ∃ w0 : World, w0 = w := ⟨_, rfl⟩
  show Calls Tryz.prog 58 #[.agg #[.string n, .slice A l.length cap]] w0 (RetB c w0)
  go_enter Tryz.func58, Tryz.ntmps58
  go_wp2_with fail
  go_loopw [3, 4, 5, 9] (fun _ _ _ i wr => ∃ k : Nat, k ≤ l.length ∧ i = .int .i64 k ∧ Hid (Below (w0.heap.size + 1) (w0.alloc (.cells #[.string n, .slice A l.length cap] 88)) wr) ∧ Hid (∀ j, j < k → badAt l j = false)) (fun _ _ _ i _ => l.length - (intOf i).toNat)
  case atStart => exact ⟨0, Nat.zero_le _, rfl, Below.refl _ _, fun j hj => by omega⟩
  case round =>
    obtain ⟨k, hk, rfl, hb0, hall⟩ := hrel
    have hbw : Hid (Below w0.heap.size w0 wr) := HB1.out.trans (hb0.out.mono (by omega))
    have hgc0 : wr.cell? ⟨w0.heap.size, 0, none⟩ = some (.string n) := by rw [hb0.out.cell (p := ⟨w0.heap.size, 0, none⟩) (by show w0.heap.size < _; omega)]; go_simp
    have hgc : wr.cell? ⟨w0.heap.size, 1, none⟩ = some (.slice A l.length cap) := by rw [hb0.out.cell (p := ⟨w0.heap.size, 1, none⟩) (by show w0.heap.size < _; omega)]; go_simp
    have hsz := hb0.out.size
    replace hsz : w0.heap.size + 1 ≤ wr.heap.size := by simpa using hsz
    by_cases hlt : k < l.length
    · obtain ⟨b, off, rfl, hbB, hcap, hc0⟩ := (hs.below (hbw.out.mono hB)).at hlt
      have C1 := C0 l[k] wr
      obtain ⟨d, HD⟩ : ∃ d, Hid (d = nameB l[k]) := ⟨nameB l[k], rfl⟩
      rw [← HD.out] at C1
      have H1 := Lib.hid C1
      clear C1
      by_cases hk0 : k = 0
      · subst hk0
        rw [Nat.add_zero] at hc0
        have hbad : badAt l 0 = !d := by unfold badAt; rw [HD.out, txAt_get l 0 hlt]; simp
        cases d
        · have hfin : Hid (c = true) := by show _ = _; rw [HC.out]; unfold wrongG; rw [badTs_yes 0 hlt (by rw [hbad]; rfl)]; rfl
          go_wp2_with fail
          refine H1.out.mono ?_
          rintro e w1 ⟨rfl, hb1⟩
          have hb := hbw.out.trans (hb1.mono hbw.out.size)
          clear H1 hb1
          go_wp2
          go_ret
          exact retB hfin.out.symm hb
        · have hall' : Hid (∀ j, j < 0 + 1 → badAt l j = false) := by
            show ∀ j, _
            intro j hj
            obtain rfl : j = 0 := by omega
            rw [hbad]; rfl
          go_wp2_with fail
          refine H1.out.mono ?_
          rintro e w1 ⟨rfl, hb1⟩
          have hb := Lib.hid (hb0.out.trans (hb1.mono hsz))
          clear H1 hb1
          go_wp2
          go_roundw
          case rel => exact ⟨0 + 1, by omega, by go_num, hb, hall'⟩
          case measure => simp [intOf]; omega
      · have hk1 : k - 1 < l.length := by omega
        have hc1 : wr.cell? ⟨b, off + (k - 1), none⟩ = some (.string l[k - 1]) := by
          obtain ⟨b2, off2, hA, _, _, hc⟩ := (hs.below (hbw.out.mono hB)).at hk1
          simp at hA
          obtain ⟨rfl, rfl⟩ := hA
          exact hc
        have hpos : 0 < k := by omega
        have hi0 : ((k : Int) == 0) = false := by simp; omega
        have hi1 := int_pred k hpos
        obtain ⟨r, hr⟩ : ∃ r, Op.bytesLess l[k - 1].toList l[k].toList = r := ⟨_, rfl⟩
        have hbad : Hid (badAt l k = (!r || !d)) := by
          show _ = _
          unfold badAt; rw [HD.out, txAt_get l k hlt, txAt_get l (k - 1) hk1]; unfold ltS; rw [hr]; simp [hk0]
        have hgo : Hid (badAt l k = true → c = true) := by
          show _ → _; intro h; rw [HC.out]; unfold wrongG; rw [badTs_yes k hlt h]; rfl
        have hstep : Hid (badAt l k = false → ∀ j, j < k + 1 → badAt l j = false) := by
          show _ → _
          intro h j hj
          by_cases e : j = k
          · subst e; exact h
          · exact hall.out j (by omega)
        clear hk0
        cases r
        · have hfin : Hid (c = true) := hgo.out (by rw [hbad.out]; rfl)
          clear H1 hbad hgo hstep
          go_wp2
          go_ret
          exact retB hfin.out.symm hbw.out
        · cases d
          · have hfin : Hid (c = true) := hgo.out (by rw [hbad.out]; rfl)
            clear hbad hgo hstep
            go_wp2_with fail
            refine H1.out.mono ?_
            rintro e w1 ⟨rfl, hb1⟩
            have hb := hbw.out.trans (hb1.mono hbw.out.size)
            clear H1 hb1
            go_wp2
            go_ret
            exact retB hfin.out.symm hb
          · have hall' := Lib.hid (hstep.out (by rw [hbad.out]; rfl))
            clear hbad hgo hstep
            go_wp2_with fail
            refine H1.out.mono ?_
            rintro e w1 ⟨rfl, hb1⟩
            have hb := Lib.hid (hb0.out.trans (hb1.mono hsz))
            clear H1 hb1
            go_wp2
            go_roundw
            case rel => exact ⟨k + 1, by omega, by go_num, hb, hall'⟩
            case measure => simp [intOf]; omega
    · have hno : Hid (c = (decide (l.length = 0) || !nameB n)) := by
        show _ = _; rw [HC.out]; unfold wrongG; rw [badTs_no (fun j hj => hall.out j (by omega))]; rfl
      have C1 := C0 n wr
      obtain ⟨d, HD⟩ : ∃ d, Hid (d = nameB n) := ⟨_, rfl⟩
      rw [← HD.out] at C1 hno
      have H1 := Lib.hid C1
      clear C1
      by_cases hl0 : l.length = 0
      · have hi0 : ((l.length : Int) == 0) = true := beq_iff_eq.2 (by omega)
        have hfin : Hid (c = true) := by show _ = _; rw [hno.out]; simp [hl0]
        clear hl0 H1
        go_wp2
        go_ret
        exact retB hfin.out.symm hbw.out
      · have hi0 : ((l.length : Int) == 0) = false := beq_eq_false_iff_ne.2 (by omega)
        have hfin : Hid (c = !d) := by show _ = _; rw [hno.out]; simp [hl0]
        clear hl0
        go_wp2_with fail
        refine H1.out.mono ?_
        rintro e w1 ⟨rfl, hb1⟩
        have hb := hbw.out.trans (hb1.mono hbw.out.size)
        clear H1 hb1
        go_wp2
        go_ret
        exact retB hfin.out.symm hb
end Go.Proofs.YtkbileabkfccgaaGreatDoor

/- slices.Sort, Reverse, Compact of texts; bits.Len: the library's contracts, laid in plain words. -/
namespace Go.Proofs
open Go.Shelf
open Go.RowKit
open Go.Shelf
def Tryz.lays128_ren : Go.Shelf.Ren := ⟨fun | 128 => 136 | n => n, fun | 51 => 171 | 3 => 3 | 4 => 4 | 46 => 130 | 5 => 5 | 9 => 9 | n => n, fun | n => n⟩
theorem Tryz.lays128 : Go.Proofs.Lays.n128 Tryz.prog Tryz.lays128_ren := {
  mixed := by kernel_rfl
  f128 := Tryz.func136.trans (congrArg some (by kernel_rfl))
  t3 := Tryz.underlying3
  a3 := Tryz.isAgg3
  z3 := Tryz.sizeOf3
  v3 := Tryz.zeroValue3
  t4 := Tryz.underlying4
  a4 := Tryz.isAgg4
  z4 := Tryz.sizeOf4
  v4 := Tryz.zeroValue4
  t5 := Tryz.underlying5
  a5 := Tryz.isAgg5
  z5 := Tryz.sizeOf5
  v5 := Tryz.zeroValue5
  t9 := Tryz.underlying9
  a9 := Tryz.isAgg9
  z9 := Tryz.sizeOf9
  v9 := Tryz.zeroValue9
  t46 := Tryz.underlying130
  a46 := Tryz.isAgg130
  z46 := Tryz.sizeOf130
  v46 := Tryz.zeroValue130
  t51 := Tryz.underlying171
  a51 := Tryz.isAgg171
  z51 := Tryz.sizeOf171
  v51 := Tryz.zeroValue171 }
theorem Tryz.bits_Len32 (x : Int) (w : World) (h0 : 0 ≤ x) (h1 : x ≤ 4294967295) :
    Calls Tryz.prog 136 #[.int .u32 x] w fun e w' => e = .returned (.int .i64 (Lib.bitLen x.toNat)) ∧ w' = w := Any.bits_Len32 Tryz.lays128 x w h0 h1
def Tryz.lays125_ren : Go.Shelf.Ren := ⟨fun | 125 => 118 | 128 => 136 | 129 => 137 | n => n, fun | 46 => 130 | 3 => 3 | 51 => 171 | 53 => 95 | 4 => 4 | 5 => 5 | 9 => 9 | n => n, fun | n => n⟩
theorem Tryz.lays125 : Go.Proofs.Lays.n125 Tryz.prog Tryz.lays125_ren := {
  mixed := by kernel_rfl
  f125 := Tryz.func118.trans (congrArg some (by kernel_rfl))
  f128 := Tryz.func136.trans (congrArg some (by kernel_rfl))
  f129 := Tryz.func137.trans (congrArg some (by kernel_rfl))
  t3 := Tryz.underlying3
  a3 := Tryz.isAgg3
  z3 := Tryz.sizeOf3
  v3 := Tryz.zeroValue3
  t4 := Tryz.underlying4
  a4 := Tryz.isAgg4
  z4 := Tryz.sizeOf4
  v4 := Tryz.zeroValue4
  t5 := Tryz.underlying5
  a5 := Tryz.isAgg5
  z5 := Tryz.sizeOf5
  v5 := Tryz.zeroValue5
  t9 := Tryz.underlying9
  a9 := Tryz.isAgg9
  z9 := Tryz.sizeOf9
  v9 := Tryz.zeroValue9
  t46 := Tryz.underlying130
  a46 := Tryz.isAgg130
  z46 := Tryz.sizeOf130
  v46 := Tryz.zeroValue130
  t51 := Tryz.underlying171
  a51 := Tryz.isAgg171
  z51 := Tryz.sizeOf171
  v51 := Tryz.zeroValue171
  t53 := Tryz.underlying95
  a53 := Tryz.isAgg95
  z53 := Tryz.sizeOf95
  v53 := Tryz.zeroValue95 }
theorem Tryz.bits_Len (x : Int) (w : World) (h0 : 0 ≤ x) (h1 : x ≤ 18446744073709551615) :
    Calls Tryz.prog 118 #[.int .u64 x] w fun e w' => e = .returned (.int .i64 (Lib.bitLen x.toNat)) ∧ w' = w := Any.bits_Len Tryz.lays125 x w h0 h1
def Tryz.lays129_ren : Go.Shelf.Ren := ⟨fun | 129 => 137 | n => n, fun | 53 => 95 | 3 => 3 | 4 => 4 | 46 => 130 | 5 => 5 | 9 => 9 | n => n, fun | n => n⟩
theorem Tryz.lays129 : Go.Proofs.Lays.n129 Tryz.prog Tryz.lays129_ren := {
  mixed := by kernel_rfl
  f129 := Tryz.func137.trans (congrArg some (by kernel_rfl))
  t3 := Tryz.underlying3
  a3 := Tryz.isAgg3
  z3 := Tryz.sizeOf3
  v3 := Tryz.zeroValue3
  t4 := Tryz.underlying4
  a4 := Tryz.isAgg4
  z4 := Tryz.sizeOf4
  v4 := Tryz.zeroValue4
  t5 := Tryz.underlying5
  a5 := Tryz.isAgg5
  z5 := Tryz.sizeOf5
  v5 := Tryz.zeroValue5
  t9 := Tryz.underlying9
  a9 := Tryz.isAgg9
  z9 := Tryz.sizeOf9
  v9 := Tryz.zeroValue9
  t46 := Tryz.underlying130
  a46 := Tryz.isAgg130
  z46 := Tryz.sizeOf130
  v46 := Tryz.zeroValue130
  t53 := Tryz.underlying95
  a53 := Tryz.isAgg95
  z53 := Tryz.sizeOf95
  v53 := Tryz.zeroValue95 }
theorem Tryz.bits_Len64 (x : Int) (w : World) (h0 : 0 ≤ x) (h1 : x ≤ 18446744073709551615) :
    Calls Tryz.prog 137 #[.int .u64 x] w fun e w' => e = .returned (.int .i64 (Lib.bitLen x.toNat)) ∧ w' = w := Any.bits_Len64 Tryz.lays129 x w h0 h1
def Tryz.lays190_ren : Go.Shelf.Ren := ⟨fun | 190 => 73 | 125 => 118 | 258 => 117 | 128 => 136 | 129 => 137 | 302 => 128 | 303 => 129 | 304 => 130 | 305 => 131 | 306 => 132 | 307 => 133 | 308 => 83 | 309 => 134 | 310 => 135 | 333 => 149 | 329 => 150 | 330 => 151 | 334 => 152 | 335 => 153 | 336 => 121 | 344 => 159 | n => n, fun | 31 => 41 | 9 => 9 | 3 => 3 | 46 => 130 | 0 => 0 | 51 => 171 | 53 => 95 | 4 => 4 | 183 => 165 | 182 => 164 | 131 => 79 | 5 => 5 | 218 => 178 | 222 => 182 | 228 => 187 | 229 => 188 | n => n, fun | n => n⟩
theorem Tryz.lays190 : Go.Proofs.Lays.n190 Tryz.prog Tryz.lays190_ren := {
  mixed := by kernel_rfl
  f125 := Tryz.func118.trans (congrArg some (by kernel_rfl))
  f128 := Tryz.func136.trans (congrArg some (by kernel_rfl))
  f129 := Tryz.func137.trans (congrArg some (by kernel_rfl))
  f190 := Tryz.func73.trans (congrArg some (by kernel_rfl))
  f258 := Tryz.func117.trans (congrArg some (by kernel_rfl))
  f302 := Tryz.func128.trans (congrArg some (by kernel_rfl))
  f303 := Tryz.func129.trans (congrArg some (by kernel_rfl))
  f304 := Tryz.func130.trans (congrArg some (by kernel_rfl))
  f305 := Tryz.func131.trans (congrArg some (by kernel_rfl))
  f306 := Tryz.func132.trans (congrArg some (by kernel_rfl))
  f307 := Tryz.func133.trans (congrArg some (by kernel_rfl))
  f308 := Tryz.func83.trans (congrArg some (by kernel_rfl))
  f309 := Tryz.func134.trans (congrArg some (by kernel_rfl))
  f310 := Tryz.func135.trans (congrArg some (by kernel_rfl))
  f329 := Tryz.func150.trans (congrArg some (by kernel_rfl))
  f330 := Tryz.func151.trans (congrArg some (by kernel_rfl))
  f333 := Tryz.func149.trans (congrArg some (by kernel_rfl))
  f334 := Tryz.func152.trans (congrArg some (by kernel_rfl))
  f335 := Tryz.func153.trans (congrArg some (by kernel_rfl))
  f336 := Tryz.func121.trans (congrArg some (by kernel_rfl))
  f344 := Tryz.func159.trans (congrArg some (by kernel_rfl))
  t0 := Tryz.underlying0
  a0 := Tryz.isAgg0
  z0 := Tryz.sizeOf0
  v0 := Tryz.zeroValue0
  t3 := Tryz.underlying3
  a3 := Tryz.isAgg3
  z3 := Tryz.sizeOf3
  v3 := Tryz.zeroValue3
  t4 := Tryz.underlying4
  a4 := Tryz.isAgg4
  z4 := Tryz.sizeOf4
  v4 := Tryz.zeroValue4
  t5 := Tryz.underlying5
  a5 := Tryz.isAgg5
  z5 := Tryz.sizeOf5
  v5 := Tryz.zeroValue5
  t9 := Tryz.underlying9
  a9 := Tryz.isAgg9
  z9 := Tryz.sizeOf9
  v9 := Tryz.zeroValue9
  t31 := Tryz.underlying41
  a31 := Tryz.isAgg41
  z31 := Tryz.sizeOf41
  v31 := Tryz.zeroValue41
  t46 := Tryz.underlying130
  a46 := Tryz.isAgg130
  z46 := Tryz.sizeOf130
  v46 := Tryz.zeroValue130
  t51 := Tryz.underlying171
  a51 := Tryz.isAgg171
  z51 := Tryz.sizeOf171
  v51 := Tryz.zeroValue171
  t53 := Tryz.underlying95
  a53 := Tryz.isAgg95
  z53 := Tryz.sizeOf95
  v53 := Tryz.zeroValue95
  t131 := Tryz.underlying79
  a131 := Tryz.isAgg79
  z131 := Tryz.sizeOf79
  v131 := Tryz.zeroValue79
  t182 := Tryz.underlying164
  a182 := Tryz.isAgg164
  z182 := Tryz.sizeOf164
  v182 := Tryz.zeroValue164
  t183 := Tryz.underlying165
  a183 := Tryz.isAgg165
  z183 := Tryz.sizeOf165
  v183 := Tryz.zeroValue165
  t218 := Tryz.underlying178
  a218 := Tryz.isAgg178
  z218 := Tryz.sizeOf178
  v218 := Tryz.zeroValue178
  t222 := Tryz.underlying182
  a222 := Tryz.isAgg182
  z222 := Tryz.sizeOf182
  v222 := Tryz.zeroValue182
  t228 := Tryz.underlying187
  a228 := Tryz.isAgg187
  z228 := Tryz.sizeOf187
  v228 := Tryz.zeroValue187
  t229 := Tryz.underlying188
  a229 := Tryz.isAgg188
  z229 := Tryz.sizeOf188
  v229 := Tryz.zeroValue188 }
open Go.Sort Go.RowKit in
theorem Tryz.slices_Sort_string (blk off cap : Nat) (ss : List (List UInt8)) (w : World) (hH : Holds encStr w blk off ss.toArray) (hblk : blk < w.heap.size) (hsz : ss.length < 4611686018427387904) :
    Calls Tryz.prog 73 #[.slice (some ⟨blk, off, none⟩) ss.length cap] w fun e w' =>
      e = .returned (.tuple #[]) ∧ ∃ n os, w' = grow (putRow encStr (Sort.ahead w n) blk off (ss.mergeSort fun x y => decide (x ≤ y)).toArray) os := Any.slices_Sort_string Tryz.lays190 blk off cap ss w hH hblk hsz
def Tryz.laysNm217_ren : Go.Shelf.Ren := ⟨fun | 17 => 75 | n => n, fun | 24 => 41 | 9 => 9 | 3 => 3 | 4 => 4 | 0 => 0 | n => n, fun | n => n⟩
theorem Tryz.laysNm217 : Go.Proofs.Lays2.n17 Tryz.prog Tryz.laysNm217_ren := {
  mixed := by kernel_rfl
  f17 := Tryz.func75.trans (congrArg some (by kernel_rfl))
  t0 := Tryz.underlying0
  a0 := Tryz.isAgg0
  z0 := Tryz.sizeOf0
  v0 := Tryz.zeroValue0
  t3 := Tryz.underlying3
  a3 := Tryz.isAgg3
  z3 := Tryz.sizeOf3
  v3 := Tryz.zeroValue3
  t4 := Tryz.underlying4
  a4 := Tryz.isAgg4
  z4 := Tryz.sizeOf4
  v4 := Tryz.zeroValue4
  t9 := Tryz.underlying9
  a9 := Tryz.isAgg9
  z9 := Tryz.sizeOf9
  v9 := Tryz.zeroValue9
  t24 := Tryz.underlying41
  a24 := Tryz.isAgg41
  z24 := Tryz.sizeOf41
  v24 := Tryz.zeroValue41 }
open Go.RowKit Go.Lib Go.Sort in

theorem Tryz.slices_Reverse_string (blk off cap : Nat) (zs : List (List UInt8)) (w : World) (hH : Holds encStr w blk off zs.toArray) (hsz : zs.length ≤ 9223372036854775807) :
    Calls Tryz.prog 75 #[.slice (some ⟨blk, off, none⟩) zs.length cap] w fun e w' => e = .returned (.tuple #[]) ∧ ∃ n, w' = putRow encStr (Sort.ahead w n) blk off zs.reverse.toArray := Any.slices_Reverse_string Tryz.laysNm217 blk off cap zs w hH hsz
open Go.RowKit Go.Lib Go.Sort in

theorem Tryz.slices_Reverse_string_empty (a : Option Addr) (cap : Nat) (w : World) :
    Calls Tryz.prog 75 #[.slice a 0 cap] w fun e w' => e = .returned (.tuple #[]) ∧ w' = w := Any.slices_Reverse_string_empty Tryz.laysNm217 a cap w
def Tryz.lays194_ren : Go.Shelf.Ren := ⟨fun | 194 => 104 | n => n, fun | 31 => 41 | 9 => 9 | 3 => 3 | 4 => 4 | 0 => 0 | n => n, fun | n => n⟩
theorem Tryz.lays194 : Go.Proofs.Lays.n194 Tryz.prog Tryz.lays194_ren := {
  mixed := by kernel_rfl
  f194 := Tryz.func104.trans (congrArg some (by kernel_rfl))
  t0 := Tryz.underlying0
  a0 := Tryz.isAgg0
  z0 := Tryz.sizeOf0
  v0 := Tryz.zeroValue0
  t3 := Tryz.underlying3
  a3 := Tryz.isAgg3
  z3 := Tryz.sizeOf3
  v3 := Tryz.zeroValue3
  t4 := Tryz.underlying4
  a4 := Tryz.isAgg4
  z4 := Tryz.sizeOf4
  v4 := Tryz.zeroValue4
  t9 := Tryz.underlying9
  a9 := Tryz.isAgg9
  z9 := Tryz.sizeOf9
  v9 := Tryz.zeroValue9
  t31 := Tryz.underlying41
  a31 := Tryz.isAgg41
  z31 := Tryz.sizeOf41
  v31 := Tryz.zeroValue41 }
open Go.RowKit Go.Lib Go.Sort in

theorem Tryz.slices_Compact_string (blk off cap : Nat) (zs : List (List UInt8)) (w : World) (hH : Holds encStr w blk off zs.toArray) (hsz : zs.length ≤ 9223372036854775807) (hcap : zs.length ≤ cap) :
    Calls Tryz.prog 104 #[.slice (some ⟨blk, off, none⟩) zs.length cap] w fun e w' => e = .returned (.slice (some ⟨blk, off, none⟩) (Lib.compact zs).length cap) ∧ ∃ q, w' = putRow encStr (Sort.ahead w q) blk off (Lib.compact zs ++ List.replicate (zs.length - (Lib.compact zs).length) []).toArray := Any.slices_Compact_string Tryz.lays194 blk off cap zs w hH hsz hcap
open Go.RowKit Go.Lib Go.Sort in

theorem Tryz.slices_Compact_string_empty (a : Option Addr) (cap : Nat) (w : World) :
    Calls Tryz.prog 104 #[.slice a 0 cap] w fun e w' => e = .returned (.slice a 0 cap) ∧ w' = w := Any.slices_Compact_string_empty Tryz.lays194 a cap w
open Go.RowKit Go.Sort in

theorem Tryz.slices_Sort_string_none (p : Option Addr) (cap : Nat) (w : World) :
    Calls Tryz.prog 73 #[.slice p 0 cap] w fun e w' => e = .returned (.tuple #[]) ∧ w' = w := Any.slices_Sort_string_none Tryz.lays190 p cap w
end Go.Proofs
