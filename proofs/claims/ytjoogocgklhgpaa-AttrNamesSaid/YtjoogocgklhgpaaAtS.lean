/- attr: lists of attributes and of specs, as they are read; slices.IndexFunc, ContainsFunc, EqualFunc over them. -/
import Derived.Test.YtjoogocgklhgpaaAtL
namespace Go.Proofs.Ytjoogocgklhgpaa
open Go.RowKit

def atC (l : List At) : List Value := l.flatMap At.c
def spC (l : List Sp) : List Value := l.flatMap Sp.c
theorem atC_len (l : List At) : (atC l).length = l.length * 2 := by
  unfold atC; induction l with
  | nil => rfl
  | cons a l ih => simp only [List.flatMap_cons, List.length_append, List.length_cons, ih, At.c, List.length_nil]; omega
theorem spC_len (l : List Sp) : (spC l).length = l.length * 3 := by
  unfold spC; induction l with
  | nil => rfl
  | cons a l ih => simp only [List.flatMap_cons, List.length_append, List.length_cons, ih, Sp.c, List.length_nil]; omega
theorem atC_app (l m : List At) : atC (l ++ m) = atC l ++ atC m := by simp [atC]
theorem spC_app (l m : List Sp) : spC (l ++ m) = spC l ++ spC m := by simp [spC]
theorem atC_one (l : List At) : ∀ u ∈ atC l, u.oneCell' = true := by
  intro u hu
  simp only [atC, At.c, List.mem_flatMap] at hu
  obtain ⟨a, _, h⟩ := hu
  simp at h
  rcases h with rfl | rfl <;> rfl
theorem atC_get (l : List At) (k : Nat) (hk : k < l.length) : (atC l)[k * 2]? = some (.string l[k].n) ∧ (atC l)[k * 2 + 1]? = some (.string l[k].v) := by
  unfold atC
  induction l generalizing k with
  | nil => simp at hk
  | cons a l ih =>
    cases k with
    | zero => simp [At.c]
    | succ k =>
      have := ih k (by simpa using hk)
      simp only [List.flatMap_cons, At.c, List.cons_append, List.nil_append, List.getElem_cons_succ]
      rw [show (k + 1) * 2 = k * 2 + 1 + 1 by omega]
      simpa using this
theorem spC_get (l : List Sp) (k : Nat) (hk : k < l.length) : (spC l)[k * 3]? = some (.string l[k].n) ∧ (spC l)[k * 3 + 1]? = some (.string l[k].d) ∧ (spC l)[k * 3 + 2]? = some (.bool l[k].m) := by
  unfold spC
  induction l generalizing k with
  | nil => simp at hk
  | cons a l ih =>
    cases k with
    | zero => simp [Sp.c]
    | succ k =>
      have := ih k (by simpa using hk)
      simp only [List.flatMap_cons, Sp.c, List.cons_append, List.nil_append, List.getElem_cons_succ]
      rw [show (k + 1) * 3 = k * 3 + 1 + 1 + 1 by omega]
      simpa [Nat.add_assoc] using this

def Ats (w : World) (B : Nat) (v : Value) (l : List At) : Prop := Rd w B v 2 l.length (atC l)
def Sps (w : World) (B : Nat) (v : Value) (l : List Sp) : Prop := Rd w B v 3 l.length (spC l)
section
variable {w w' : World} {B B' : Nat} {v : Value} {l : List At} {s : List Sp}
theorem Ats.below (h : Ats w B v l) (hb : Below B w w') : Ats w' B v l := Rd.below h hb
theorem Sps.below (h : Sps w B v s) (hb : Below B w w') : Sps w' B v s := Rd.below h hb
theorem Ats.mono (h : Ats w B v l) (hb : B ≤ B') : Ats w B' v l := Rd.mono h hb
theorem Sps.mono (h : Sps w B v s) (hb : B ≤ B') : Sps w B' v s := Rd.mono h hb
theorem Ats.form (h : Ats w B v l) : ∃ A cap, v = .slice A l.length cap := Rd.form h
theorem Sps.form (h : Sps w B v s) : ∃ A cap, v = .slice A s.length cap := Rd.form h
theorem Ats.max (h : Ats w B v l) : l.length ≤ maxLen := Rd.max h
theorem Sps.max (h : Sps w B v s) : s.length ≤ maxLen := Rd.max h
theorem Ats.nil (w : World) (B : Nat) : Ats w B (.slice none 0 0) [] := Rd.nil w B 2
theorem Sps.nil (w : World) (B : Nat) : Sps w B (.slice none 0 0) [] := Rd.nil w B 3
theorem Ats.at {A : Option Addr} {cap k : Nat} (h : Ats w B (.slice A l.length cap) l) (hk : k < l.length) :
    ∃ b off, A = some ⟨b, off, none⟩ ∧ b < B ∧ l.length ≤ cap ∧ w.cell? ⟨b, off + k * 2, none⟩ = some (.string l[k].n) ∧ w.cell? ⟨b, off + k * 2 + 1, none⟩ = some (.string l[k].v) := by
  obtain ⟨b, off, rfl, hb, hcap, hc⟩ := Rd.at h (by omega)
  exact ⟨b, off, rfl, hb, hcap, hc _ _ (atC_get l k hk).1, by rw [Nat.add_assoc]; exact hc _ _ (atC_get l k hk).2⟩
theorem Sps.at {A : Option Addr} {cap k : Nat} (h : Sps w B (.slice A s.length cap) s) (hk : k < s.length) :
    ∃ b off, A = some ⟨b, off, none⟩ ∧ b < B ∧ s.length ≤ cap ∧ w.cell? ⟨b, off + k * 3, none⟩ = some (.string s[k].n) ∧ w.cell? ⟨b, off + k * 3 + 1, none⟩ = some (.string s[k].d) ∧ w.cell? ⟨b, off + k * 3 + 1 + 1, none⟩ = some (.bool s[k].m) := by
  obtain ⟨b, off, rfl, hb, hcap, hc⟩ := Rd.at h (by omega)
  refine ⟨b, off, rfl, hb, hcap, hc _ _ (spC_get s k hk).1, ?_, ?_⟩
  · rw [Nat.add_assoc]; exact hc _ _ (spC_get s k hk).2.1
  · rw [Nat.add_assoc, Nat.add_assoc]; exact hc _ _ (spC_get s k hk).2.2
theorem Ats.own {e : TypeId} {base : Nat} (h : w.ownsRow base e 2 v l.length (atC l)) : Ats w w.heap.size v l := Rd.own h
end

def idx {T : Type} (p : T → Bool) (l : List T) : Int := if l.any p then (l.findIdx p : Int) else -1
theorem idx_no {T : Type} {p : T → Bool} {l : List T} (h : ∀ j (hj : j < l.length), p l[j] = false) : idx p l = -1 := by
  unfold idx
  rw [if_neg]
  rw [Bool.not_eq_true, List.any_eq_false]
  intro x hx
  obtain ⟨j, hj, rfl⟩ := List.mem_iff_getElem.1 hx
  rw [h j hj]; simp
theorem idx_at {T : Type} {p : T → Bool} {l : List T} {k : Nat} (hk : k < l.length) (hp : p l[k] = true) (h : ∀ j (hj : j < l.length), j < k → p l[j] = false) : idx p l = k := by
  unfold idx
  rw [if_pos (List.any_eq_true.2 ⟨_, List.getElem_mem hk, hp⟩)]
  congr 1
  rw [List.findIdx_eq hk]
  exact ⟨hp, fun j hj => by simpa using h j (by omega) hj⟩
theorem idx_ge {T : Type} (p : T → Bool) (l : List T) : decide (0 ≤ idx p l) = l.any p := by
  unfold idx
  cases h : l.any p <;> simp

set_option maxRecDepth 100000 in
theorem idxLong_any (v : Value) (l : List At) (B : Nat) (w : World) (hv : Ats w B v l) (hB : B ≤ w.heap.size) :
    Calls Try.prog 45 #[v, .func (.func 32) #[] #[]] w fun e w' => e = .returned (.int .i64 (idx longB l)) ∧ Below w.heap.size w w' := by
  obtain ⟨A, cap, rfl⟩ := hv.form
  have hm := hv.max
  unfold maxLen at hm
  go_enter Try.func45, Try.ntmps45
  go_wp2
  go_loopw [8] (fun i wr => ∃ k : Nat, k ≤ l.length ∧ i = .int .i64 k ∧ Below w.heap.size w wr ∧ Hid (∀ j (hj : j < l.length), j < k → longB l[j] = false)) (fun i _ => l.length - (intOf i).toNat)
  case atStart => exact ⟨0, Nat.zero_le _, rfl, Below.refl _ _, fun j _ hj => by omega⟩
  case round =>
    obtain ⟨k, hk, rfl, hb, hall⟩ := hrel
    by_cases hlt : k < l.length
    · obtain ⟨b, off, rfl, hbB, hcap, hc0, hc1⟩ := (hv.below (hb.mono hB)).at hlt
      go_wp2_with fail
      refine (long_any l[k] _).mono ?_
      rintro e w1 ⟨rfl, hb1⟩
      have hb2 := hb.trans (hb1.mono hb.size)
      clear hb1
      by_cases hp : longB l[k] = true
      · have hfin : Hid (idx longB l = k) := idx_at hlt hp hall.out
        go_wp2
        go_ret
        exact ⟨ret_int hfin.out.symm, hb2⟩
      · have hp : longB l[k] = false := by simpa using hp
        have hall' : Hid (∀ j (hj : j < l.length), j < k + 1 → longB l[j] = false) := by
          show ∀ j, _
          intro j hj hjk
          by_cases e : j = k
          · subst e; exact hp
          · exact hall.out j hj (by omega)
        go_wp2
        go_roundw
        case rel => exact ⟨k + 1, by omega, by go_num, hb2, hall'⟩
        case measure => simp [intOf]; omega
    · have hfin : Hid (idx longB l = -1) := idx_no fun j hj => hall.out j hj (by omega)
      go_wp2
      go_ret
      exact ⟨ret_int hfin.out.symm, hb⟩

set_option maxRecDepth 100000 in
theorem idxFind_any (v : Value) (l : List At) (B : Nat) (w : World) (hv : Ats w B v l) (hB : B ≤ w.heap.size) (p : Addr) (n : ByteArray) (hp : w.cell? p = some (.string n)) (hpb : p.block < w.heap.size) :
    Calls Try.prog 45 #[v, .func (.func 47) #[] #[.pointer (some p)]] w fun e w' => e = .returned (.int .i64 (idx (hasN n) l)) ∧ Below w.heap.size w w' := by
  obtain ⟨A, cap, rfl⟩ := hv.form
  have hm := hv.max
  unfold maxLen at hm
  go_enter Try.func45, Try.ntmps45
  go_wp2
  go_loopw [8] (fun i wr => ∃ k : Nat, k ≤ l.length ∧ i = .int .i64 k ∧ Below w.heap.size w wr ∧ Hid (∀ j (hj : j < l.length), j < k → (hasN n) l[j] = false)) (fun i _ => l.length - (intOf i).toNat)
  case atStart => exact ⟨0, Nat.zero_le _, rfl, Below.refl _ _, fun j _ hj => by omega⟩
  case round =>
    obtain ⟨k, hk, rfl, hb, hall⟩ := hrel
    by_cases hlt : k < l.length
    · obtain ⟨b, off, rfl, hbB, hcap, hc0, hc1⟩ := (hv.below (hb.mono hB)).at hlt
      have hp1 := (hb.cell hpb).trans hp
      have hs1 := hb.size
      go_wp2_with fail
      refine (findOne_any l[k] p n _ (by first | exact hp1 | simpa using hp1) (by omega)).mono ?_
      rintro e w1 ⟨rfl, hb1⟩
      have hb2 := hb.trans (hb1.mono hb.size)
      clear hb1
      by_cases hp : (hasN n) l[k] = true
      · have hfin : Hid (idx (hasN n) l = k) := idx_at hlt hp hall.out
        go_wp2
        go_ret
        exact ⟨ret_int hfin.out.symm, hb2⟩
      · have hp : (hasN n) l[k] = false := by simpa using hp
        have hall' : Hid (∀ j (hj : j < l.length), j < k + 1 → (hasN n) l[j] = false) := by
          show ∀ j, _
          intro j hj hjk
          by_cases e : j = k
          · subst e; exact hp
          · exact hall.out j hj (by omega)
        go_wp2
        go_roundw
        case rel => exact ⟨k + 1, by omega, by go_num, hb2, hall'⟩
        case measure => simp [intOf]; omega
    · have hfin : Hid (idx (hasN n) l = -1) := idx_no fun j hj => hall.out j hj (by omega)
      go_wp2
      go_ret
      exact ⟨ret_int hfin.out.symm, hb⟩

set_option maxRecDepth 100000 in
theorem idxNeed_any (v : Value) (l : List Sp) (B : Nat) (w : World) (hv : Sps w B v l) (hB : B ≤ w.heap.size) :
    Calls Try.prog 46 #[v, .func (.func 36) #[] #[]] w fun e w' => e = .returned (.int .i64 (idx needlessB l)) ∧ Below w.heap.size w w' := by
  obtain ⟨A, cap, rfl⟩ := hv.form
  have hm := hv.max
  unfold maxLen at hm
  go_enter Try.func46, Try.ntmps46
  go_wp2
  go_loopw [8] (fun i wr => ∃ k : Nat, k ≤ l.length ∧ i = .int .i64 k ∧ Below w.heap.size w wr ∧ Hid (∀ j (hj : j < l.length), j < k → needlessB l[j] = false)) (fun i _ => l.length - (intOf i).toNat)
  case atStart => exact ⟨0, Nat.zero_le _, rfl, Below.refl _ _, fun j _ hj => by omega⟩
  case round =>
    obtain ⟨k, hk, rfl, hb, hall⟩ := hrel
    by_cases hlt : k < l.length
    · obtain ⟨b, off, rfl, hbB, hcap, hc0, hc1, hc2⟩ := (hv.below (hb.mono hB)).at hlt
      go_wp2_with fail
      refine (needless_any l[k] _).mono ?_
      rintro e w1 ⟨rfl, hb1⟩
      have hb2 := hb.trans (hb1.mono hb.size)
      clear hb1
      by_cases hp : needlessB l[k] = true
      · have hfin : Hid (idx needlessB l = k) := idx_at hlt hp hall.out
        go_wp2
        go_ret
        exact ⟨ret_int hfin.out.symm, hb2⟩
      · have hp : needlessB l[k] = false := by simpa using hp
        have hall' : Hid (∀ j (hj : j < l.length), j < k + 1 → needlessB l[j] = false) := by
          show ∀ j, _
          intro j hj hjk
          by_cases e : j = k
          · subst e; exact hp
          · exact hall.out j hj (by omega)
        go_wp2
        go_roundw
        case rel => exact ⟨k + 1, by omega, by go_num, hb2, hall'⟩
        case measure => simp [intOf]; omega
    · have hfin : Hid (idx needlessB l = -1) := idx_no fun j hj => hall.out j hj (by omega)
      go_wp2
      go_ret
      exact ⟨ret_int hfin.out.symm, hb⟩

set_option maxRecDepth 100000 in
theorem contLong_any (v : Value) (l : List At) (B : Nat) (w : World) (hv : Ats w B v l) (hB : B ≤ w.heap.size) :
    Calls Try.prog 31 #[v, .func (.func 32) #[] #[]] w fun e w' => e = .returned (.bool (l.any longB)) ∧ Below w.heap.size w w' := by
  obtain ⟨A, cap, rfl⟩ := hv.form
  have hfin := Lib.hid (idx_ge longB l)
  go_enter Try.func31, Try.ntmps31
  go_wp2_with fail
  refine (idxLong_any _ l B w hv hB).mono ?_
  rintro e w1 ⟨rfl, hb1⟩
  go_wp2
  go_ret
  exact ⟨ret_bool hfin.out, hb1⟩

set_option maxRecDepth 100000 in
theorem contNeed_any (v : Value) (l : List Sp) (B : Nat) (w : World) (hv : Sps w B v l) (hB : B ≤ w.heap.size) :
    Calls Try.prog 35 #[v, .func (.func 36) #[] #[]] w fun e w' => e = .returned (.bool (l.any needlessB)) ∧ Below w.heap.size w w' := by
  obtain ⟨A, cap, rfl⟩ := hv.form
  have hfin := Lib.hid (idx_ge needlessB l)
  go_enter Try.func35, Try.ntmps35
  go_wp2_with fail
  refine (idxNeed_any _ l B w hv hB).mono ?_
  rintro e w1 ⟨rfl, hb1⟩
  go_wp2
  go_ret
  exact ⟨ret_bool hfin.out, hb1⟩
end Go.Proofs.Ytjoogocgklhgpaa
