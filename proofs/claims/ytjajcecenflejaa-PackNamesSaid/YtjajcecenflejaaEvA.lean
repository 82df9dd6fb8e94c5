/- A machine that runs a Go text by reckoning: keys, trees, lists. Of no program. -/
import Derived.Orders
namespace Go.Ev

/-! ## keys -/
inductive Ps where | h | o (p : Ps) | i (p : Ps)
noncomputable def Ps.succ (p : Ps) : Ps := Ps.rec (.o .h) (fun p _ => .i p) (fun _ ih => .o ih) p
def Ps.num : Ps → Nat | .h => 1 | .o p => 2 * p.num | .i p => 2 * p.num + 1
def psGo : Nat → Nat → Ps
  | 0, _ => .h
  | f + 1, n => bif Nat.ble n 1 then .h else bif Nat.beq (n % 2) 0 then .o (psGo f (n / 2)) else .i (psGo f (n / 2))
def psOf (n : Nat) : Ps := psGo (n + 1) (n + 1)
theorem psGo_num : ∀ (f n : Nat), 1 ≤ n → n ≤ f → (psGo f n).num = n
  | 0, n, h, h2 => by omega
  | f + 1, n, h, h2 => by
    unfold psGo
    by_cases h1 : n ≤ 1
    · rw [Nat.ble_eq_true_of_le h1]; simp [Ps.num]; omega
    · have : Nat.ble n 1 = false := by
        cases hb : Nat.ble n 1 with
        | false => rfl
        | true => exact absurd (Nat.le_of_ble_eq_true hb) h1
      rw [this]
      simp only [cond_false]
      have ih := psGo_num f (n / 2) (by omega) (by omega)
      by_cases h3 : n % 2 = 0
      · rw [show Nat.beq (n % 2) 0 = true by rw [h3]; rfl]
        simp only [cond_true, Ps.num, ih]; omega
      · rw [show Nat.beq (n % 2) 0 = false by
          cases hb : Nat.beq (n % 2) 0 with
          | false => rfl
          | true => exact absurd (Nat.eq_of_beq_eq_true hb) h3]
        simp only [cond_false, Ps.num, ih]; omega
theorem psOf_inj {m n : Nat} (h : psOf m = psOf n) : m = n := by
  have h1 := psGo_num (m + 1) (m + 1) (by omega) (by omega)
  have h2 := psGo_num (n + 1) (n + 1) (by omega) (by omega)
  unfold psOf at h
  rw [h] at h1; omega
noncomputable def Ps.beq (p : Ps) : Ps → Bool :=
  Ps.rec (fun q => Ps.casesOn q true (fun _ => false) (fun _ => false)) (fun _ ih q => Ps.casesOn q false ih (fun _ => false)) (fun _ ih q => Ps.casesOn q false (fun _ => false) ih) p
theorem Ps.beq_iff : ∀ p q : Ps, p.beq q = true ↔ p = q
  | .h, .h => by simp [Ps.beq]
  | .h, .o _ => by simp [Ps.beq]
  | .h, .i _ => by simp [Ps.beq]
  | .o _, .h => by simp [Ps.beq]
  | .o p, .o q => by have := Ps.beq_iff p q; simpa [Ps.beq] using this
  | .o _, .i _ => by simp [Ps.beq]
  | .i _, .h => by simp [Ps.beq]
  | .i _, .o _ => by simp [Ps.beq]
  | .i p, .i q => by have := Ps.beq_iff p q; simpa [Ps.beq] using this

/-! ## trees -/
inductive PT (α : Type) where | lf | nd (l : PT α) (v : Option α) (r : PT α)
section
variable {α : Type}
noncomputable def PT.get (p : Ps) : PT α → Option α :=
  Ps.rec (fun t => PT.rec none (fun _ v _ _ _ => v) t) (fun _ ih t => PT.rec none (fun l _ _ _ _ => ih l) t) (fun _ ih t => PT.rec none (fun _ _ r _ _ => ih r) t) p
noncomputable def PT.set (x : Option α) (p : Ps) : PT α → PT α :=
  Ps.rec (fun t => PT.rec (.nd .lf x .lf) (fun l _ r _ _ => .nd l x r) t)
    (fun _ ih t => PT.rec (.nd (ih .lf) none .lf) (fun l v r _ _ => .nd (ih l) v r) t)
    (fun _ ih t => PT.rec (.nd .lf none (ih .lf)) (fun l v r _ _ => .nd l v (ih r)) t) p
theorem PT.get_lf (p : Ps) : PT.get p (.lf : PT α) = none := by cases p <;> rfl
theorem PT.get_set (x : Option α) : ∀ (p : Ps) (t : PT α), (t.set x p).get p = x
  | .h, .lf => rfl
  | .h, .nd .. => rfl
  | .o p, .lf => PT.get_set x p .lf
  | .o p, .nd l _ _ => PT.get_set x p l
  | .i p, .lf => PT.get_set x p .lf
  | .i p, .nd _ _ r => PT.get_set x p r
theorem PT.get_set_ne (x : Option α) : ∀ (p q : Ps) (t : PT α), p ≠ q → (t.set x p).get q = t.get q
  | .h, .h, _, h => absurd rfl h
  | .h, .o q, .lf, _ => PT.get_lf q
  | .h, .o _, .nd .., _ => rfl
  | .h, .i q, .lf, _ => PT.get_lf q
  | .h, .i _, .nd .., _ => rfl
  | .o _, .h, .lf, _ => rfl
  | .o _, .h, .nd .., _ => rfl
  | .o p, .o q, .lf, h => (PT.get_set_ne x p q .lf (fun e => h (e ▸ rfl))).trans (PT.get_lf q)
  | .o p, .o q, .nd l _ _, h => PT.get_set_ne x p q l (fun e => h (e ▸ rfl))
  | .o _, .i q, .lf, _ => PT.get_lf q
  | .o _, .i _, .nd .., _ => rfl
  | .i _, .h, .lf, _ => rfl
  | .i _, .h, .nd .., _ => rfl
  | .i _, .o q, .lf, _ => PT.get_lf q
  | .i _, .o _, .nd .., _ => rfl
  | .i p, .i q, .lf, h => (PT.get_set_ne x p q .lf (fun e => h (e ▸ rfl))).trans (PT.get_lf q)
  | .i p, .i q, .nd _ _ r, h => PT.get_set_ne x p q r (fun e => h (e ▸ rfl))
end

/-! ## lists -/
section
variable {α : Type}
noncomputable def nth (l : List α) : Nat → Option α := List.rec (fun _ => none) (fun x _ ih n => Nat.rec (some x) (fun n _ => ih n) n) l
noncomputable def app (l m : List α) : List α := List.rec m (fun x _ ih => .cons x ih) l
noncomputable def len (l : List α) : Nat := List.rec 0 (fun _ _ ih => Nat.succ ih) l
noncomputable def drop (l : List α) : Nat → List α := List.rec (fun _ => []) (fun x l' ih n => Nat.rec (x :: l') (fun n _ => ih n) n) l
noncomputable def take (l : List α) : Nat → List α := List.rec (fun _ => []) (fun x _ ih n => Nat.rec [] (fun n _ => x :: ih n) n) l
noncomputable def rep (z : List α) (n : Nat) : List α := Nat.rec [] (fun _ ih => app z ih) n
theorem nth_eq : ∀ (l : List α) (n : Nat), nth l n = l[n]?
  | [], _ => rfl
  | _ :: _, 0 => rfl
  | _ :: l, n + 1 => by rw [List.getElem?_cons_succ, ← nth_eq l n]; rfl
theorem app_eq : ∀ l m : List α, app l m = l ++ m
  | [], _ => rfl
  | x :: l, m => by rw [List.cons_append, ← app_eq l m]; rfl
theorem len_eq : ∀ l : List α, len l = l.length
  | [] => rfl
  | _ :: l => by rw [List.length_cons, ← len_eq l]; rfl
theorem drop_eq : ∀ (l : List α) (n : Nat), drop l n = l.drop n
  | [], n => by cases n <;> rfl
  | _ :: _, 0 => rfl
  | _ :: l, n + 1 => by rw [List.drop_succ_cons, ← drop_eq l n]; rfl
theorem take_eq : ∀ (l : List α) (n : Nat), take l n = l.take n
  | [], n => by cases n <;> rfl
  | _ :: _, 0 => rfl
  | x :: l, n + 1 => by rw [List.take_succ_cons, ← take_eq l n]; rfl
/-- m laid over l, from n on -/
noncomputable def over (m l : List α) (n : Nat) : Option (List α) :=
  bif Nat.ble (n + len m) (len l) then some (app (take l n) (app m (drop l (n + len m)))) else none
theorem over_eq {m l r : List α} {n : Nat} (h : over m l n = some r) : n + m.length ≤ l.length ∧ r = l.take n ++ (m ++ l.drop (n + m.length)) := by
  unfold over at h
  rw [len_eq, len_eq] at h
  cases hb : Nat.ble (n + m.length) l.length with
  | false => rw [hb] at h; cases h
  | true =>
    rw [hb] at h
    simp only [cond_true, Option.some.injEq, app_eq, take_eq, drop_eq] at h
    exact ⟨Nat.le_of_ble_eq_true hb, h.symm⟩
/-- n of l from o on, all there -/
noncomputable def part (l : List α) (o n : Nat) : Option (List α) := bif Nat.ble (o + n) (len l) then some (take (drop l o) n) else none
theorem part_eq {l r : List α} {o n : Nat} (h : part l o n = some r) : o + n ≤ l.length ∧ r = (l.drop o).take n := by
  unfold part at h
  rw [len_eq] at h
  cases hb : Nat.ble (o + n) l.length with
  | false => rw [hb] at h; cases h
  | true =>
    rw [hb] at h
    simp only [cond_true, Option.some.injEq, take_eq, drop_eq] at h
    exact ⟨Nat.le_of_ble_eq_true hb, h.symm⟩
end
end Go.Ev
