/- append onto a slice of the call's own, elements of any number of cells; what is appended is read (Rd), be it nil, empty or not. Of no program. -/
import Derived.Test.YtkbileabkfccgaaGreatDoorCz01
import Derived.Maps.AppendAt
import Derived.Deep.AppendLies
import Derived.RegionTactic
import Derived.OwnWalk

namespace Go.Proofs.YtkbileabkfccgaaGreatDoor
open Go.RowKit
section
variable {P : Program} (w : World)

/-- an own row's value: nil, or the head of a block with room for its elements -/
theorem own_shape {w : World} {base e size n : Nat} {v : Value} {xs : List Value} (h : w.ownsRow base e size v n xs) : (v = .slice none 0 0 ∧ n = 0) ∨ ∃ g cap, v = .slice (some ⟨g, 0, none⟩) n cap ∧ n ≤ cap := by
  rcases h.2 with ⟨hv, hn⟩ | ⟨g, cap, _, hv, _, _, hc, _⟩
  · exact .inl ⟨hv, hn⟩
  · exact .inr ⟨g, cap, hv, hc⟩
/-- nothing is appended, out of nil -/
theorem app_nothing {base e size n : Nat} {v : Value} {xs : List Value} {i : TypeInfo} (t ty : TypeId) (hown : w.ownsRow base e size v n xs) (ht : P.underlying t = some (.slice e)) (hi : P.info? e = some i) (c : Nat) :
    (Builtin.append_ #[t, t] ty #[v, .slice none 0 c]).run P w = .ok v w := by
  rcases own_shape hown with ⟨rfl, _⟩ | ⟨g, cap, rfl, hc⟩ <;>
    simp [Builtin.append_, Builtin.lenOf, Builtin.firstCells, typeInfo, sizeOf, storeCells, run_underlying ht, *]

/-- what is read, as the library's law of append asks it -/
theorem Rd.src {w : World} {B size m : Nat} {v2 : Value} {news : List Value} (h : Rd w B v2 size m news) :
    (∃ c, v2 = .slice none 0 c ∧ m = 0 ∧ news = []) ∨ ∃ ad c, v2 = .slice (some ad) m c ∧ ∀ j u, news[j]? = some u → w.cell? (ad.add j) = some u := by
  obtain ⟨A, cap, rfl, hl, _, _, hs⟩ := h
  have hnil : m = 0 → news = [] := by rintro rfl; exact List.eq_nil_of_length_eq_zero (by omega)
  match A, hs with
  | none, .inl h0 => exact .inl ⟨cap, by rw [h0], h0, hnil h0⟩
  | none, .inr ⟨_, _, h0, _⟩ => cases h0
  | some ad, .inl h0 => exact .inr ⟨ad, cap, rfl, fun j u hu => by rw [hnil h0] at hu; simp at hu⟩
  | some _, .inr ⟨b, off, rfl, _, hc⟩ => exact .inr ⟨_, cap, rfl, fun j u hu => by rw [Addr.add_lit]; exact hc j u hu⟩

theorem run_appR (base : Nat) (t ty e : TypeId) (z : Value) (size bytes : Nat) (ht : P.underlying t = some (.slice e)) (hi : (P.info? e).map (fun i => (i.zero, i.size, i.bytes)) = some (some z, size, bytes))
    (hzs : z.cells.size = size) (hsz : 0 < size)
    {v v2 : Value} {n m : Nat} {xs news : List Value} {B : Nat} (hown : w.ownsRow base e size v n xs) (hr : Rd w B v2 size m news) (h1 : ∀ u ∈ news, u.oneCell' = true)
    (h63 : n + m ≤ maxLen) (hbytes : (n + m) * bytes ≤ 140737488355328) (hbase : base ≤ w.heap.size) :
    ∃ v' w', (Builtin.append_ #[t, t] ty #[v, v2]).run P w = .ok v' w' ∧ w'.ownsRow base e size v' (n + m) (xs ++ news) ∧ w.grownBy w' v.ownBlock ∧ (v'.ownBlock = v.ownBlock ∨ v'.ownBlock = some w.heap.size) := by
  obtain ⟨i, hi0, hz, hs1, hs2⟩ := info_parts hi
  rcases hr.src with ⟨c, rfl, rfl, rfl⟩ | ⟨ad, c, rfl, hcell⟩
  · refine ⟨v, w, app_nothing w t ty hown ht hi0 c, ?_, World.grownBy.refl w _, .inl rfl⟩
    rw [Nat.add_zero, List.append_nil]; exact hown
  · obtain ⟨v', w', hrun, ho, hg, _, hb⟩ := run_append_own_at (P := P) w base t ty e i z size bytes ht hi0 hz hs1 hs2 hzs hsz v n xs hown ad m c news hr.len hcell h1 h63 hbytes hbase
    exact ⟨v', w', hrun, ho, hg, hb⟩

theorem wp_appR {o : Oper} {a : Act} {K : Act → World → Prop} {Q : Exit → Act → World → Prop} (s x : Operand) (t e : TypeId)
    (ho : o.op = .call { callee := .builtin .append, args := #[s, x], argTypes := #[t, t] })
    (z : Value) (size bytes : Nat) (ht : P.underlying t = some (.slice e)) (hi : (P.info? e).map (fun i => (i.zero, i.size, i.bytes)) = some (some z, size, bytes))
    (hzs : z.cells.size = size) (hsz : 0 < size) (base : Nat)
    {v v2 : Value} {n m : Nat} {xs news : List Value} {B : Nat} (hs : a.eval s = v) (hx : a.eval x = v2) (hown : w.ownsRow base e size v n xs) (hr : Rd w B v2 size m news) (h1 : ∀ u ∈ news, u.oneCell' = true)
    (h63 : n + m ≤ maxLen) (hbytes : (n + m) * bytes ≤ 140737488355328) (hbase : base ≤ w.heap.size)
    (h : ∀ v' w', w'.ownsRow base e size v' (n + m) (xs ++ news) → w.grownBy w' v.ownBlock → (v'.ownBlock = v.ownBlock ∨ v'.ownBlock = some w.heap.size) → K (a.put o.dst v') w') : o.wp P a w K Q := by
  obtain ⟨v', w', hrun, r1, r2, r3⟩ := run_appR (P := P) w base t o.type e z size bytes ht hi hzs hsz hown hr h1 h63 hbytes hbase
  subst hs hx
  unfold Oper.wp
  simp [execOp, ho, resolve, invoke, builtin, hrun, Result.andThen]
  exact h v' w' r1 r2 r3

theorem wpList_appR {ops : Array Oper} {rest : List Oper} {o : Oper} {a : Act} {Q : Exit → Act → World → Prop} (hgd : o.guard = none) (s x : Operand) (t e : TypeId)
    (ho : o.op = .call { callee := .builtin .append, args := #[s, x], argTypes := #[t, t] })
    (z : Value) (size bytes : Nat) (ht : P.underlying t = some (.slice e)) (hi : (P.info? e).map (fun i => (i.zero, i.size, i.bytes)) = some (some z, size, bytes))
    (hzs : z.cells.size = size) (hsz : 0 < size) (base : Nat)
    {v v2 : Value} {n m : Nat} {xs news : List Value} {B : Nat} (hs : a.eval s = v) (hx : a.eval x = v2) (hown : w.ownsRow base e size v n xs) (hr : Rd w B v2 size m news) (h1 : ∀ u ∈ news, u.oneCell' = true)
    (h63 : n + m ≤ maxLen) (hbytes : (n + m) * bytes ≤ 140737488355328) (hbase : base ≤ w.heap.size)
    (h : ∀ v' w', w'.ownsRow base e size v' (n + m) (xs ++ news) → w.grownBy w' v.ownBlock → (v'.ownBlock = v.ownBlock ∨ v'.ownBlock = some w.heap.size) → wpList P ops Q rest (a.put o.dst v') w') :
    wpList P ops Q (o :: rest) a w :=
  wpList_plain hgd fun _ hK => wp_appR w s x t e ho z size bytes ht hi hzs hsz base hs hx hown hr h1 h63 hbytes hbase fun v' w' r1 r2 r3 => hK _ _ (h v' w' r1 r2 r3)

/-- the same, within a region that draws its order -/
theorem step_appR {ops : Array Oper} {o : Oper} {a : Act} {K : Act → World → Prop} {Q : Exit → Act → World → Prop} {E : Prop} (hgd : o.guard = none) (s x : Operand) (t e : TypeId)
    (ho : o.op = .call { callee := .builtin .append, args := #[s, x], argTypes := #[t, t] })
    (z : Value) (size bytes : Nat) (ht : P.underlying t = some (.slice e)) (hi : (P.info? e).map (fun i => (i.zero, i.size, i.bytes)) = some (some z, size, bytes))
    (hzs : z.cells.size = size) (hsz : 0 < size) (base : Nat)
    {v v2 : Value} {n m : Nat} {xs news : List Value} {B : Nat} (hs : a.eval s = v) (hx : a.eval x = v2) (hown : w.ownsRow base e size v n xs) (hr : Rd w B v2 size m news) (h1 : ∀ u ∈ news, u.oneCell' = true)
    (h63 : n + m ≤ maxLen) (hbytes : (n + m) * bytes ≤ 140737488355328) (hbase : base ≤ w.heap.size)
    (h : ∀ v' w', w'.ownsRow base e size v' (n + m) (xs ++ news) → w.grownBy w' v.ownBlock → (v'.ownBlock = v.ownBlock ∨ v'.ownBlock = some w.heap.size) → K (a.put o.dst v') w') :
    if Region.wanted o (yielded ops a.tmps) = true then Oper.wp P o a w K Q else E := by
  rw [if_pos (by unfold Region.wanted; rw [hgd])]
  exact wp_appR w s x t e ho z size bytes ht hi hzs hsz base hs hx hown hr h1 h63 hbytes hbase h
end
end Go.Proofs.YtkbileabkfccgaaGreatDoor
