/- YtjajcecenflejaaGreatCz06 -/
import Derived.Test.YtjajcecenflejaaGreatCz01
import Derived.Maps.AppendAt
import Derived.Deep.AppendLies
import Derived.RegionTactic
import Derived.OwnWalk
import Derived.Test.YtjajcecenflejaaGreatCz04
import Derived.Test.YtjajcecenflejaaGreatCz02
import Derived.Test.YtjajcecenflejaaGreatCz05
import Derived.Deep.RegionLaw
namespace Go.Proofs.YtjajcecenflejaaGreat
open Go.RowKit
section
variable {P : Program} (w : World)
theorem own_shape {w : World} {base e size n : Nat} {v : Value} {xs : List Value} (h : w.ownsRow base e size v n xs) : (v = .slice none 0 0 ∧ n = 0) ∨ ∃ g cap, v = .slice (some ⟨g, 0, none⟩) n cap ∧ n ≤ cap := by
  rcases h.2 with ⟨hv, hn⟩ | ⟨g, cap, _, hv, _, _, hc, _⟩
  · exact .inl ⟨hv, hn⟩
  · exact .inr ⟨g, cap, hv, hc⟩
theorem app_nothing {base e size n : Nat} {v : Value} {xs : List Value} {i : TypeInfo} (t ty : TypeId) (hown : w.ownsRow base e size v n xs) (ht : P.underlying t = some (.slice e)) (hi : P.info? e = some i) (c : Nat) :
    (Builtin.append_ #[t, t] ty #[v, .slice none 0 c]).run P w = .ok v w := by
  rcases own_shape hown with ⟨rfl, _⟩ | ⟨g, cap, rfl, hc⟩ <;>
    simp [Builtin.append_, Builtin.lenOf, Builtin.firstCells, typeInfo, sizeOf, storeCells, run_underlying ht, *]
theorem Rd.src {w : World} {B size m : Nat} {v2 : Value} {news : List Value} (h : Rd w B v2 size m news) :
    (∃ c, v2 = .slice none 0 c ∧ m = 0 ∧ news = []) ∨ ∃ ad c, v2 = .slice (some ad) m c ∧ ∀ j u, news[j]? = some u → w.cell? (ad.add j) = some u := by
  obtain ⟨A, cap, rfl, hl, _, _, hs⟩ := h
  have hnil : m = 0 → news = [] := by rintro rfl; exact List.eq_nil_of_length_eq_zero (by omega)
  match A, hs with
  | none, .inl h0 => exact .inl ⟨cap, by rw [h0], h0, hnil h0⟩
  | none, .inr ⟨_, _, h0, _⟩ => cases h0
  | some ad, .inl h0 => exact .inr ⟨ad, cap, rfl, fun j u hu => by rw [hnil h0] at hu; simp at hu⟩
  | some _, .inr ⟨b, off, rfl, _, hc⟩ => exact .inr ⟨_, cap, rfl, fun j u hu => by rw [Addr.add_lit]; exact hc j u hu⟩
theorem run_appR (base : Nat) (t ty e : TypeId) (z : Value) (size bytes : Nat) (ht : P.underlying t = some (.slice e)) (hi : (P.info? e).map (fun i => (i.zero, i.size, i.bytes)) = some (some z, size, bytes))
    (hzs : z.cells.size = size) (hsz : 0 < size)
    {v v2 : Value} {n m : Nat} {xs news : List Value} {B : Nat} (hown : w.ownsRow base e size v n xs) (hr : Rd w B v2 size m news) (h1 : ∀ u ∈ news, u.oneCell' = true)
    (h63 : n + m ≤ maxLen) (hbytes : (n + m) * bytes ≤ 140737488355328) (hbase : base ≤ w.heap.size) :
    ∃ v' w', (Builtin.append_ #[t, t] ty #[v, v2]).run P w = .ok v' w' ∧ w'.ownsRow base e size v' (n + m) (xs ++ news) ∧ w.grownBy w' v.ownBlock ∧ (v'.ownBlock = v.ownBlock ∨ v'.ownBlock = some w.heap.size) := by
  obtain ⟨i, hi0, hz, hs1, hs2⟩ := info_parts hi
  rcases hr.src with ⟨c, rfl, rfl, rfl⟩ | ⟨ad, c, rfl, hcell⟩
  · refine ⟨v, w, app_nothing w t ty hown ht hi0 c, ?_, World.grownBy.refl w _, .inl rfl⟩
    rw [Nat.add_zero, List.append_nil]; exact hown
  · obtain ⟨v', w', hrun, ho, hg, _, hb⟩ := run_append_own_at (P := P) w base t ty e i z size bytes ht hi0 hz hs1 hs2 hzs hsz v n xs hown ad m c news hr.len hcell h1 h63 hbytes hbase
    exact ⟨v', w', hrun, ho, hg, hb⟩
theorem wp_appR {o : Oper} {a : Act} {K : Act → World → Prop} {Q : Exit → Act → World → Prop} (s x : Operand) (t e : TypeId)
    (ho : o.op = .call { callee := .builtin .append, args := #[s, x], argTypes := #[t, t] })
    (z : Value) (size bytes : Nat) (ht : P.underlying t = some (.slice e)) (hi : (P.info? e).map (fun i => (i.zero, i.size, i.bytes)) = some (some z, size, bytes))
    (hzs : z.cells.size = size) (hsz : 0 < size) (base : Nat)
    {v v2 : Value} {n m : Nat} {xs news : List Value} {B : Nat} (hs : a.eval s = v) (hx : a.eval x = v2) (hown : w.ownsRow base e size v n xs) (hr : Rd w B v2 size m news) (h1 : ∀ u ∈ news, u.oneCell' = true)
    (h63 : n + m ≤ maxLen) (hbytes : (n + m) * bytes ≤ 140737488355328) (hbase : base ≤ w.heap.size)
    (h : ∀ v' w', w'.ownsRow base e size v' (n + m) (xs ++ news) → w.grownBy w' v.ownBlock → (v'.ownBlock = v.ownBlock ∨ v'.ownBlock = some w.heap.size) → K (a.put o.dst v') w') : o.wp P a w K Q := by
  obtain ⟨v', w', hrun, r1, r2, r3⟩ := run_appR (P := P) w base t o.type e z size bytes ht hi hzs hsz hown hr h1 h63 hbytes hbase
  subst hs hx
  unfold Oper.wp
  simp [execOp, ho, resolve, invoke, builtin, hrun, Result.andThen]
  exact h v' w' r1 r2 r3
theorem wpList_appR {ops : Array Oper} {rest : List Oper} {o : Oper} {a : Act} {Q : Exit → Act → World → Prop} (hgd : o.guard = none) (s x : Operand) (t e : TypeId)
    (ho : o.op = .call { callee := .builtin .append, args := #[s, x], argTypes := #[t, t] })
    (z : Value) (size bytes : Nat) (ht : P.underlying t = some (.slice e)) (hi : (P.info? e).map (fun i => (i.zero, i.size, i.bytes)) = some (some z, size, bytes))
    (hzs : z.cells.size = size) (hsz : 0 < size) (base : Nat)
    {v v2 : Value} {n m : Nat} {xs news : List Value} {B : Nat} (hs : a.eval s = v) (hx : a.eval x = v2) (hown : w.ownsRow base e size v n xs) (hr : Rd w B v2 size m news) (h1 : ∀ u ∈ news, u.oneCell' = true)
    (h63 : n + m ≤ maxLen) (hbytes : (n + m) * bytes ≤ 140737488355328) (hbase : base ≤ w.heap.size)
    (h : ∀ v' w', w'.ownsRow base e size v' (n + m) (xs ++ news) → w.grownBy w' v.ownBlock → (v'.ownBlock = v.ownBlock ∨ v'.ownBlock = some w.heap.size) → wpList P ops Q rest (a.put o.dst v') w') :
    wpList P ops Q (o :: rest) a w :=
  wpList_plain hgd fun _ hK => wp_appR w s x t e ho z size bytes ht hi hzs hsz base hs hx hown hr h1 h63 hbytes hbase fun v' w' r1 r2 r3 => hK _ _ (h v' w' r1 r2 r3)
theorem step_appR {ops : Array Oper} {o : Oper} {a : Act} {K : Act → World → Prop} {Q : Exit → Act → World → Prop} {E : Prop} (hgd : o.guard = none) (s x : Operand) (t e : TypeId)
    (ho : o.op = .call { callee := .builtin .append, args := #[s, x], argTypes := #[t, t] })
    (z : Value) (size bytes : Nat) (ht : P.underlying t = some (.slice e)) (hi : (P.info? e).map (fun i => (i.zero, i.size, i.bytes)) = some (some z, size, bytes))
    (hzs : z.cells.size = size) (hsz : 0 < size) (base : Nat)
    {v v2 : Value} {n m : Nat} {xs news : List Value} {B : Nat} (hs : a.eval s = v) (hx : a.eval x = v2) (hown : w.ownsRow base e size v n xs) (hr : Rd w B v2 size m news) (h1 : ∀ u ∈ news, u.oneCell' = true)
    (h63 : n + m ≤ maxLen) (hbytes : (n + m) * bytes ≤ 140737488355328) (hbase : base ≤ w.heap.size)
    (h : ∀ v' w', w'.ownsRow base e size v' (n + m) (xs ++ news) → w.grownBy w' v.ownBlock → (v'.ownBlock = v.ownBlock ∨ v'.ownBlock = some w.heap.size) → K (a.put o.dst v') w') :
    if Region.wanted o (yielded ops a.tmps) = true then Oper.wp P o a w K Q else E := by
  rw [if_pos (by unfold Region.wanted; rw [hgd])]
  exact wp_appR w s x t e ho z size bytes ht hi hzs hsz base hs hx hown hr h1 h63 hbytes hbase h
end
end Go.Proofs.YtjajcecenflejaaGreat
namespace Go.Proofs.YtjajcecenflejaaGreat
open Go.RowKit
def Wr (w : World) (B : Nat) (O : Nat → Prop) (g : Nat) (l : List UInt8) (d : Int) (lo wr : Bool) : Prop :=
  ∃ v, Bk w g 105 #[v, .int .i64 d, .bool lo, .bool wr] ∧ Ow w 5 B v l ∧ B ≤ g ∧ v.ownBlock ≠ some g ∧ ∀ k, O k ↔ k = g ∨ v.ownBlock = some k
def WrT (B : Nat) (O : Nat → Prop) (g : Nat) (w : World) (l : List UInt8) (d : Int) (lo wr : Bool) (ok : Prop) (en : List UInt8) (ub : Nat) (e : Ending) (w' : World) : Prop :=
  e = .returned (.tuple #[]) ∧ ∃ O', Fr O O' w w' ∧ ∃ l' lo' wr', Wr w' B O' g l' d lo' wr' ∧ l'.length ≤ l.length + ub ∧ Hid (lo' = false → wr' = false → lo = false ∧ wr = false ∧ ok ∧ l' = l ++ en)
def WinT (B : Nat) (O : Nat → Prop) (g : Nat) (w : World) (l : List UInt8) (d : Int) (lo wr : Bool) (x most : Int) (e : Ending) (w' : World) : Prop :=
  e = .returned (.tuple #[]) ∧ Fr O O w w' ∧ ∃ lo' wr', Wr w' B O g l d lo' wr' ∧ Hid (lo' = false → lo = false ∧ ¬ most < x) ∧ Hid (wr' = false → wr = false ∧ ¬ x < 0)
def AbsT (B : Nat) (O : Nat → Prop) (g : Nat) (w : World) (l : List UInt8) (d : Int) (lo wr : Bool) (x : Int) (e : Ending) (w' : World) : Prop :=
  e = .returned (.tuple #[]) ∧ Fr O O w w' ∧ ∃ lo' wr', Wr w' B O g l d lo' wr' ∧ Hid (lo' = false → wr' = false → lo = false ∧ wr = false ∧ x = 0)
def limW : Nat := 900000000
section
variable {w w' : World} {B g : Nat} {O : Nat → Prop} {l : List UInt8} {d : Int} {lo wr : Bool}
theorem Wr.lt (h : Wr w B O g l d lo wr) : g < w.heap.size := by obtain ⟨v, h1, _⟩ := h; exact h1.lt
theorem Wr.le (h : Wr w B O g l d lo wr) : B ≤ g := by obtain ⟨v, _, _, h1, _⟩ := h; exact h1
theorem Wr.base (h : Wr w B O g l d lo wr) : B ≤ w.heap.size := by have := h.lt; have := h.le; omega
theorem Wr.own (h : Wr w B O g l d lo wr) : ∀ k, O k → k < w.heap.size ∧ B ≤ k := by
  obtain ⟨v, h1, h2, h3, h4, h5⟩ := h
  intro k hk
  rcases (h5 k).1 hk with rfl | e
  · exact ⟨h1.lt, h3⟩
  · exact ⟨(h2.lt k e).2, (h2.lt k e).1⟩
theorem Wr.all (h : Wr w B O g l d lo wr) (hb : Below w.heap.size w w') : Wr w' B O g l d lo wr := by
  obtain ⟨v, h1, h2, h3, h4⟩ := h
  exact ⟨v, h1.all hb, h2.all hb, h3, h4⟩
theorem Wr.alloc (h : Wr w B O g l d lo wr) (o : Obj) : Wr (w.alloc o) B O g l d lo wr := h.all ((Below.refl _ _).alloc (Nat.le_refl _) _)
theorem ow_set {w : World} {e : TypeId} {B g i : Nat} {v u : Value} {l : List UInt8} (h : Ow w e B v l) (hn : v.ownBlock ≠ some g) : Ow (w.setCell ⟨g, i, none⟩ u) e B v l :=
  Ow.kept h (row := some g) ⟨rfl, rfl, rfl, by simp [World.setCell], fun k _ hne => Below.heap_setCell w _ u k (by intro e; exact hne (by rw [e]))⟩ (.inr hn)
end
theorem Below.undrew {w w' : World} {B : Nat} (h : Below B w.drew w') : Below B w w' := ⟨h.os, h.tape, h.output, h.size, h.block⟩
set_option maxRecDepth 100000 in
set_option maxHeartbeats 400000 in
theorem within_any (x most : Int) (w : World) (B : Nat) (O : Nat → Prop) (g : Nat) (l : List UInt8) (d : Int) (lo wr : Bool) (h : Wr w B O g l d lo wr) :
    Calls Tryz.prog 51 #[.pointer (some ⟨g, 0, none⟩), .int .i64 x, .int .i64 most] (w) (WinT B O g w l d lo wr x most) := by
  have hO := fun k hk => (h.own k hk).1
  obtain ⟨v, hb, ho, hB, hne, hiff⟩ := h
  have hOg : O g := (hiff g).2 (.inl rfl)
  have c2 := hb.cell 2
  have c3 := hb.cell 3
  simp at c2 c3
  have z2 := hb.frozen 2
  have z3 := hb.frozen 3
  have hfin : ∀ a b : Bool, Fr O O w ((w.setCell ⟨g, 2, none⟩ (.bool a)).setCell ⟨g, 3, none⟩ (.bool b)) ∧ Wr ((w.setCell ⟨g, 2, none⟩ (.bool a)).setCell ⟨g, 3, none⟩ (.bool b)) B O g l d a b := fun a b =>
    ⟨((Fr.refl hO).set (p := ⟨g, 2, none⟩) (.inl hOg) _).set (p := ⟨g, 3, none⟩) (.inl hOg) _, v, by simpa using (hb.set 2 (.bool a)).set 3 (.bool b), ow_set (ow_set ho hne) hne, hB, hne, hiff⟩
  have HF := Lib.hid hfin
  clear hfin hb ho
  go_enter Tryz.func51, Tryz.ntmps51
  cases lo <;> cases wr <;> by_cases h1 : most < x <;> by_cases h2 : x < 0
  all_goals
    go_wp2
    go_end0
    refine ⟨rfl, (HF.out _ _).1, _, _, (HF.out _ _).2, fun a => ?_, fun a => ?_⟩
    · first
        | exact ⟨rfl, by omega⟩
        | cases a
    · first
        | exact ⟨rfl, by omega⟩
        | cases a
set_option maxRecDepth 100000 in
set_option maxHeartbeats 400000 in
theorem absent_any (x most : Int) (w : World) (B : Nat) (O : Nat → Prop) (g : Nat) (l : List UInt8) (d : Int) (lo wr : Bool) (h : Wr w B O g l d lo wr) :
    Calls Tryz.prog 99 #[.pointer (some ⟨g, 0, none⟩), .int .i64 x, .int .i64 most] (w) (AbsT B O g w l d lo wr x) := by
  go_enter Tryz.func99, Tryz.ntmps99
  go_wp2_with fail
  refine (within_any x most w B O g l d lo wr h).mono ?_
  rintro e w1 ⟨rfl, hb1, l1, r1, h1, hl1, hr1⟩
  have h1' := h1
  obtain ⟨v, hb, ho, hB, hne, hiff⟩ := h1
  have hOg : O g := (hiff g).2 (.inl rfl)
  have c3 := hb.cell 3
  simp at c3
  have z3 := hb.frozen 3
  have hfin : ∀ b : Bool, Fr O O w (w1.setCell ⟨g, 3, none⟩ (.bool b)) ∧ Wr (w1.setCell ⟨g, 3, none⟩ (.bool b)) B O g l d l1 b := fun b =>
    ⟨hb1.set (p := ⟨g, 3, none⟩) (.inl hOg) _, v, by simpa using (hb.set 3 (.bool b)), ow_set ho hne, hB, hne, hiff⟩
  have HF := Lib.hid hfin
  clear hfin hb ho
  by_cases h0 : x = 0
  · have h2 : (x != 0) = false := by simp [h0]
    have H0 := Lib.hid h0
    clear h0
    cases r1
    all_goals
      go_wp2
      go_end0
      refine ⟨rfl, (HF.out _).1, _, _, (HF.out _).2, fun a b => ?_⟩
      first
        | exact ⟨(hl1.out a).1, (hr1.out (by first | rfl | trivial)).1, H0.out⟩
        | cases b
  · have h2 : (x != 0) = true := by simp [h0]
    have H0 := Lib.hid h0
    clear h0
    cases r1
    all_goals
      go_wp2
      go_end0
      exact ⟨rfl, (HF.out _).1, _, _, (HF.out _).2, fun a b => by cases b⟩
theorem wr_store {w w2 w4 : World} {B g : Nat} {O : Nat → Prop} {l m : List UInt8} {d : Int} {lo wr : Bool} {v v' : Value} (hb : Fr O O w w2) (hB : B ≤ g) (hk : Bk w2 g 105 #[v, .int .i64 d, .bool lo, .bool wr]) (hne : v.ownBlock ≠ some g)
    (hiff : ∀ k, O k ↔ k = g ∨ v.ownBlock = some k) (ho4 : w4.ownsRow B 5 1 v' (l.length + m.length) (cellsB l ++ cellsB m)) (hg4 : w2.grownBy w4 v.ownBlock) (hat : v'.ownBlock = v.ownBlock ∨ v'.ownBlock = some w2.heap.size) :
    ∃ O', Fr O O' w (w4.setCell ⟨g, 0, none⟩ v') ∧ Wr (w4.setCell ⟨g, 0, none⟩ v') B O' g (l ++ m) d lo wr := by
  have hk4 := hk.grown hg4 fun e => hne e.symm
  have hne' : v'.ownBlock ≠ some g := by
    have := hk.lt
    rcases hat with h | h
    · rw [h]; exact hne
    · rw [h]; intro e; simp at e; omega
  have hOg : O g := (hiff g).2 (.inl rfl)
  have hsz : (w4.setCell ⟨g, 0, none⟩ v').heap.size = w4.heap.size := by simp [World.setCell]
  refine ⟨fun k => k = g ∨ v'.ownBlock = some k, ((hb.grown hg4 fun k e => .inl ((hiff k).2 (.inr e))).set (p := ⟨g, 0, none⟩) (.inl hOg) _).owns fun i hi => ?_, v', by simpa using hk4.set 0 v', ow_set ?_ hne', hB, hne', fun _ => Iff.rfl⟩
  · rw [hsz]
    rcases hi with rfl | hi
    · exact ⟨hk4.lt, .inl hOg⟩
    · refine ⟨(World.ownsRow.lt ho4 i hi).2, ?_⟩
      rcases hat with h | h
      · exact .inl ((hiff i).2 (.inr (h ▸ hi)))
      · right
        rw [h] at hi
        have := hb.size
        simp at hi; omega
  · unfold Ow
    rw [cellsB_app, List.length_append]
    exact ho4
theorem u64w (x : Int) : ∃ n : Nat, IntKind.u64.wrap x = (n : Int) ∧ U64 n ∧ (0 ≤ x → x < 18446744073709551616 → n = x.toNat) := by
  have h1 : IntKind.u64.wrap x = x % 18446744073709551616 := rfl
  refine ⟨(x % 18446744073709551616).toNat, by rw [h1]; omega, by unfold U64; omega, fun a b => by omega⟩
set_option maxRecDepth 100000 in
set_option maxHeartbeats 400000 in
theorem wnum_any (x : Int) (w : World) (B : Nat) (O : Nat → Prop) (g : Nat) (l : List UInt8) (d : Int) (lo wr : Bool) (h : Wr w B O g l d lo wr) (hl : l.length + 10 ≤ limW) :
    Calls Tryz.prog 75 #[.pointer (some ⟨g, 0, none⟩), .int .i64 x] w (WrT B O g w l d lo wr (okI x) (eI x) 10) := by
  go_enter Tryz.func75, Tryz.ntmps75
  go_wp2_with fail
  refine (within_any x 1048576 w B O g l d lo wr h).mono ?_
  rintro e w1 ⟨rfl, hb1, l1, r1, h1, hl1, hr1⟩
  obtain ⟨v, hb, ho, hB, hne, hiff⟩ := h1
  obtain ⟨n, hn, hu, hx⟩ := u64w x
  have hx := Lib.hid hx
  have HC := Lib.hid fun W => number_any (.slice none 0 0) [] 0 n hu W (Bs.nil W 0) (by simp)
  obtain ⟨A, cap, rfl⟩ := ho.form
  have c0 := hb.cell 0
  simp at c0
  have z0 := hb.frozen 0
  have hlw : (Lib.uvarint n).length ≤ 10 := szN_le hu
  unfold limW at hl
  have hBs : B ≤ w1.heap.size := Nat.le_of_lt (Nat.lt_of_le_of_lt hB hb.lt)
  go_wp2_with fail
  go_region_law (first
    | (go_simp; (try go_at_call 97); refine (HC.out _).mono ?_; rintro e w2 ⟨v2, rfl, ho2, hb2⟩; have hb2 : Below w1.heap.size w1 w2 := Below.undrew hb2; have d0 := (hb2.cell (p := ⟨g, 0, none⟩) hb.lt).trans c0; have hb3 := Lib.hid (hb1.below hb2); have HO := Lib.hid (ho.all hb2); have HB := Lib.hid (hb.all hb2); have HR := Lib.hid (Rd.own ho2); have hz2 : B ≤ w2.heap.size := Nat.le_trans hBs hb2.size; clear ho2 hb2)
    | (refine step_appR _ (by rfl) (.tmp 11) (.tmp 14) 36 5 (by rfl) _ 1 1 Tryz.underlying36 infoB (by rfl) (by decide) B (by rfl) (by rfl) HO.out HR.out (cellsB_one _) (by simp only [List.nil_append]; unfold maxLen; omega) (by simp only [List.nil_append]; omega) hz2 ?_; intro v' w4 ho4 hg4 hat; obtain ⟨A4, cap4, rfl⟩ := own_form ho4; have HB4 := Lib.hid (HB.out.grown hg4 (fun e => hne e.symm)); have d4 := HB4.out.frozen 0; have e4 := HB4.out.cell 0; simp at e4; have HO4 := Lib.hid ho4; have HG4 := Lib.hid hg4; have HAT := Lib.hid hat; clear ho4 hg4 hat)
    | fail)
  all_goals
    have hfin := Lib.hid (wr_store hb3.out hB HB.out hne hiff HO4.out HG4.out HAT.out)
    clear c0 d0 d4 e4 HB4
    go_wp2
    go_end0
    obtain ⟨O', f1, f2⟩ := hfin.out
    refine ⟨rfl, O', f1, _, _, _, f2, by simp; omega, fun a b => ?_⟩
    obtain ⟨a1, a2⟩ := hl1.out a
    obtain ⟨b1, b2⟩ := hr1.out b
    refine ⟨a1, b1, ⟨by omega, by omega⟩, ?_⟩
    unfold eI
    rw [hx.out (by omega) (by omega)]; rfl
end Go.Proofs.YtjajcecenflejaaGreat
namespace Go.Proofs.YtjajcecenflejaaGreat
open Go.RowKit
theorem WrT.mono {B : Nat} {O : Nat → Prop} {g : Nat} {w : World} {l : List UInt8} {d : Int} {lo wr : Bool} {ok ok' : Prop} {en en' : List UInt8} {ub ub' : Nat} {e : Ending} {w' : World} (h : WrT B O g w l d lo wr ok en ub e w') (h1 : ok → ok') (h2 : ok → en = en') (h3 : ub ≤ ub') : WrT B O g w l d lo wr ok' en' ub' e w' := by
  obtain ⟨a, O', b, l', lo', wr', c, f, k⟩ := h
  refine ⟨a, O', b, l', lo', wr', c, by omega, fun x y => ?_⟩
  obtain ⟨k1, k2, k3, k4⟩ := k.out x y
  exact ⟨k1, k2, h1 k3, by rw [k4, h2 k3]⟩
theorem WrT.seq {B : Nat} {O O1 : Nat → Prop} {g : Nat} {w w1 : World} {l l1 : List UInt8} {d : Int} {lo wr lo1 wr1 : Bool} {ok1 ok2 : Prop} {en1 en2 : List UInt8} {u1 u2 : Nat} (hb : Fr O O1 w w1) (hl : l1.length ≤ l.length + u1) (hk : Hid (lo1 = false → wr1 = false → lo = false ∧ wr = false ∧ ok1 ∧ l1 = l ++ en1))
    {e : Ending} {w' : World} (h : WrT B O1 g w1 l1 d lo1 wr1 ok2 en2 u2 e w') : WrT B O g w l d lo wr (ok1 ∧ ok2) (en1 ++ en2) (u1 + u2) e w' := by
  obtain ⟨a, O', b, l', lo', wr', c, f, k⟩ := h
  refine ⟨a, O', hb.trans b, l', lo', wr', c, by omega, fun x y => ?_⟩
  obtain ⟨k1, k2, k3, k4⟩ := k.out x y
  obtain ⟨j1, j2, j3, j4⟩ := hk.out k1 k2
  exact ⟨j1, j2, ⟨j3, k3⟩, by rw [k4, j4, List.append_assoc]⟩
theorem WrT.from {B : Nat} {O O1 : Nat → Prop} {g : Nat} {w w1 : World} {l : List UInt8} {d : Int} {lo wr : Bool} {ok : Prop} {en : List UInt8} {ub : Nat} (hb : Fr O O1 w w1) {e : Ending} {w' : World} (h : WrT B O1 g w1 l d lo wr ok en ub e w') : WrT B O g w l d lo wr ok en ub e w' := by
  obtain ⟨a, O', b, r⟩ := h
  exact ⟨a, O', hb.trans b, r⟩
set_option maxRecDepth 100000 in
set_option maxHeartbeats 400000 in
theorem wtext_any (s : ByteArray) (w : World) (B : Nat) (O : Nat → Prop) (g : Nat) (l : List UInt8) (d : Int) (lo wr : Bool) (h : Wr w B O g l d lo wr) (hl : l.length + uS s ≤ limW) :
    Calls Tryz.prog 52 #[.pointer (some ⟨g, 0, none⟩), .string s] w (WrT B O g w l d lo wr (okS s) (eS s) (uS s)) := by
  unfold uS limW at hl
  have hsz : s.data.toList.length = s.size := by rw [Array.length_toList]; rfl
  by_cases hs : s.size ≤ 1048576
  · have HC := Lib.hid (piece_any (.slice none 0 0) [] 0 s w (Bs.nil w 0) (by simp) hs)
    have hlw : (Lib.uvarint s.size).length ≤ 10 := szN_le (by unfold U64; omega)
    go_enter Tryz.func52, Tryz.ntmps52
    go_wp2_with fail
    refine HC.out.mono ?_
    rintro e w1 ⟨v1, rfl, ho1, hb1⟩
    have h1 := h.all hb1
    have hBs := h.base
    have hz2 : B ≤ w1.heap.size := Nat.le_trans hBs hb1.size
    have hb1' := Lib.hid (Below.fr hb1 fun k hk => (h.own k hk).1)
    obtain ⟨v, hb, ho, hB, hne, hiff⟩ := h1
    have hOg : O g := (hiff g).2 (.inl rfl)
    have c0 := hb.cell 0
    have c2 := hb.cell 2
    simp at c0 c2
    have z0 := hb.frozen 0
    have z2 := hb.frozen 2
    have hgw := h.lt
    have hne1 : v1.ownBlock ≠ some g := fun e => by have := (ho1.lt _ e).1; omega
    obtain ⟨w2, hw2⟩ : ∃ w2, Hid (w2 = w1.setCell ⟨g, 2, none⟩ (.bool lo)) := ⟨_, Lib.hid rfl⟩
    have HB : Hid (Bk w2 g 105 #[v, .int .i64 d, .bool lo, .bool wr]) := by show Bk _ _ _ _; rw [hw2.out]; simpa using hb.set 2 (.bool lo)
    have HO : Hid (Ow w2 5 B v l) := by show Ow _ _ _ _ _; rw [hw2.out]; exact ow_set ho hne
    have HR : Hid (Rd w2 w2.heap.size v1 1 ([] ++ Lib.uvarint s.size ++ s.data.toList).length (cellsB ([] ++ Lib.uvarint s.size ++ s.data.toList))) := by
      show Rd _ _ _ _ _ _; rw [hw2.out]; exact Rd.own (ow_set ho1 hne1)
    have HW : Hid (Fr O O w w2) := by show Fr _ _ _ _; rw [hw2.out]; exact hb1'.out.set (p := ⟨g, 2, none⟩) (.inl hOg) _
    have d0 : w2.cell? ⟨g, 0, none⟩ = some v := by have := HB.out.cell 0; simpa using this
    have hz3 : B ≤ w2.heap.size := Nat.le_trans hBs HW.out.size
    have HS := Lib.hid hs
    clear HC h hb ho ho1 hb1 hs hz2 hb1'
    cases lo
    all_goals
      go_wp2_with (at_builtin; rw [← hw2.out]; refine wpList_appR _ rfl _ _ 36 5 rfl _ 1 1 Tryz.underlying36 infoB rfl (by decide) B rfl rfl HO.out HR.out (cellsB_one _) ?_ ?_ hz3 ?_)
      · simp only [List.nil_append, List.length_append]; unfold maxLen; omega
      · simp only [List.nil_append, List.length_append]; omega
      intro v' w4 ho4 hg4 hat
      obtain ⟨A4, cap4, rfl⟩ := own_form ho4
      have HB4 := Lib.hid (HB.out.grown hg4 (fun e => hne e.symm))
      have d4 := HB4.out.frozen 0
      have e4 := HB4.out.cell 0
      simp at e4
      have hfin := Lib.hid (wr_store (l := l) (m := Lib.uvarint s.size ++ s.data.toList) HW.out hB HB.out hne hiff (by first | exact ho4 | simpa using ho4 | simpa [hsz] using ho4) hg4 hat)
      clear ho4 hg4 hat
      go_wp2
      go_end0
      obtain ⟨O', f1, f2⟩ := hfin.out
      refine ⟨rfl, O', f1, _, _, _, f2, by simp only [List.length_append]; unfold uS; omega, fun a b => ?_⟩
      first
        | exact ⟨rfl, b, HS.out, by unfold eS; rfl⟩
        | cases a
  · have HC := Lib.hid (piece_long (.slice none 0 0) s w (by omega))
    have hO := fun k hk => (h.own k hk).1
    obtain ⟨v, hb, ho, hB, hne, hiff⟩ := h
    have hOg : O g := (hiff g).2 (.inl rfl)
    have c0 := hb.cell 0
    have c2 := hb.cell 2
    simp at c0 c2
    have z0 := hb.frozen 0
    have z2 := hb.frozen 2
    obtain ⟨w2, hw2⟩ : ∃ w2, Hid (w2 = w.setCell ⟨g, 2, none⟩ (.bool true)) := ⟨_, Lib.hid rfl⟩
    have HB : Hid (Bk w2 g 105 #[v, .int .i64 d, .bool true, .bool wr]) := by show Bk _ _ _ _; rw [hw2.out]; simpa using hb.set 2 (.bool true)
    have HO : Hid (Ow w2 5 B v l) := by show Ow _ _ _ _ _; rw [hw2.out]; exact ow_set ho hne
    have HW : Hid (Fr O O w w2) := by show Fr _ _ _ _; rw [hw2.out]; exact (Fr.refl hO).set (p := ⟨g, 2, none⟩) (.inl hOg) _
    have d0 : w2.cell? ⟨g, 0, none⟩ = some v := by have := HB.out.cell 0; simpa using this
    have hz3 : B ≤ w2.heap.size := Nat.le_of_lt (Nat.lt_of_le_of_lt hB HB.out.lt)
    clear hb ho hs
    go_enter Tryz.func52, Tryz.ntmps52
    go_wp2_with fail
    refine HC.out.mono ?_
    rintro e w1 ⟨rfl, rfl⟩
    cases lo
    all_goals
      go_wp2_with (at_builtin; rw [← hw2.out]; refine wpList_appR _ rfl _ _ 36 5 rfl _ 1 1 Tryz.underlying36 infoB rfl (by decide) B rfl rfl HO.out (Rd.nil w2 B 1) (by simp) ?_ ?_ hz3 ?_)
      · unfold maxLen; omega
      · omega
      intro v' w4 ho4 hg4 hat
      obtain ⟨A4, cap4, rfl⟩ := own_form ho4
      have HB4 := Lib.hid (HB.out.grown hg4 (fun e => hne e.symm))
      have d4 := HB4.out.frozen 0
      have e4 := HB4.out.cell 0
      simp at e4
      have hfin := Lib.hid (wr_store (l := l) (m := []) HW.out hB HB.out hne hiff (by first | exact ho4 | simpa using ho4 | simpa [cellsB] using ho4) hg4 hat)
      clear ho4 hg4 hat
      go_wp2
      go_end0
      obtain ⟨O', f1, f2⟩ := hfin.out
      refine ⟨rfl, O', f1, _, _, _, f2, by simp, fun a b => ?_⟩
      cases a
set_option maxRecDepth 100000 in
set_option maxHeartbeats 400000 in
theorem wtruth_any (x : Bool) (w : World) (B : Nat) (O : Nat → Prop) (g : Nat) (l : List UInt8) (d : Int) (lo wr : Bool) (h : Wr w B O g l d lo wr) (hl : l.length + 10 ≤ limW) :
    Calls Tryz.prog 90 #[.pointer (some ⟨g, 0, none⟩), .bool x] w (WrT B O g w l d lo wr True (eB x) 10) := by
  go_enter Tryz.func90, Tryz.ntmps90
  cases x
  · go_wp2_with fail
    refine (wnum_any 0 w B O g l d lo wr h hl).mono ?_
    intro e w1 hr
    obtain ⟨rfl, hr'⟩ := hr
    go_wp2
    go_end0
    exact WrT.mono (e := .returned (.tuple #[])) ⟨rfl, hr'⟩ (fun _ => trivial) (fun _ => rfl) (Nat.le_refl _)
  · go_wp2_with fail
    refine (wnum_any 1 w B O g l d lo wr h hl).mono ?_
    intro e w1 hr
    obtain ⟨rfl, hr'⟩ := hr
    go_wp2
    go_end0
    exact WrT.mono (e := .returned (.tuple #[])) ⟨rfl, hr'⟩ (fun _ => trivial) (fun _ => rfl) (Nat.le_refl _)
end Go.Proofs.YtjajcecenflejaaGreat
