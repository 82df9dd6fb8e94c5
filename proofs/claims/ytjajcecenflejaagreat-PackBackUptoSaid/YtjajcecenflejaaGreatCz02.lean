/- YtjajcecenflejaaGreatCz02 -/
import Derived.WalkKit
import Derived.WalkSpells
import Derived.Lib.Varint
import Derived.Lib.AppendStr
import Derived.Maps.AppendAt
import Derived.Deep.Draws
import Derived.Laws.BytesArg
import Derived.Test.YtjajcecenflejaaGreatRows
import Derived.WalkLawsBesides
import Derived.Lib.Hide
import Derived.Deep.DeepFit
import Derived.Deep.QuietTactic
import Derived.BigQuiet
namespace Go.Proofs.YtjajcecenflejaaGreat
open Go.RowKit
def cellsB (l : List UInt8) : List Value := l.map fun b => Value.int .u8 (b.toNat : Int)
theorem cellsB_len (l : List UInt8) : (cellsB l).length = l.length := by simp [cellsB]
theorem cellsB_app (l m : List UInt8) : cellsB (l ++ m) = cellsB l ++ cellsB m := by simp [cellsB]
theorem cellsB_one (l : List UInt8) : ∀ u ∈ cellsB l, u.oneCell' = true := by
  intro u hu; simp only [cellsB, List.mem_map] at hu; obtain ⟨b, _, rfl⟩ := hu; rfl
theorem cellsB_get (l : List UInt8) (j : Nat) (hj : j < l.length) : (cellsB l)[j]? = some (.int .u8 ((l.getD j 0).toNat : Int)) := by
  simp [cellsB, hj, List.getD]
def Bs (w : World) (b : Nat) (v : Value) (l : List UInt8) : Prop :=
  ∃ A cap, v = .slice A l.length cap ∧ l.length ≤ cap ∧ cap ≤ maxLen ∧
    (l = [] ∨ ∃ off, A = some ⟨b, off, none⟩ ∧ b < w.heap.size ∧ ∀ j u, (cellsB l)[j]? = some u → w.cell? ⟨b, off + j, none⟩ = some u)
def Ow (w : World) (e : TypeId) (base : Nat) (v : Value) (l : List UInt8) : Prop := w.ownsRow base e 1 v l.length (cellsB l)
theorem Bs.keep {w w' : World} {b : Nat} {v : Value} {l : List UInt8} (h : Bs w b v l) (hs : w.heap.size ≤ w'.heap.size) (hk : b < w.heap.size → w'.heap[b]? = w.heap[b]?) : Bs w' b v l := by
  obtain ⟨A, cap, rfl, h1, h2, h3⟩ := h
  refine ⟨A, cap, rfl, h1, h2, ?_⟩
  rcases h3 with h3 | ⟨off, hA, hb, hc⟩
  · exact .inl h3
  · exact .inr ⟨off, hA, by omega, fun j u hu => (World.cell?_of_block (w := w) (a := ⟨b, off + j, none⟩) (hk hb)).trans (hc j u hu)⟩
theorem Bs.below {w w' : World} {B b : Nat} {v : Value} {l : List UInt8} (h : Bs w b v l) (hb : Below B w w') (hl : b < w.heap.size → b < B) : Bs w' b v l :=
  h.keep hb.size fun hs => hb.block b (hl hs)
theorem Bs.all {w w' : World} {b : Nat} {v : Value} {l : List UInt8} (h : Bs w b v l) (hb : Below w.heap.size w w') : Bs w' b v l := h.below hb fun h => h
theorem Bs.alloc {w : World} {b : Nat} {v : Value} {l : List UInt8} (h : Bs w b v l) (o : Obj) : Bs (w.alloc o) b v l :=
  h.all ((Below.refl _ _).alloc (Nat.le_refl _) _)
theorem Bs.drew {w : World} {b : Nat} {v : Value} {l : List UInt8} (h : Bs w b v l) : Bs w.drew b v l := h
theorem Bs.drewN {w : World} {b : Nat} {v : Value} {l : List UInt8} (h : Bs w b v l) (n : Nat) : Bs (w.drewN n) b v l := h
theorem Bs.grown {w w' : World} {b : Nat} {v : Value} {l : List UInt8} {row : Option Nat} (h : Bs w b v l) (hg : w.grownBy w' row) (hr : some b ≠ row ∨ l = []) : Bs w' b v l := by
  rcases hr with hr | rfl
  · exact h.keep hg.size fun hs => hg.block b hs hr
  · obtain ⟨A, cap, rfl, h1, h2, _⟩ := h
    exact ⟨A, cap, rfl, h1, h2, .inl rfl⟩
theorem Bs.empty {w : World} {b : Nat} {v : Value} (h : Bs w b v []) (b' : Nat) : Bs w b' v [] := by
  obtain ⟨A, cap, rfl, h1, h2, _⟩ := h
  exact ⟨A, cap, rfl, h1, h2, .inl rfl⟩
theorem Bs.lt {w : World} {b : Nat} {v : Value} {l : List UInt8} (h : Bs w b v l) : l = [] ∨ b < w.heap.size := by
  obtain ⟨A, cap, rfl, h1, h2, h3⟩ := h
  rcases h3 with h3 | ⟨_, _, h3, _⟩
  · exact .inl h3
  · exact .inr h3
theorem Bs.nil (w : World) (b : Nat) : Bs w b (.slice none 0 0) [] := ⟨none, 0, rfl, Nat.le_refl _, by unfold maxLen; omega, .inl rfl⟩
theorem Ow.bs {w : World} {e : TypeId} {base : Nat} {v : Value} {l : List UInt8} (h : Ow w e base v l) : ∃ b, Bs w b v l ∧ base ≤ b ∧ (v.ownBlock = none ∨ v.ownBlock = some b) := by
  have h0 := h
  rcases h.2 with ⟨rfl, hn⟩ | ⟨g, cap, cur, rfl, hb, hg, h1, h2, h3, h4⟩
  · have : l = [] := List.eq_nil_of_length_eq_zero hn
    subst this
    exact ⟨base, Bs.nil w _, Nat.le_refl _, .inl rfl⟩
  · refine ⟨g, ⟨_, cap, rfl, h1, h2, .inr ⟨0, rfl, (Array.getElem?_eq_some_iff.1 hg).1, fun j u hu => ?_⟩⟩, hb, .inr rfl⟩
    have := World.ownsRow.cells h0 (g := g) rfl j u hu
    rw [Addr.add_lit] at this
    exact this
theorem Ow.nil (w : World) (e : TypeId) (base : Nat) : Ow w e base (.slice none 0 0) [] := World.ownsRow_nil w base e 1
theorem Ow.alloc {w : World} {e : TypeId} {base : Nat} {v : Value} {l : List UInt8} (h : Ow w e base v l) (o : Obj) : Ow (w.alloc o) e base v l := World.ownsRow.alloc h o
theorem Ow.kept {w w' : World} {e : TypeId} {base : Nat} {v : Value} {l : List UInt8} {row : Option Nat} (h : Ow w e base v l) (hg : w.grownBy w' row) (hne : v.ownBlock = none ∨ v.ownBlock ≠ row) : Ow w' e base v l := World.ownsRow.kept h hg hne
theorem Ow.all {w w' : World} {e : TypeId} {base : Nat} {v : Value} {l : List UInt8} (h : Ow w e base v l) (hb : Below w.heap.size w w') : Ow w' e base v l :=
  World.ownsRow.kept h (row := none) ⟨hb.os, hb.tape, hb.output, hb.size, fun k hk _ => hb.block k hk⟩ (by cases v.ownBlock <;> simp)
theorem Ow.mono {w : World} {e : TypeId} {base base' : Nat} {v : Value} {l : List UInt8} (h : Ow w e base v l) (hb : base' ≤ base) : Ow w e base' v l := by
  refine ⟨h.1, ?_⟩
  rcases h.2 with h2 | ⟨g, cap, cur, hv, hg, r⟩
  · exact .inl h2
  · exact .inr ⟨g, cap, cur, hv, by omega, r⟩
theorem Ow.lt {w : World} {e : TypeId} {base : Nat} {v : Value} {l : List UInt8} (h : Ow w e base v l) : ∀ k, v.ownBlock = some k → base ≤ k ∧ k < w.heap.size := World.ownsRow.lt h
theorem Ow.form {w : World} {e : TypeId} {base : Nat} {v : Value} {l : List UInt8} (h : Ow w e base v l) : ∃ A cap, v = .slice A l.length cap := by
  rcases h.2 with ⟨rfl, hn⟩ | ⟨g, cap, cur, rfl, _⟩
  · exact ⟨none, 0, by rw [hn]⟩
  · exact ⟨_, cap, rfl⟩
def Bk (w : World) (g : Nat) (t : TypeId) (cs : Array Value) : Prop := w.heap[g]? = some (.cells cs t (0, 0))
theorem Bk.lt {w : World} {g : Nat} {t : TypeId} {cs : Array Value} (h : Bk w g t cs) : g < w.heap.size := (Array.getElem?_eq_some_iff.1 h).1
theorem Bk.cell {w : World} {g : Nat} {t : TypeId} {cs : Array Value} (h : Bk w g t cs) (i : Nat) : w.cell? ⟨g, i, none⟩ = cs[i]? := cell_of_row w g i cs t (0, 0) h
theorem Bk.frozen {w : World} {g : Nat} {t : TypeId} {cs : Array Value} (h : Bk w g t cs) (i : Nat) : w.frozen? ⟨g, i, none⟩ = false := by
  unfold Bk at h; simp [World.frozen?, h]
theorem Bk.new (w : World) (t : TypeId) (cs : Array Value) : Bk (w.alloc (.cells cs t)) w.heap.size t cs := heap_alloc_new w _
theorem Bk.alloc {w : World} {g : Nat} {t : TypeId} {cs : Array Value} (h : Bk w g t cs) (o : Obj) : Bk (w.alloc o) g t cs := (Below.heap_alloc w o g h.lt).trans h
theorem Bk.drew {w : World} {g : Nat} {t : TypeId} {cs : Array Value} (h : Bk w g t cs) : Bk w.drew g t cs := h
theorem Bk.drewN {w : World} {g : Nat} {t : TypeId} {cs : Array Value} (h : Bk w g t cs) (n : Nat) : Bk (w.drewN n) g t cs := h
theorem Bk.set {w : World} {g : Nat} {t : TypeId} {cs : Array Value} (h : Bk w g t cs) (i : Nat) (u : Value) : Bk (w.setCell ⟨g, i, none⟩ u) g t (cs.setIfInBounds i u) := by
  unfold Bk at h ⊢
  simp [World.setCell, Array.getElem?_modify, h]
theorem Bk.far {w : World} {g : Nat} {t : TypeId} {cs : Array Value} (h : Bk w g t cs) {p : Addr} (hp : g ≠ p.block) (u : Value) : Bk (w.setCell p u) g t cs := (Below.heap_setCell w p u g hp).trans h
theorem Bk.below {w w' : World} {B g : Nat} {t : TypeId} {cs : Array Value} (h : Bk w g t cs) (hb : Below B w w') (hg : g < B) : Bk w' g t cs := (hb.block g hg).trans h
theorem Bk.all {w w' : World} {g : Nat} {t : TypeId} {cs : Array Value} (h : Bk w g t cs) (hb : Below w.heap.size w w') : Bk w' g t cs := (hb.block g h.lt).trans h
theorem Bk.grown {w w' : World} {g : Nat} {t : TypeId} {cs : Array Value} {row : Option Nat} (h : Bk w g t cs) (hb : w.grownBy w' row) (hg : some g ≠ row) : Bk w' g t cs := (hb.block g h.lt hg).trans h
def Makes (e : TypeId) (w : World) (l : List UInt8) (x : Ending) (w' : World) : Prop := ∃ v, x = .returned v ∧ Ow w' e w.heap.size v l ∧ Below w.heap.size w w'
theorem Ow.lit (w : World) (e : TypeId) (base : Nat) (l : List UInt8) (cs : Array Value) (n : Nat) (hb : base ≤ w.heap.size) (hn : n = l.length) (hm : n ≤ 1000000000000) (hc : cs.toList = cellsB l) :
    Ow (w.alloc (.cells cs e)) e base (.slice (some ⟨w.heap.size, 0, none⟩) n n) l := by
  subst hn
  have h := World.ownsRow_lit (base := base) (e := e) (size := 1) w cs l.length hb (by unfold maxLen; omega) (by rw [← Array.length_toList, hc, cellsB_len]; omega)
  rw [hc] at h
  exact h
theorem Bs.lit (w : World) (e : TypeId) (l : List UInt8) (cs : Array Value) (n : Nat) (hn : n = l.length) (hm : n ≤ 1000000000000) (hc : cs.toList = cellsB l) :
    Bs (w.alloc (.cells cs e)) w.heap.size (.slice (some ⟨w.heap.size, 0, none⟩) n n) l := by
  subst hn
  refine ⟨_, _, rfl, Nat.le_refl _, by unfold maxLen; omega, .inr ⟨0, rfl, by simp, fun j u hu => ?_⟩⟩
  rw [World.cell?_alloc_at _ _ _ _ rfl, ← Array.getElem?_toList, hc, Nat.zero_add]
  exact hu
theorem Bs.lit1 (w : World) (e : TypeId) (n : Int) (c : UInt8) (h : n = (c.toNat : Int)) : Bs (w.alloc (.cells #[.int .u8 n] e)) w.heap.size (.slice (some ⟨w.heap.size, 0, none⟩) 1 1) [c] :=
  Bs.lit w e [c] _ 1 rfl (by omega) (by simp [cellsB, h])
theorem Bs.cut {w : World} {b : Nat} {A : Option Addr} {cap : Nat} {l : List UInt8} (h : Bs w b (.slice A l.length cap) l) (s n : Nat) (hsn : s + n ≤ l.length) :
    Bs w b (.slice (A.map (fun x => x.add s)) n (cap - s)) ((l.drop s).take n) := by
  obtain ⟨A', cap', hv, h1, h2, h3⟩ := h
  simp only [Value.slice.injEq, true_and] at hv
  obtain ⟨rfl, rfl⟩ := hv
  have hlen : ((l.drop s).take n).length = n := by simp; omega
  refine ⟨_, cap - s, by rw [hlen], by omega, by omega, ?_⟩
  by_cases hn : n = 0
  · subst hn; exact .inl (by simp)
  · rcases h3 with rfl | ⟨off, rfl, hb, hc⟩
    · simp at hsn; omega
    · refine .inr ⟨off + s, by simp [Addr.add_lit], hb, fun j u hu => ?_⟩
      have hj : j < n := by
        have := (List.getElem?_eq_some_iff.1 hu).1
        rw [cellsB_len, hlen] at this; exact this
      rw [Nat.add_assoc]
      apply hc
      rw [← hu]
      simp [cellsB, List.getElem?_drop, hj]
theorem Bs.short {w : World} {b : Nat} {A : Option Addr} {cap : Nat} {l : List UInt8} (h : Bs w b (.slice A l.length cap) l) (n : Nat) (hn : n ≤ l.length) :
    l.length ≤ cap ∧ Bs w b (.slice A n cap) (l.take n) := by
  obtain ⟨A', cap', hv, h1, h2, h3⟩ := h
  simp only [Value.slice.injEq, true_and] at hv
  obtain ⟨rfl, rfl⟩ := hv
  have hlen : (l.take n).length = n := by simp; omega
  refine ⟨h1, A, cap, by rw [hlen], by omega, h2, ?_⟩
  rcases h3 with rfl | ⟨off, rfl, hb, hc⟩
  · exact .inl (by simp)
  · refine .inr ⟨off, rfl, hb, fun j u hu => hc j u ?_⟩
    have hj : j < n := by
      have := (List.getElem?_eq_some_iff.1 hu).1
      rw [cellsB_len, hlen] at this; exact this
    rw [← hu]
    simp [cellsB, hj]
theorem Bs.cut0 {w : World} {b : Nat} {A : Option Addr} {cap : Nat} {l : List UInt8} (h : Bs w b (.slice A l.length cap) l) (s n : Nat) (hsn : s + n ≤ l.length) (hcs : cap = s) :
    Bs w b (.slice A n 0) ((l.drop s).take n) := by
  obtain ⟨A', cap', hv, h1, h2, h3⟩ := h
  simp only [Value.slice.injEq, true_and] at hv
  obtain ⟨rfl, rfl⟩ := hv
  have hn : n = 0 := by omega
  subst hn
  exact ⟨A, 0, by simp, by simp, by unfold maxLen; omega, .inl (by simp)⟩
section
variable {P : Program} (w : World) {ops : Array Oper} {rest : List Oper} {o : Oper} {a : Act} {Q : Exit → Act → World → Prop}
theorem run_app_none (base : Nat) (t ty e : TypeId) (i : TypeInfo) (size : Nat) (ht : P.underlying t = some (.slice e)) (hi : P.info? e = some i)
    (v : Value) (n : Nat) (xs : List Value) (hown : w.ownsRow base e size v n xs) (c : Nat) : (Builtin.append_ #[t, t] ty #[v, .slice none 0 c]).run P w = .ok v w := by
  rcases hown.2 with ⟨rfl, rfl⟩ | ⟨g, cap, cur, rfl, _, _, hnc, _⟩
  · simp [Builtin.append_, run_underlying ht, sizeOf, typeInfo, hi, Builtin.lenOf, Builtin.firstCells]
  · simp [Builtin.append_, run_underlying ht, sizeOf, typeInfo, hi, Builtin.lenOf, Builtin.firstCells, hnc, storeCells]
theorem wpList_app (hgd : o.guard = none) (s x : Operand) (t e : TypeId) (ho : o.op = .call { callee := .builtin .append, args := #[s, x], argTypes := #[t, t] })
    (ht : P.underlying t = some (.slice e)) (hi : (P.info? e).map (fun i => (i.zero, i.size, i.bytes)) = some (some (.int .u8 0), 1, 1))
    (base : Nat) {v v2 : Value} {l l2 : List UInt8} {b2 : Nat} (hs : a.eval s = v) (hx : a.eval x = v2) (hown : Ow w e base v l) (hr : Bs w b2 v2 l2)
    (hsum : l.length + l2.length ≤ 1000000000000) (hbase : base ≤ w.heap.size)
    (h : ∀ v' w', Ow w' e base v' (l ++ l2) → w.grownBy w' v.ownBlock → (v'.ownBlock = v.ownBlock ∨ v'.ownBlock = some w.heap.size) → wpList P ops Q rest (a.put o.dst v') w') :
    wpList P ops Q (o :: rest) a w := by
  obtain ⟨i, hi0, hz, h1, h2⟩ := info_parts hi
  obtain ⟨A, cap, rfl, hc, hm, hcells⟩ := hr
  have hl : (cellsB l2).length = l2.length * 1 := by rw [cellsB_len]; omega
  cases A with
  | none =>
    have hl2 : l2 = [] := by
      rcases hcells with h | ⟨_, h, _⟩
      · exact h
      · cases h
    subst hl2
    refine wpList_plain hgd fun K hK' => ?_
    have hrun := run_app_none (P := P) w base t o.type e i 1 ht hi0 v l.length (cellsB l) hown cap
    unfold Oper.wp
    simp [execOp, ho, resolve, invoke, builtin, hs, hx, hrun, Result.andThen]
    exact hK' _ _ (h v w (by simpa using hown) (World.grownBy.refl w _) (.inl rfl))
  | some ad =>
    have hcell : ∀ j u, (cellsB l2)[j]? = some u → w.cell? (ad.add j) = some u := by
      intro j u hu
      rcases hcells with rfl | ⟨off, hA, _, hc'⟩
      · simp [cellsB] at hu
      · cases hA
        rw [Addr.add_lit]
        exact hc' j u hu
    refine wpList_append_own_at w hgd s x t ho base e i (.int .u8 0) 1 1 ht hi0 hz h1 h2 rfl (by decide) v l.length (cellsB l) hs hown ad l2.length cap (cellsB l2) hx hl hcell (cellsB_one l2) (by unfold maxLen; omega) (by omega) hbase ?_
    intro v' w' ho' hg' _ hb'
    refine h v' w' ?_ hg' hb'
    unfold Ow
    rw [cellsB_app, List.length_append]
    exact ho'
theorem wpList_app_str (hgd : o.guard = none) (s x : Operand) (t u e : TypeId) (ho : o.op = .call { callee := .builtin .append, args := #[s, x], argTypes := #[t, u] })
    (ht : P.underlying t = some (.slice e)) (hu : P.underlying u = some .string) (hi : (P.info? e).map (fun i => (i.zero, i.size, i.bytes)) = some (some (.int .u8 0), 1, 1))
    (base : Nat) {v : Value} {l : List UInt8} {p : ByteArray} (hs : a.eval s = v) (hx : a.eval x = .string p) (hown : Ow w e base v l)
    (hsum : l.length + p.size ≤ 1000000000000) (hbase : base ≤ w.heap.size)
    (h : ∀ v' w', Ow w' e base v' (l ++ p.data.toList) → w.grownBy w' v.ownBlock → wpList P ops Q rest (a.put o.dst v') w') :
    wpList P ops Q (o :: rest) a w := by
  obtain ⟨i, hi0, hz, h1, h2⟩ := info_parts hi
  refine Lib.wpList_append_own_string w hgd s x t u ho base e i ht hu hi0 hz h1 h2 v l.length (cellsB l) hs hown p hx (by unfold maxLen; omega) (by omega) hbase ?_
  intro v' w' ho' hg' _
  refine h v' w' ?_ hg'
  unfold Ow
  have e1 : p.data.toList.length = p.size := by rw [Array.length_toList]; rfl
  rw [cellsB_app, List.length_append, e1]
  exact ho'
theorem run_str (src dst e : TypeId) (hs : P.underlying src = some (.slice e)) (he : P.underlying e = some (.int .u8)) (hd : P.underlying dst = some .string)
    {b : Nat} {v : Value} {l : List UInt8} (hv : Bs w b v l) : (convert src dst v).run P w = .ok (.string ⟨l.toArray⟩) w := by
  obtain ⟨A, cap, rfl, hc, hm, hcells⟩ := hv
  cases A with
  | none =>
    have hl2 : l = [] := by
      rcases hcells with h | ⟨_, h, _⟩
      · exact h
      · cases h
    subst hl2
    exact run_convert_bytes_nil w src e hs he _ cap dst hd
  | some ad =>
    by_cases hl : l = []
    · subst hl
      rw [run_convert_bytes_string w src dst e _ _ _ hs he hd, run_bytesToString w ad ([] : List UInt8).length cap [] (by simp [loadCells, loadCellsFrom])]
      rfl
    · rcases hcells with h | ⟨off, hA, _, hc'⟩
      · exact absurd h hl
      · cases hA
        rw [run_convert_bytes_arg (P := P) w src e hs he b off l.length cap (l.map fun c => (c.toNat : Int)) (by simp) (fun i hi => by
          have := hc' i _ (cellsB_get l i hi)
          rw [this]
          simp [List.getD, hi]) dst hd]
        congr 2
        unfold strOfNums
        congr 1
        rw [List.map_map]
        have e1 : ((fun n : Int => UInt8.ofNat n.toNat) ∘ fun c : UInt8 => (c.toNat : Int)) = id := by funext c; simp
        rw [e1, List.map_id]
end
end Go.Proofs.YtjajcecenflejaaGreat
namespace Go.Proofs.YtjajcecenflejaaGreat
open Go.RowKit
def szN (x : Nat) : Nat := (Lib.uvarint x).length
def U64 (x : Nat) : Prop := x < 18446744073709551616
theorem szN_le {x : Nat} (h : U64 x) : szN x ≤ 10 := Lib.uvarint_length64 h
theorem szN_pos (x : Nat) : 1 ≤ szN x := Lib.uvarint_pos x
theorem szN_small {x : Nat} (h : x < 128) : szN x = 1 := by simp [szN, Lib.uvarint_small h]
theorem szN_big {x : Nat} (h : 128 ≤ x) : szN x = szN (x / 128) + 1 := by simp [szN, Lib.uvarint_big h]
theorem U64.div {x : Nat} (h : U64 x) : U64 (x / 128) := by unfold U64 at *; omega
theorem ret_int {k : IntKind} {a b : Int} (h : a = b) : Ending.returned (.int k a) = .returned (.int k b) := by rw [h]
set_option maxRecDepth 100000 in
set_option maxHeartbeats 400000 in
theorem size_any (x : Nat) (hx : U64 x) (w : World) :
    Calls Tryz.prog 104 #[.int .u64 x] w fun e w' => e = .returned (.int .i64 (szN x)) ∧ w = w' := by
  have h10 := szN_le hx
  go_enter Tryz.func104, Tryz.ntmps104
  go_wp2
  go_loop [0, 3] (fun a n => ∃ y k : Nat, U64 y ∧ a = .int .u64 y ∧ n = .int .i64 k ∧ Hid (k + szN y = szN x + 1)) (fun a _ => (intOf a).toNat)
  case atStart => exact ⟨x, 1, hx, rfl, rfl, Nat.add_comm _ _⟩
  case round =>
    obtain ⟨y, k, hy, rfl, rfl, hk⟩ := hrel
    have hk1 : k ≤ 10 := by have := hk.out; have := szN_pos y; omega
    go_wp2
    · have h128 : 128 ≤ (y : Int) := by assumption
      go_round
      case rel => exact ⟨y / 128, k + 1, hy.div, by go_num, by go_num, by have := hk.out; have := szN_big (x := y) (by omega); unfold Hid; omega⟩
      case measure => simp [intOf]; omega
    · have h128 : (y : Int) < 128 := by assumption
      go_ret
      exact ⟨ret_int (by have := hk.out; have := szN_small (x := y) (by omega); omega), rfl⟩
theorem infoB : (Tryz.prog.info? 5).map (fun i => (i.zero, i.size, i.bytes)) = some (some (.int .u8 0), 1, 1) := by kernel_rfl
set_option maxRecDepth 100000 in
set_option maxHeartbeats 400000 in
theorem number_any (v : Value) (l : List UInt8) (b : Nat) (x : Nat) (hx : U64 x) (w : World) (hv : Bs w b v l) (hl : l.length ≤ 1000000000) :
    Calls Tryz.prog 97 #[v, .int .u64 x] w (Makes 5 w (l ++ Lib.uvarint x)) := by
  have h10 := szN_le hx
  obtain ⟨i0, hi, hz0, hz1, hz2⟩ := info_parts infoB
  have hv' := hv
  obtain ⟨A, cap, rfl, hc, hm, hcells⟩ := hv
  go_enter Tryz.func97, Tryz.ntmps97
  go_wp2_with fail
  refine (size_any x hx w).mono ?_
  rintro e w' ⟨rfl, rfl⟩
  go_wp2_with (at_make; refine wpList_make_own _ rfl _ _ 36 rfl w.heap.size 5 i0 (.int .u8 0) 1 Tryz.underlying36 hi hz0 hz1 _ _ _ (l.length + szN x) rfl rfl ?_ ?_ ?_ ?_ ?_)
  · omega
  · rw [hz2]; omega
  · unfold maxLen; omega
  · exact Nat.le_refl _
  intro w1 hown hgrow
  go_wp2_with (at_builtin; refine wpList_app w1 rfl _ _ _ _ rfl Tryz.underlying36 infoB w.heap.size rfl rfl (l := []) hown (hv'.grown hgrow (.inl (by simp))) ?_ hgrow.size ?_)
  · simp; omega
  intro v2 w2 hown2 hgrow2 _
  have hb2 : Below w.heap.size w w2 := ((Below.refl _ _).grown hgrow (Nat.le_refl _) (by simp)).grown hgrow2 hgrow.size (fun k hk => (Ow.lt (l := []) hown k hk).1)
  clear hgrow2 hgrow hown hv' hcells hc

  go_wp2_with fail
  go_loopw [1, 5] (fun y v wr => ∃ (n : Nat) (m : List UInt8), U64 n ∧ y = .int .u64 n ∧ m.length ≤ 10 ∧ Ow wr 5 w.heap.size v (l ++ m) ∧ Below w.heap.size w wr ∧ Hid (m ++ Lib.uvarint n = Lib.uvarint x)) (fun y _ _ => (intOf y).toNat)
  case atStart => exact ⟨x, [], hx, rfl, by simp, by rw [List.append_nil]; exact hown2, hb2, rfl⟩
  case round =>
    obtain ⟨n, m, hn, rfl, hm10, ho, hb, hk⟩ := hrel
    have hwb := hb.size
    by_cases h128 : 128 ≤ n
    · obtain ⟨c, hc⟩ : ∃ c : UInt8, Hid (c = (n % 128 + 128).toUInt8) := ⟨_, rfl⟩
      obtain ⟨m', hm'⟩ : ∃ m' : List UInt8, Hid (m' = m ++ [c]) := ⟨_, rfl⟩
      have hcs : Hid (bits BinOp.or IntKind.u8 ((n : Int) % 256) 128 = (c.toNat : Int)) := by
        show _ = _
        rw [Lib.u8_or128_any _ (by omega) (by omega), hc.out]
        simp [Nat.toUInt8]; omega
      go_wp2_with (at_builtin; refine wpList_app _ rfl _ _ _ _ rfl Tryz.underlying36 infoB w.heap.size rfl rfl (ho.alloc _) (Bs.lit1 _ _ _ c hcs.out) ?_ ?_ ?_)
      · simp; omega
      · simp; omega
      intro v3 w3 ho3 hg3 _
      have hb3 : Below w.heap.size w w3 := (hb.alloc hwb _).grown hg3 (by simp; omega) (fun k hk => (ho.lt k hk).1)
      have ho4 : Ow w3 5 w.heap.size v3 (l ++ m') := by rw [hm'.out]; exact ho3
      have hk' : Hid (m' ++ Lib.uvarint (n / 128) = Lib.uvarint x) := by
        show _ = _
        rw [hm'.out, ← hk.out, Lib.uvarint_big h128, hc.out]
        simp
      have hl' : m'.length ≤ 10 := by have := congrArg List.length hk'.out; simp [szN] at this h10; omega
      clear ho3 hg3 hk hcs hb ho hm' hc
      go_wp2
      go_roundw
      case rel => exact ⟨n / 128, m', hn.div, by go_num, hl', ho4, hb3, hk'⟩
      case measure => simp [intOf]; omega
    · obtain ⟨c, hc⟩ : ∃ c : UInt8, Hid (c = n.toUInt8) := ⟨_, rfl⟩
      have hcs : Hid ((n : Int) = (c.toNat : Int)) := by show _ = _; rw [hc.out]; simp [Nat.toUInt8]; omega
      go_wp2_with (at_builtin; refine wpList_app _ rfl _ _ _ _ rfl Tryz.underlying36 infoB w.heap.size rfl rfl (ho.alloc _) (Bs.lit1 _ _ _ c hcs.out) ?_ ?_ ?_)
      · simp; omega
      · simp; omega
      intro v3 w3 ho3 hg3 _
      have hb3 : Below w.heap.size w w3 := (hb.alloc hwb _).grown hg3 (by simp; omega) (fun k hk => (ho.lt k hk).1)
      have ho4 : Ow w3 5 w.heap.size v3 (l ++ Lib.uvarint x) := by
        rw [← hk.out, Lib.uvarint_small (by omega), ← hc.out]; exact ho3
      clear ho3 hg3 hk hcs hb ho hc
      go_wp2
      go_ret
      exact ⟨_, rfl, ho4, hb3⟩
set_option maxRecDepth 100000 in
set_option maxHeartbeats 400000 in

theorem own_any (v : Value) (l : List UInt8) (b : Nat) (w : World) (hv : Bs w b v l) (hl : l.length ≤ 1000000000) :
    Calls Tryz.prog 10 #[v] w (Makes 5 w l) := by
  go_enter Tryz.func10, Tryz.ntmps10
  have hown : Ow (w.alloc (.cells #[] 5)) 5 w.heap.size (.slice (some ⟨w.heap.size, 0, none⟩) 0 0) [] := Ow.lit w _ _ [] #[] 0 (Nat.le_refl _) rfl (by omega) rfl
  go_wp2_with (at_builtin; refine wpList_app _ rfl _ _ _ _ rfl Tryz.underlying36 infoB w.heap.size rfl rfl hown (hv.alloc _) ?_ ?_ ?_)
  · simp; omega
  · simp
  intro v3 w3 ho3 hg3 _
  have hb3 : Below w.heap.size w w3 := ((Below.refl _ w).alloc (Nat.le_refl _) _).grown hg3 (by simp) (fun k hk => (hown.lt k hk).1)
  clear hg3 hown
  go_wp2
  go_ret
  exact ⟨_, rfl, ho3, hb3⟩
def MakesE (e : TypeId) (w : World) (l : List UInt8) (n : Int) (x : Ending) (w' : World) : Prop :=
  ∃ v, x = .returned (.tuple #[v, .int .i64 n]) ∧ Ow w' e w.heap.size v l ∧ Below w.heap.size w w'
set_option maxRecDepth 100000 in
set_option maxHeartbeats 400000 in
theorem piece_any (v : Value) (l : List UInt8) (b : Nat) (p : ByteArray) (w : World) (hv : Bs w b v l) (hl : l.length ≤ 900000000) (hp : p.size ≤ 1048576) :
    Calls Tryz.prog 86 #[v, .string p] w (MakesE 5 w (l ++ Lib.uvarint p.size ++ p.data.toList) 0) := by
  have hx : U64 p.size := by unfold U64; omega
  have h10 : (Lib.uvarint p.size).length ≤ 10 := szN_le hx
  go_enter Tryz.func86, Tryz.ntmps86
  go_wp2_with fail
  refine (number_any v l b p.size hx w hv (by omega)).mono ?_
  rintro e w' ⟨v', rfl, ho, hb⟩
  go_wp2_with (at_builtin; refine wpList_app_str _ rfl _ _ _ _ _ rfl Tryz.underlying36 Tryz.underlying9 infoB w.heap.size rfl rfl ho ?_ ?_ ?_)
  · simp; omega
  · exact hb.size
  intro v3 w3 ho3 hg3
  have hb3 : Below w.heap.size w w3 := hb.grown hg3 hb.size (fun k hk => (ho.lt k hk).1)
  have ho4 : Ow w3 5 w.heap.size v3 (l ++ Lib.uvarint p.size ++ p.data.toList) := by first | exact ho3 | (rw [List.append_assoc]; exact ho3)
  clear hg3 ho hb ho3
  go_wp2
  go_ret2
  exact ⟨_, rfl, ho4, hb3⟩
set_option maxRecDepth 100000 in
set_option maxHeartbeats 400000 in
theorem piece_long (v : Value) (p : ByteArray) (w : World) (hp : 1048576 < p.size) :
    Calls Tryz.prog 86 #[v, .string p] w fun e w' => e = .returned (.tuple #[.slice none 0 0, .int .i64 3]) ∧ w = w' := by
  go_enter Tryz.func86, Tryz.ntmps86
  go_wp2_with fail
  go_ret2
  exact ⟨rfl, rfl⟩
end Go.Proofs.YtjajcecenflejaaGreat
