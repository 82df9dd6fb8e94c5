/- YtjajcecenflejaaGreatCz24 -/
import Derived.Test.YtjajcecenflejaaGreatRows
import Derived.Test.YtjajcecenflejaaGreatCz02
import Derived.ProofKit
import Derived.OpenShut
import Derived.SliceStrings
import Derived.Test.YtjajcecenflejaaGreatCz01
import Derived.Deep.Slices
import Derived.Deep.Fields
import Derived.SizedLaws
namespace Go.Proofs.YtjajcecenflejaaGreat
open Go.ChangeShapes Go.WideShapes Go.ChangeAt Go.RowKit
open Go.ChangeMaps (open_string shut_string)
theorem trodAll_stays {H : Type} {enc : TypeId × Value → H} {P : Program} (hl : laidOutB P = true) {W W' : World} (hb : Below W.heap.size W W') :
    ∀ (ts : List TypeId) (vs : List Value) (ds : List (DataW H)) (ps : List MemPlace), (∀ t ∈ ts, P.readableRec t = true ∧ t < P.types.size) → (∀ p ∈ ps, p.block < W.heap.size) →
      DataW.TrodAll enc P W 0 (fun _ => true) true ts vs ds ps → DataW.TrodAll enc P W' 0 (fun b => decide (b < W.heap.size)) true ts vs ds ps
  | [], vs, ds, ps, _, _, h => by
    obtain ⟨rfl, rfl, rfl⟩ := trodAll_nil h
    exact trodAll_mk0
  | t :: ts, vs, ds, ps, ht, hp, h => by
    obtain ⟨v, vs', d, ds', p, q, rfl, rfl, rfl, h0, h1⟩ := trodAll_cons h
    have hpt := ht t (by simp)
    exact trodAll_cons_mk (Below.trod hl hpt.1 hpt.2 h0 hb (fun x hx => hp x (by simp [hx])))
      (trodAll_stays hl hb ts vs' ds' q (fun t' h' => ht t' (by simp [h'])) (fun x hx => hp x (by simp [hx])) h1)
theorem law_post {H : Type} {enc : TypeId × Value → H} {P : Program} {f : Func} {s : ChangeSpec} {W W' : World} {args : Array Value} {ds gs : List (DataW H)} {before : List MemPlace} {tb : TypeId}
    (hW : DataW.Whole enc P f.params.toList s.vars false W args.toList ds gs before) (hl : laidOutB P = true) (hpar : ∀ t ∈ f.params.toList, P.readableRec t = true ∧ t < P.types.size)
    (hv : s.vars = []) (hfn : s.fn H (ds ++ gs) = { results := [.lit (.bool true)], args := ds }) (hr : f.resultTypes = #[tb]) (htb : P.underlying tb = some .bool) (hb : Below W.heap.size W W') :
    s.post enc P f false true false false W args (.bool true) W' := by
  have hW' := hW
  have hlt := hW.lt
  obtain ⟨p, q, hA, hV, rfl, hfz, hnd⟩ := hW
  rw [hv] at hV
  obtain ⟨rfl, rfl⟩ := trodVars_none hV
  refine ⟨ds, [], p ++ [], [], p, [], hW', ?_, ?_, ?_, World.keptBut_mono (fun x hx => ⟨hx, .inr (.inl (by simpa using hx))⟩) (hb.frame (· ∈ p ++ [])), fun h => by cases h⟩
  · rw [hfn, hr]
    exact trodAll_cons_mk (shut_bool htb true) trodAll_mk0
  · rw [hfn]
    exact trodAll_stays hl hb _ _ _ _ hpar (fun x hx => hlt x (by simp [hx])) hA
  · rw [hfn, hv]
    rfl
def Sl (w : World) (b : Nat) (v : Value) (cs : List Value) : Prop :=
  ∃ A cap, v = .slice A cs.length cap ∧ cs.length ≤ cap ∧ cap ≤ maxLen ∧
    (cs = [] ∨ ∃ off, A = some ⟨b, off, none⟩ ∧ b < w.heap.size ∧ ∀ j u, cs[j]? = some u → w.cell? ⟨b, off + j, none⟩ = some u)
theorem Sl.keep {w w' : World} {b : Nat} {v : Value} {l : List Value} (h : Sl w b v l) (hs : w.heap.size ≤ w'.heap.size) (hk : b < w.heap.size → w'.heap[b]? = w.heap[b]?) : Sl w' b v l := by
  obtain ⟨A, cap, rfl, h1, h2, h3⟩ := h
  refine ⟨A, cap, rfl, h1, h2, ?_⟩
  rcases h3 with h3 | ⟨off, hA, hb, hc⟩
  · exact .inl h3
  · exact .inr ⟨off, hA, by omega, fun j u hu => (World.cell?_of_block (w := w) (a := ⟨b, off + j, none⟩) (hk hb)).trans (hc j u hu)⟩
theorem Sl.all {w w' : World} {b : Nat} {v : Value} {l : List Value} (h : Sl w b v l) (hb : Below w.heap.size w w') : Sl w' b v l := h.keep hb.size fun hs => hb.block b hs
theorem Sl.bs {w : World} {b : Nat} {v : Value} {l : List UInt8} (h : Sl w b v (cellsB l)) : Bs w b v l := by
  obtain ⟨A, cap, hv, h1, h2, h3⟩ := h
  rw [cellsB_len] at hv h1
  exact ⟨A, cap, hv, h1, h2, h3.imp (by simp [cellsB]) id⟩
theorem Sl.of {w : World} {a : Addr} {cs : List Value} {len cap : Nat} (hlen : cs.length = len) (h1 : len ≤ cap) (h2 : cap ≤ maxLen) (hc : ∀ j u, cs[j]? = some u → w.cell? (a.add j) = some u) : ∃ b, Sl w b (.slice (some a) len cap) cs := by
  subst hlen
  obtain ⟨b, off, spot⟩ := a
  refine ⟨b, some ⟨b, off, spot⟩, cap, rfl, h1, h2, ?_⟩
  cases cs with
  | nil => exact .inl rfl
  | cons c r =>
    have h0 := hc 0 c rfl
    have hs : spot = none := by
      cases spot with
      | none => rfl
      | some x =>
        simp [World.cell?, Addr.add] at h0
        split at h0 <;> cases h0
    subst hs
    have hlt : b < w.heap.size := by
      have := World.block_lt_of_cell? w _ h0
      simpa [Addr.add] using this
    exact .inr ⟨off, rfl, hlt, fun j u hu => by have := hc j u hu; rwa [Addr.add_lit] at this⟩
section
variable {H : Type} {enc : TypeId × Value → H} {P : Program} {W : World} {base B : Nat} {sp : Nat → Bool} {hd : Bool} {t e : TypeId} {v : Value} {d : DataW H} {ps : List MemPlace} {r : Reach}
end
end Go.Proofs.YtjajcecenflejaaGreat
namespace Go.Proofs.YtjajcecenflejaaGreat
open Go.ChangeShapes Go.WideShapes Go.ChangeAt Go.RowKit Go.Deep
theorem addr_add_add (a : Addr) (i j : Nat) : (a.add i).add j = a.add (i + j) := by
  unfold Addr.add
  by_cases hi : i = 0 <;> by_cases hj : j = 0 <;> simp [hi, hj, Nat.add_assoc]
section
variable {H : Type} {enc : TypeId × Value → H} {P : Program} {W : World} {base B : Nat} {sp : Nat → Bool} {hd : Bool} {t e : TypeId} {v : Value} {d : DataW H} {ps : List MemPlace} {r : Reach}
theorem list_of {T : Type} {Q : Nat → T → Prop} : ∀ (n : Nat), (∀ i, i < n → ∃ x, Q i x) → ∃ l : List T, l.length = n ∧ ∀ i (hi : i < l.length), Q i l[i]
  | 0, _ => ⟨[], rfl, fun i hi => by simp at hi⟩
  | n + 1, h => by
    obtain ⟨l, hl, hq⟩ := list_of n fun i hi => h i (by omega)
    obtain ⟨x, hx⟩ := h n (by omega)
    refine ⟨l ++ [x], by simp [hl], fun i hi => ?_⟩
    rw [List.length_append] at hi
    simp at hi
    by_cases hlt : i < l.length
    · rw [List.getElem_append_left hlt]; exact hq i hlt
    · have e1 : i = l.length := by omega
      subst e1
      rw [List.getElem_append_right (Nat.le_refl _)]
      simpa [hl] using hx
theorem flat_get {T : Type} (c : T → List Value) (sz : Nat) : ∀ (l : List T), (∀ x ∈ l, (c x).length = sz) → (l.flatMap c).length = l.length * sz ∧ ∀ k (hk : k < l.length) j, j < sz → (l.flatMap c)[k * sz + j]? = (c l[k])[j]?
  | [], _ => ⟨by simp, fun k hk => by simp at hk⟩
  | x :: l, h => by
    obtain ⟨h1, h2⟩ := flat_get c sz l fun y hy => h y (by simp [hy])
    have h0 := h x (by simp)
    refine ⟨by simp only [List.flatMap_cons, List.length_append, h1, h0, List.length_cons]; rw [Nat.add_mul]; omega, fun k hk j hj => ?_⟩
    cases k with
    | zero =>
      simp only [List.flatMap_cons, Nat.zero_mul, Nat.zero_add, List.getElem_cons_zero]
      rw [List.getElem?_append_left (by omega)]
    | succ k =>
      simp only [List.flatMap_cons, List.getElem_cons_succ]
      rw [List.getElem?_append_right (by rw [h0, Nat.add_mul]; omega), h0, show (k + 1) * sz + j - sz = k * sz + j by rw [Nat.add_mul]; omega]
      exact h2 k (by simpa using hk) j hj
end
end Go.Proofs.YtjajcecenflejaaGreat
namespace Go.Proofs.YtjajcecenflejaaGreat
open Go.ChangeShapes Go.WideShapes Go.ChangeAt Go.RowKit Go.Deep
section
variable {H : Type} {enc : TypeId × Value → H} {P : Program} {W : World} {base B : Nat} {sp : Nat → Bool} {hd : Bool} {t e : TypeId} {v : Value} {d : DataW H} {ps : List MemPlace} {r : Reach}
end
end Go.Proofs.YtjajcecenflejaaGreat
namespace Go.Proofs.YtjajcecenflejaaGreat
open Go.ChangeShapes Go.WideShapes Go.ChangeAt Go.RowKit Go.Deep
inductive FineD : Dt → Prop
  | s (s : ByteArray) (h : s.size ≤ reachBytes) : FineD (.v (.string s))
  | i (k : IntKind) (n : Int) (h : (Lit.int k n).wf = true) : FineD (.v (.int k n))
  | b (b : Bool) : FineD (.v (.bool b))
  | l (sz n : Nat) (cs : List Dt) (h : n ≤ reachBytes) (hk : ∀ d ∈ cs, FineD d) : FineD (.l sz n cs)
def fineL (cs : List Dt) : Prop := ∀ d ∈ cs, FineD d
theorem FineD.size {s : ByteArray} (h : FineD (.v (.string s))) : s.size ≤ reachBytes := by cases h; assumption
theorem FineD.wf {k : IntKind} {n : Int} (h : FineD (.v (.int k n))) : (Lit.int k n).wf = true := by cases h; assumption
theorem FineD.len {T : Type} [Cl T] {l : List T} (h : FineD (lD l)) : l.length ≤ reachBytes := by cases h; assumption
theorem FineD.mem {T : Type} [Cl T] {l : List T} (h : FineD (lD l)) {y : T} (hy : y ∈ l) : fineL (Cl.c y) := by
  cases h with
  | l _ _ _ _ hk => exact fun d hd => hk d (List.mem_flatMap.2 ⟨y, hy, hd⟩)
theorem FineD.of {T : Type} [Cl T] {l : List T} (h : l.length ≤ reachBytes) (hk : ∀ y ∈ l, fineL (Cl.c y)) : FineD (lD l) :=
  .l _ _ _ h fun d hd => by obtain ⟨y, hy, hd⟩ := List.mem_flatMap.1 hd; exact hk y hy d hd
def Tls (W : World) : List Value → List Dt → Prop
  | [], [] => True
  | c :: cs, d :: ds => (Lies W (fun _ => True) c d ∧ FineD d) ∧ Tls W cs ds
  | _, _ => False
theorem Tls.len {W : World} : ∀ {cs : List Value} {ds : List Dt}, Tls W cs ds → cs.length = ds.length
  | [], [], _ => rfl
  | _ :: _, _ :: _, h => by simp [h.2.len]
  | [], _ :: _, h => h.elim
  | _ :: _, [], h => h.elim
theorem Tls.get {W : World} : ∀ {cs : List Value} {ds : List Dt}, Tls W cs ds → ∀ (i : Nat) (c : Value) (d : Dt), cs[i]? = some c → ds[i]? = some d → Lies W (fun _ => True) c d ∧ FineD d
  | [], [], _, i, c, d, h, _ => by simp at h
  | c0 :: cs, d0 :: ds, h, 0, c, d, h1, h2 => by simp at h1 h2; subst h1 h2; exact h.1
  | c0 :: cs, d0 :: ds, h, i + 1, c, d, h1, h2 => h.2.get i c d (by simpa using h1) (by simpa using h2)
  | [], _ :: _, h, _, _, _, _, _ => h.elim
  | _ :: _, [], h, _, _, _, _, _ => h.elim
theorem Tls.app {W : World} : ∀ {cs es : List Value} {ds fs : List Dt}, Tls W cs ds → Tls W es fs → Tls W (cs ++ es) (ds ++ fs)
  | [], _, [], _, _, k => k
  | _ :: _, _, _ :: _, _, h, k => ⟨h.1, h.2.app k⟩
  | [], _, _ :: _, _, h, _ => h.elim
  | _ :: _, _, [], _, h, _ => h.elim
theorem Tls.fine {W : World} : ∀ {cs : List Value} {ds : List Dt}, Tls W cs ds → fineL ds
  | [], [], _, d, hd => by simp at hd
  | _ :: _, _ :: _, h, d, hd => (List.mem_cons.1 hd).elim (fun e => e ▸ h.1.2) fun hd => h.2.fine d hd
  | [], _ :: _, h, _, _ => h.elim
  | _ :: _, [], h, _, _ => h.elim
theorem Tls.flat {W : World} {T : Type} [Cl T] : ∀ (l : List (List Value × T)), (∀ x ∈ l, Tls W x.1 (Cl.c x.2)) → Tls W (l.flatMap (·.1)) (cD (l.map (·.2)))
  | [], _ => trivial
  | x :: l, h => by
    have := Tls.flat l fun y hy => h y (by simp [hy])
    simp only [List.flatMap_cons, List.map_cons, cD]
    exact (h x (by simp)).app this
section
variable {H : Type} {enc : TypeId × Value → H} {P : Program} {W : World} {base : Nat} {sp : Nat → Bool} {hd : Bool} {t e : TypeId}
theorem field2_at {fs : Array Field} {ts : List (TypeId × Nat)} (h : fs.toList.map (fun f => (f.type, f.offset)) = ts) {j : Nat} {t : TypeId} {o : Nat} (ht : ts[j]? = some (t, o)) : ∃ f : Field, fs[j]? = some f ∧ f.type = t ∧ f.offset = o := by
  rw [← h, List.getElem?_map, Array.getElem?_toList] at ht
  obtain ⟨f, h1, h2⟩ := Option.map_eq_some_iff.1 ht
  simp only [Prod.mk.injEq] at h2
  exact ⟨f, h1, h2.1, h2.2⟩
end
end Go.Proofs.YtjajcecenflejaaGreat
namespace Go.Proofs.YtjajcecenflejaaGreat
open Go.ChangeShapes Go.WideShapes Go.ChangeAt Go.RowKit Go.Deep
mutual

def dbk : Dt → Nat
  | .v (.string s) => s.size + 1
  | .v _ => 1
  | .l _ _ cs => dbkL cs + 1
def dbkL : List Dt → Nat
  | [] => 0
  | d :: r => dbk d + dbkL r
end
theorem dbkL_app : ∀ (a b : List Dt), dbkL (a ++ b) = dbkL a + dbkL b
  | [], b => by simp [dbkL]
  | d :: a, b => by simp only [List.cons_append, dbkL, dbkL_app a b]; omega
theorem dbkL_cD {T : Type} [Cl T] : ∀ (l : List T), dbkL (cD l) = (l.map fun y => dbkL (Cl.c y)).sum
  | [] => rfl
  | y :: l => by
    have e : cD (y :: l) = Cl.c y ++ cD l := by simp [cD]
    rw [e, dbkL_app, dbkL_cD l]; simp
theorem bulk_one {H : Type} (d : DataW H) : 1 ≤ Rows.uptoBulk d := by
  cases d with
  | lit l => cases l <;> simp [Rows.uptoBulk]
  | nil => simp [Rows.uptoBulk]
  | ptr d => simp [Rows.uptoBulk]
  | slice elems spare => simp [Rows.uptoBulk]
  | agg parts => simp [Rows.uptoBulk]
  | iface t d => simp [Rows.uptoBulk]
  | map entries => simp [Rows.uptoBulk]
  | held h => simp [Rows.uptoBulk]
theorem bulk_sum {H : Type} : ∀ (l : List (DataW H)), Rows.uptoBulkAll l = (l.map Rows.uptoBulk).sum
  | [] => by simp [Rows.uptoBulkAll]
  | d :: l => by rw [Rows.uptoBulkAll, bulk_sum l]; simp
theorem sum_part {l : List Nat} {i : Nat} {b : Nat} (h : l[i]? = some b) : b ≤ l.sum := by
  induction l generalizing i with
  | nil => simp at h
  | cons x r ih =>
    rw [List.sum_cons]
    cases i with
    | zero => simp at h; omega
    | succ i => have := ih (by simpa using h); omega
theorem sum_le {A B : Type} (f : A → Nat) (g : B → Nat) : ∀ (l : List A) (m : List B), l.length ≤ m.length → (∀ i (h : i < l.length) (h' : i < m.length), f l[i] ≤ g m[i]) → (l.map f).sum ≤ (m.map g).sum
  | [], m, _, _ => by simp
  | a :: l, [], h, _ => by simp at h
  | a :: l, b :: m, h, hh => by
    simp only [List.map_cons, List.sum_cons]
    have h0 := hh 0 (by simp) (by simp)
    have := sum_le f g l m (by simpa using h) fun i h1 h2 => by
      have h3 := hh (i + 1) (by rw [List.length_cons]; omega) (by rw [List.length_cons]; omega)
      rw [List.getElem_cons_succ, List.getElem_cons_succ] at h3
      exact h3
    simp at h0; omega
theorem sum_len : ∀ (l : List Nat), (∀ b ∈ l, 1 ≤ b) → l.length ≤ l.sum
  | [], _ => by simp
  | b :: l, h => by
    have := h b (by simp)
    have := sum_len l fun c hc => h c (by simp [hc])
    simp; omega
theorem sum_ge : ∀ (bs cs : List Nat), (∀ (j : Nat) (c : Nat), cs[j]? = some c → bs[j]? = some c) → cs.sum ≤ bs.sum
  | _, [], _ => by simp
  | [], c :: cs, h => by have := h 0 c rfl; simp at this
  | b :: bs, c :: cs, h => by
    have h0 := h 0 c rfl
    simp at h0
    have := sum_ge bs cs fun j x hx => by simpa using h (j + 1) x (by simpa using hx)
    simp only [List.sum_cons]; omega
section
variable {H : Type} {enc : TypeId × Value → H} {P : Program} {W : World} {base : Nat} {sp : Nat → Bool} {hd : Bool} {t e : TypeId}
def Rdu (enc : TypeId × Value → H) (P : Program) (W : World) (base : Nat) (sp : Nat → Bool) (hd : Bool) (n : Nat) (t : TypeId) (E : List Value → Nat → Prop) : Prop :=
  ∀ fuel, fuel ≤ n → ∀ (cs : List Value) (x : DataW H × List MemPlace), DataW.trod enc P W base sp hd fuel t cs = some x → Rows.uptoBulk x.1 ≤ 1048576 → E cs (Rows.uptoBulk x.1)
theorem Rdu.le {n m : Nat} {E : List Value → Nat → Prop} (h : Rdu enc P W base sp hd m t E) (hn : n ≤ m) : Rdu enc P W base sp hd n t E := fun fuel hf => h fuel (by omega)
theorem rdu_s {n : Nat} (ht : P.underlying t = some .string) : Rdu enc P W base sp hd n t fun cs b => ∃ s : ByteArray, Tls W cs [dS s] ∧ dbkL [dS s] ≤ b := fun fuel _ cs x h hw => by
  obtain ⟨s, rfl, hx, _⟩ := DataW.trod_string ht h
  have e : s.data.toList.length = s.size := by rw [Array.length_toList]; rfl
  rw [hx] at hw ⊢
  simp only [Rows.uptoBulk, e] at hw ⊢
  exact ⟨s, ⟨⟨.v _ rfl, .s _ (by unfold reachBytes; omega)⟩, trivial⟩, by simp [dbkL, dbk]⟩
theorem rdu_i {n : Nat} {k : IntKind} (ht : P.underlying t = some (.int k)) : Rdu enc P W base sp hd n t fun cs b => ∃ s : Int, Tls W cs [.v (.int k s)] ∧ dbkL [.v (.int k s)] ≤ b := fun fuel _ cs x h hw => by
  obtain ⟨s, rfl, hx, hwf⟩ := DataW.trod_int ht h
  exact ⟨s, ⟨⟨.v _ rfl, .i _ _ hwf⟩, trivial⟩, by have := bulk_one x.1; simp [dbkL, dbk]; omega⟩
theorem rdu_b {n : Nat} (ht : P.underlying t = some .bool) : Rdu enc P W base sp hd n t fun cs b => ∃ s : Bool, Tls W cs [dB s] ∧ dbkL [dB s] ≤ b := fun fuel _ cs x h hw => by
  obtain ⟨s, rfl, hx⟩ := DataW.trod_bool ht h
  exact ⟨s, ⟨⟨.v _ rfl, .b _⟩, trivial⟩, by have := bulk_one x.1; simp [dbkL, dbk]; omega⟩
theorem rdu_l {T : Type} [Cl T] {n : Nat} (ht : P.underlying t = some (.slice e)) (hC : P.cellsOf e = Cl.sz T) (hsz : 0 < Cl.sz T)
    (hel : Rdu enc P W base sp hd n e fun cs b => ∃ y : T, Tls W cs (Cl.c y) ∧ dbkL (Cl.c y) ≤ b) : Rdu enc P W base sp hd (n + 1) t fun cs b => ∃ l : List T, Tls W cs [lD l] ∧ dbkL [lD l] ≤ b := fun fuel hf cs x h hw => by
  rcases DataW.trod_slice ht h with ⟨rfl, hx⟩ | ⟨a, len, cap, elems, rest, m, hm, rfl, hx, hb, h1, h2, h3, hi, _, _⟩
  · exact ⟨[], ⟨⟨.nil _ _ _, .l _ _ _ (by simp) (by simp [cD])⟩, trivial⟩, by have := bulk_one x.1; simp [dbkL, dbk, lD, cD]; omega⟩
  · rw [hx] at hw ⊢
    simp only [Rows.uptoBulk] at hw ⊢
    rw [bulk_sum] at hw ⊢
    have hle : ∀ i (hi : i < elems.length), Rows.uptoBulk elems[i].1 ≤ 1048576 := fun i hi => by
      have := sum_part (l := (elems.map (·.1)).map Rows.uptoBulk) (i := i) (b := Rows.uptoBulk elems[i].1) (by simp [List.getElem?_eq_getElem hi])
      omega
    have hlen : elems.length ≤ 1048576 := by
      have := sum_len ((elems.map (·.1)).map Rows.uptoBulk) fun b hb => by
        obtain ⟨d, _, rfl⟩ := List.mem_map.1 hb
        exact bulk_one d
      simp only [List.length_map] at this
      omega
    obtain ⟨l, hl, hq⟩ := list_of (Q := fun i (y : List Value × T) => ((∀ j, j < Cl.sz T → W.cell? (a.add (i * Cl.sz T + j)) = (y.1)[j]?) ∧ Tls W y.1 (Cl.c y.2)) ∧ ∀ (h' : i < elems.length), dbkL (Cl.c y.2) ≤ Rows.uptoBulk elems[i].1) len (fun i hil => by
      have h4 := hi i hil
      rw [List.getElem?_eq_getElem (by omega), hC] at h4
      obtain ⟨cs', hc, ht'⟩ := Option.bind_eq_some_iff.1 h4
      obtain ⟨y, hy, hyb⟩ := hel m (by omega) cs' _ ht' (hle i (by omega))
      obtain ⟨_, _, hat⟩ := World.cells?_some hc
      exact ⟨(cs', y), ⟨fun j hj => by rw [← addr_add_add]; exact hat j hj, hy⟩, fun _ => hyb⟩)
    have hT : ∀ y ∈ l, Tls W y.1 (Cl.c y.2) := fun y hy => by
      obtain ⟨i, hi, rfl⟩ := List.mem_iff_getElem.1 hy
      exact (hq i hi).1.2
    obtain ⟨f1, f2⟩ := flat_get (fun y : List Value × T => y.1) (Cl.sz T) l fun y hy => by rw [(hT y hy).len, Cl.len]
    have hflat := Tls.flat l hT
    refine ⟨l.map (·.2), ⟨⟨?_, ?_⟩, trivial⟩, ?_⟩
    · have hcell : ∀ j u, (l.flatMap (·.1))[j]? = some u → W.cell? (a.add j) = some u := by
        intro j u hu
        have hjl : j < l.length * Cl.sz T := by rw [← f1]; exact (List.getElem?_eq_some_iff.1 hu).1
        have hk : j / Cl.sz T < l.length := Nat.div_lt_of_lt_mul (by rw [Nat.mul_comm]; exact hjl)
        have hjm : j % Cl.sz T < Cl.sz T := Nat.mod_lt _ hsz
        have ej : j / Cl.sz T * Cl.sz T + j % Cl.sz T = j := Nat.div_add_mod' j (Cl.sz T)
        rw [← ej] at hu ⊢
        rw [f2 _ hk _ hjm] at hu
        rw [(hq _ hk).1.1 _ hjm, hu]
      have e1 : len = (l.map (·.2)).length := by rw [List.length_map, hl]
      rw [e1]
      refine .l (some a) _ _ cap (l.flatMap (·.1)) _ (by rw [hflat.len]) (by rw [f1, List.length_map]) (by omega) h2 ?_ (fun i hi => ?_)
      · by_cases hl0 : l.length = 0
        · exact .inl (by rw [List.length_map]; exact hl0)
        · right
          obtain ⟨b, off, spot⟩ := a
          have hpos : 0 < l.length * Cl.sz T := Nat.mul_pos (by omega) hsz
          have h0 := hcell 0 _ (List.getElem?_eq_getElem (by rw [f1]; exact hpos))
          have hs : spot = none := by
            cases spot with
            | none => rfl
            | some x =>
              simp [World.cell?, Addr.add] at h0
              split at h0 <;> cases h0
          subst hs
          refine ⟨b, off, rfl, ⟨trivial, ?_⟩, fun j u hu => by have := hcell j u hu; rwa [Addr.add_lit] at this⟩
          have := World.block_lt_of_cell? W _ h0
          simpa [Addr.add] using this
      · exact (hflat.get i _ _ (List.getElem?_eq_getElem (by rw [hflat.len]; exact hi)) (List.getElem?_eq_getElem hi)).1
    · exact .of (by rw [List.length_map]; unfold reachBytes; omega) fun y hy => by
        obtain ⟨z, hz, rfl⟩ := List.mem_map.1 hy
        exact (hT z hz).fine
    · have hs := sum_le (fun y : List Value × T => dbkL (Cl.c y.2)) (fun z : DataW H × List MemPlace => Rows.uptoBulk z.1) l elems (by omega) fun i h1 h2 => (hq i h1).2 h2
      simp only [dbkL, dbk, lD, dbkL_cD, List.map_map] at hs ⊢
      have e2 : (List.map ((fun y => dbkL (Cl.c y)) ∘ fun x => x.2) l).sum = (List.map (fun y : List Value × T => dbkL (Cl.c y.2)) l).sum := rfl
      have e3 : (List.map (Rows.uptoBulk ∘ fun x => x.1) elems).sum = (List.map (fun z : DataW H × List MemPlace => Rows.uptoBulk z.1) elems).sum := rfl
      rw [e2, e3]; omega
theorem rdu_f {n : Nat} {fs : Array Field} (he : P.underlying e = some (.struct fs)) {fuel : Nat} (hf : fuel ≤ n + 1) {cs : List Value} {x : DataW H × List MemPlace} (h : DataW.trod enc P W base sp hd fuel e cs = some x) (hw : Rows.uptoBulk x.1 ≤ 1048576) :
    cs.length = P.cellsOf e ∧ ∃ bs : List Nat, bs.sum + 1 ≤ Rows.uptoBulk x.1 ∧ ∀ (j : Nat) (f : Field), fs[j]? = some f → ∀ E, Rdu enc P W base sp hd n f.type E → ∃ b, bs[j]? = some b ∧ E ((cs.drop f.offset).take (P.cellsOf f.type)) b := by
  obtain ⟨xs, m, hm, hx, hlen, hxl, hfs⟩ := DataW.trod_struct he h
  rw [hx] at hw ⊢
  simp only [Rows.uptoBulk] at hw ⊢
  rw [bulk_sum] at hw ⊢
  refine ⟨hlen, (xs.map (·.1)).map Rows.uptoBulk, Nat.le_refl _, fun j f hj E hE => ?_⟩
  have hjl : j < fs.size := (Array.getElem?_eq_some_iff.1 hj).1
  have h1 := hfs j f hj
  rw [List.getElem?_eq_getElem (by omega)] at h1
  have hbj : ((xs.map (·.1)).map Rows.uptoBulk)[j]? = some (Rows.uptoBulk (xs[j]'(by omega)).1) := by simp [List.getElem?_eq_getElem (show j < xs.length by omega)]
  refine ⟨_, hbj, hE m (by omega) _ _ h1 ?_⟩
  have := sum_part hbj
  omega
end
end Go.Proofs.YtjajcecenflejaaGreat
