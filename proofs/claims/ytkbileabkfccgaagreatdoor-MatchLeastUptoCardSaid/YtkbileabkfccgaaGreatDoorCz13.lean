/- MaO, MaP, MaQ, MaR, MaS, merged. -/
import Derived.Test.YtkbileabkfccgaaGreatDoorCz12
import Derived.MapKept
import Derived.Laws.StructEq
import Derived.Maps.OwnSet

/- match: maps of a call's own, as lists of keys and values. Of no program but for the pairs of numbers. -/
namespace Go.Proofs.YtkbileabkfccgaaGreatDoor
open Go.RowKit

/-- what stands at a key -/
def lookA {κ ν : Type} [DecidableEq κ] (l : List (κ × ν)) (k : κ) : Option ν := (l.find? fun p => decide (p.1 = k)).map Prod.snd
/-- at a key stands v now -/
def putA {κ ν : Type} [DecidableEq κ] (l : List (κ × ν)) (k : κ) (v : ν) : List (κ × ν) :=
  if (l.any fun p => decide (p.1 = k)) then l.map fun p => if p.1 = k then (k, v) else p else l ++ [(k, v)]
/-- how keys of a type are written, found and kept -/
structure KeyLaw (P : Program) (kt : TypeId) {κ : Type} [DecidableEq κ] (ek : κ → Value) : Prop where
  chk : ∀ (e : Bool) (k : κ) (w : World), (Instr.checkKey e 10000 kt (ek k)).run P w = .ok () w
  find : ∀ (k : κ) (es : List MapEntry) (ks : List κ) (w : World), es.map (·.key) = ks.map ek → (Instr.findKey kt (ek k) es).run P w = .ok ((ks.findIdx? fun x => decide (x = k)).bind fun i => (es[i]?).map fun e => (i, e.val)) w
  stay : ∀ (k : κ) (w : World), (Instr.keyThatStays (ek k) (ek k)).run P w = .ok (ek k) w
  inj : ∀ a b : κ, ek a = ek b → a = b
/-- block b is a map that holds l -/
def Mp {κ ν : Type} (ek : κ → Value) (ev : ν → Value) (w : World) (b : Nat) (l : List (κ × ν)) : Prop :=
  ∃ es clock, w.heap[b]? = some (.map es clock) ∧ es.toList.map (fun e => (e.key, e.val)) = l.map (fun p => (ek p.1, ev p.2)) ∧ (l.map Prod.fst).Nodup ∧ MapKept.Stamped es clock
section
variable {P : Program} {kt et mty : TypeId} {κ ν : Type} [DecidableEq κ] {ek : κ → Value} {ev : ν → Value} {w w' : World} {b : Nat} {l : List (κ × ν)}
omit [DecidableEq κ] in
theorem Mp.all (h : Mp ek ev w b l) (hb : Below w.heap.size w w') : Mp ek ev w' b l := by
  obtain ⟨es, c, h1, h2⟩ := h
  exact ⟨es, c, (hb.block b (Array.getElem?_eq_some_iff.1 h1).1).trans h1, h2⟩
omit [DecidableEq κ] in
theorem Mp.lt (h : Mp ek ev w b l) : b < w.heap.size := by obtain ⟨es, c, h1, h2⟩ := h; exact (Array.getElem?_eq_some_iff.1 h1).1
omit [DecidableEq κ] in
theorem Mp.kp (h : Mp ek ev w b l) {S : Nat → Prop} (hb : Kp S w w') (hs : S b) : Mp ek ev w' b l := by
  obtain ⟨es, c, h1, h2⟩ := h
  exact ⟨es, c, (hb.block b hs).trans h1, h2⟩
omit [DecidableEq κ] in
theorem Mp.grown (h : Mp ek ev w b l) {row : Option Nat} (hg : w.grownBy w' row) (hr : some b ≠ row) : Mp ek ev w' b l := by
  obtain ⟨es, c, h1, h2⟩ := h
  exact ⟨es, c, (hg.block b (Array.getElem?_eq_some_iff.1 h1).1 hr).trans h1, h2⟩
omit [DecidableEq κ] in
theorem Mp.far (h : Mp ek ev w b l) {p : Addr} (u : Value) (hp : b ≠ p.block) : Mp ek ev (w.setCell p u) b l := by
  obtain ⟨es, c, h1, h2⟩ := h
  exact ⟨es, c, (Below.heap_setCell w p u b hp).trans h1, h2⟩
omit [DecidableEq κ] in
theorem Mp.new (w : World) (ek : κ → Value) (ev : ν → Value) : Mp ek ev (w.alloc (.map #[] 0)) w.heap.size ([] : List (κ × ν)) := ⟨#[], 0, heap_alloc_new w _, rfl, List.nodup_nil, MapKept.stamped_empty 0⟩

theorem find_look : ∀ (es : List MapEntry) (l : List (κ × ν)) (k : κ), es.map (fun e => (e.key, e.val)) = l.map (fun p => (ek p.1, ev p.2)) →
    (((l.map Prod.fst).findIdx? fun x => decide (x = k)).bind fun i => (es[i]?).map fun e => e.val) = (lookA l k).map ev := by
  intro es
  induction es with
  | nil => intro l k h; cases l with
    | nil => rfl
    | cons _ _ => simp at h
  | cons e es ih =>
    intro l k h
    cases l with
    | nil => simp at h
    | cons p l =>
      simp only [List.map_cons, List.cons.injEq, Prod.mk.injEq] at h
      obtain ⟨⟨h1, h2⟩, h3⟩ := h
      have := ih l k h3
      rw [List.map_cons, List.findIdx?_cons]
      by_cases hk : p.1 = k
      · simp [lookA, hk, h2]
      · have e2 : lookA (p :: l) k = lookA l k := by unfold lookA; rw [List.find?_cons_of_neg (by simpa using hk)]
        rw [e2, ← this]
        simp only [hk, decide_false, Bool.false_eq_true, if_false]
        cases ((l.map Prod.fst).findIdx? fun x => decide (x = k)) <;> simp

theorem Mp.look (h : Mp ek ev w b l) (K : KeyLaw P kt ek) (hm : P.underlying mty = some (.map kt et)) (k : κ) {z : Value} (hz : (zeroValue et).run P w = .ok z w) :
    (Instr.lookup mty (.map (some b)) (ek k) false).run P w = .ok (((lookA l k).map ev).getD z) w := by
  obtain ⟨es, c, h1, h2, h3⟩ := h
  have hl := find_look es.toList l k h2
  have hf := K.find k es.toList (l.map Prod.fst) w (by have := congrArg (List.map Prod.fst) h2; simpa [List.map_map, Function.comp_def] using this)
  rw [← hl]
  simp [Instr.lookup, run_underlying hm, MapKept.run_getObj_map h1, K.chk, hf, Result.andThen]
  cases (List.findIdx? ((fun x => decide (x = k)) ∘ Prod.fst) l) with
  | none => simp [hz]
  | some i =>
    cases hi : es[i]? with
    | none => simp [hi, hz]
    | some e => simp [hi]
theorem Mp.lookOk (h : Mp ek ev w b l) (K : KeyLaw P kt ek) (hm : P.underlying mty = some (.map kt et)) (k : κ) {z : Value} (hz : (zeroValue et).run P w = .ok z w) :
    (Instr.lookup mty (.map (some b)) (ek k) true).run P w = .ok (.tuple #[((lookA l k).map ev).getD z, .bool (lookA l k).isSome]) w := by
  obtain ⟨es, c, h1, h2, h3⟩ := h
  have hl := find_look es.toList l k h2
  have hf := K.find k es.toList (l.map Prod.fst) w (by have := congrArg (List.map Prod.fst) h2; simpa [List.map_map, Function.comp_def] using this)
  have hs : (lookA l k).isSome = ((lookA l k).map ev).isSome := by cases lookA l k <;> rfl
  rw [hs, ← hl]
  simp [Instr.lookup, run_underlying hm, MapKept.run_getObj_map h1, K.chk, hf, Result.andThen]
  cases (List.findIdx? ((fun x => decide (x = k)) ∘ Prod.fst) l) with
  | none => simp [hz]
  | some i =>
    cases hi : es[i]? with
    | none => simp [hi, hz]
    | some e => simp [hi]

theorem any_idx (l : List (κ × ν)) (k : κ) : (l.any fun p => decide (p.1 = k)) = ((l.map Prod.fst).findIdx? fun x => decide (x = k)).isSome := by
  rw [List.findIdx?_isSome, List.any_map]; rfl
theorem Mp.put (h : Mp ek ev w b l) (K : KeyLaw P kt ek) (hm : P.underlying mty = some (.map kt et)) (k : κ) (v : ν) :
    ∃ w', (Instr.mapUpdate mty (.map (some b)) (ek k) (ev v)).run P w = .ok () w' ∧ Mp ek ev w' b (putA l k v) ∧ w.grownBy w' (some b) ∧ w'.heap.size = w.heap.size := by
  obtain ⟨es, c, h1, h2, h3, h4⟩ := h
  have hf := K.find k es.toList (l.map Prod.fst) w (by have := congrArg (List.map Prod.fst) h2; simpa [List.map_map, Function.comp_def] using this)
  have hlen : es.size = l.length := by have := congrArg List.length h2; simpa using this
  have set_grown : ∀ o : Obj, w.grownBy ({ w with heap := w.heap.setIfInBounds b o }) (some b) := fun o =>
    ⟨rfl, rfl, rfl, by simp, fun j _ hj => (MapKept.heap_set (o' := o) h1).2 j (fun e => hj (by rw [e]))⟩
  have hany := any_idx l k
  cases hi : (l.map Prod.fst).findIdx? fun x => decide (x = k) with
  | none =>
    rw [hi] at hf hany
    refine ⟨{ w with heap := w.heap.setIfInBounds b (.map (es.push { key := ek k, val := ev v, born := c }) (c + 1)) }, ?_, ?_, set_grown _, by simp⟩
    · simp [Instr.mapUpdate, run_underlying hm, MapKept.run_getObj_map h1, K.chk, hf, Result.andThen, MapKept.run_setObj_map _ h1]
    · refine ⟨_, _, (MapKept.heap_set h1).1, ?_, ?_, ?_⟩
      · unfold putA; rw [hany]; simp [h2]
      · unfold putA; rw [hany]
        simp only [Option.isSome_none, Bool.false_eq_true, if_false, List.map_append, List.map_cons, List.map_nil]
        rw [List.nodup_append]
        refine ⟨h3, by simp, ?_⟩
        intro x hx y hy
        simp at hy; subst hy
        rintro rfl
        rw [List.findIdx?_eq_none_iff] at hi
        simpa using hi x hx
      · refine MapKept.stamped_push h4 fun x hx e => ?_
        have hmem : (x.key, x.val) ∈ es.toList.map (fun e => (e.key, e.val)) := List.mem_map_of_mem hx
        rw [h2] at hmem
        obtain ⟨q, hq, hqe⟩ := List.mem_map.1 hmem
        simp only [Prod.mk.injEq] at hqe
        have hqk : q.1 = k := K.inj _ _ (hqe.1.trans e)
        rw [List.findIdx?_eq_none_iff] at hi
        have := hi q.1 (List.mem_map_of_mem hq)
        simp [hqk] at this
  | some i =>
    rw [hi] at hf hany
    obtain ⟨hil, hik⟩ := List.findIdx?_eq_some_iff_getElem.1 hi
    have hil' : i < l.length := by simpa using hil
    have hik1 : l[i].1 = k := by simpa using hik.1
    have hie : i < es.size := by omega
    have hei : es[i]? = some es[i] := Array.getElem?_eq_getElem hie
    have hkey : es[i].key = ek k := by
      have h := congrArg (fun x => x[i]?) h2
      simp [hie, hil'] at h
      rw [h.1, hik1]
    refine ⟨{ w with heap := w.heap.setIfInBounds b (.map (es.modify i fun e => { e with key := ek k, val := ev v }) c) }, ?_, ?_, set_grown _, by simp⟩
    · simp [Instr.mapUpdate, run_underlying hm, MapKept.run_getObj_map h1, K.chk, hf, hei, hkey, K.stay, Result.andThen, MapKept.run_setObj_map _ h1]
    · refine ⟨_, _, (MapKept.heap_set h1).1, ?_, ?_, ?_⟩
      · unfold putA; rw [hany]
        simp only [Option.isSome_some, if_true]
        apply List.ext_getElem?
        intro j
        have h := congrArg (fun x => x[j]?) h2
        simp only [List.getElem?_map, Array.getElem?_toList] at h ⊢
        rw [Array.getElem?_modify]
        by_cases hj : i = j
        · subst hj
          rw [if_pos rfl, hei]
          simp [hil', hik1]
        · rw [if_neg hj]
          cases hlj : l[j]? with
          | none => rw [hlj] at h; simpa using h
          | some p =>
            rw [hlj] at h
            have hpk : ¬ p.1 = k := by
              intro e
              obtain ⟨hjl, hp⟩ := List.getElem?_eq_some_iff.1 hlj
              have hpw := List.pairwise_iff_getElem.1 h3
              rcases Nat.lt_or_gt_of_ne hj with hlt | hlt
              · exact hpw i j (by simpa using hil') (by simpa using hjl) hlt (by simp [hp, e, hik1])
              · exact hpw j i (by simpa using hjl) (by simpa using hil') hlt (by simp [hp, e, hik1])
            simpa [hpk] using h
      · unfold putA; rw [hany]
        simp only [Option.isSome_some, if_true, List.map_map]
        have : (Prod.fst ∘ fun p : κ × ν => if p.1 = k then (k, v) else p) = Prod.fst := by
          funext p; simp only [Function.comp]; split
          · rename_i h; exact h.symm
          · rfl
        rw [this]; exact h3
      · refine MapKept.stamped_modify h4 i _ (fun _ _ => rfl) fun e _ he => ?_
        rw [hei] at he
        obtain rfl := Option.some.inj he
        exact hkey.symm
end
end Go.Proofs.YtkbileabkfccgaaGreatDoor

/- match: keys that are texts, sets, pairs of numbers. -/
namespace Go.Proofs.YtkbileabkfccgaaGreatDoor
open Go.RowKit

theorem findNow_ks {κ : Type} [DecidableEq κ] {ek : κ → Value} {d : TypeDesc} (hs : ∀ a b : κ, Instr.sameNow d (ek a) (ek b) = some (decide (b = a))) (k : κ) : ∀ (es : List MapEntry) (ks : List κ) (i : Nat), es.map (·.key) = ks.map ek →
    Instr.findNow d (ek k) es i = some ((ks.findIdx? fun x => decide (x = k)).bind fun j => (es[j]?).map fun e => (i + j, e.val)) := by
  intro es
  induction es with
  | nil => intro ks i h; cases ks with
    | nil => rfl
    | cons _ _ => simp at h
  | cons e es ih =>
    intro ks i h
    cases ks with
    | nil => simp at h
    | cons x ks =>
      simp only [List.map_cons, List.cons.injEq] at h
      obtain ⟨h1, h2⟩ := h
      have := ih ks (i + 1) h2
      rw [Instr.findNow, h1, hs, List.findIdx?_cons]
      by_cases hk : x = k
      · simp [hk]
      · simp only [hk, decide_false, this, Bool.false_eq_true, if_false]
        cases (ks.findIdx? fun x => decide (x = k)) with
        | none => rfl
        | some j => simp [Nat.add_assoc, Nat.add_comm 1 j]
theorem simpleLaw {P : Program} {kt : TypeId} {κ : Type} [DecidableEq κ] {ek : κ → Value} {d : TypeDesc} (hd : P.underlying kt = some d) (hk : ∀ k, MapKept.IsKey d (ek k)) (hs : ∀ a b : κ, Instr.sameNow d (ek a) (ek b) = some (decide (b = a))) (hi : ∀ a b, ek a = ek b → a = b) : KeyLaw P kt ek where
  chk := fun e k w => MapKept.run_checkKey hd (hk k) e 9999
  find := fun k es ks w h => by
    have := findNow_ks hs k es ks 0 h
    simp only [Nat.zero_add] at this
    exact MapKept.run_findKey hd this
  stay := fun k w => MapKept.run_keyThatStays (hk k)
  inj := hi
theorem keyTx : KeyLaw Tryz.prog 9 Value.string :=
  simpleLaw (d := .string) Tryz.underlying9 (fun k => by simp [MapKept.IsKey]) (fun a b => by
    simp only [Instr.sameNow]; congr 1; rw [Bool.eq_iff_iff, MapKept.bytes_beq]; simp [eq_comm]) (fun a b h => by simpa using h)
def ekU (n : Nat) : Value := .int .u64 (n : Int)
theorem keySe : KeyLaw Tryz.prog 96 ekU :=
  simpleLaw (d := .int .u64) Tryz.underlying96 (fun k => by simp [MapKept.IsKey, ekU]) (fun a b => by
    simp only [Instr.sameNow, ekU, if_true]; congr 1; rw [Bool.eq_iff_iff]; simp; omega) (fun a b h => by simp only [ekU, Value.int.injEq, true_and] at h; omega)
def ekP (p : Int × Int) : Value := .agg #[.int .i64 p.1, .int .i64 p.2]
theorem eqPair_run (a b c d : Int) (w : World) : (Op.equal 149 (.agg #[.int .i64 a, .int .i64 b]) (.agg #[.int .i64 c, .int .i64 d])).run Tryz.prog w = .ok ((a == c) && (b == d)) w := by
  have u4 := Tryz.underlying3
  have a4 := Tryz.isAgg3
  have z4 := Tryz.sizeOf3
  have u5 := Tryz.underlying149
  unfold Op.equal Op.maxDepth
  rw [Op.equalIn]
  simp [run_underlying u5, z4, Result.andThen]
  have hr : List.range' 0 2 = [0, 1] := rfl
  have e1 : ∀ (x y : Int) (w : World), (Op.equalIn 9999 3 (.int .i64 x) (.int .i64 y)).run Tryz.prog w = .ok (x == y) w := fun x y w => run_equalIn_int w 9998 3 .i64 .i64 x y u4
  have p0 : ∀ (x y : Int) (w : World), (part 3 #[.int .i64 x, .int .i64 y] 0).run Tryz.prog w = .ok (.int .i64 x) w := fun _ _ _ => by kernel_rfl
  have p1 : ∀ (x y : Int) (w : World), (part 3 #[.int .i64 x, .int .i64 y] 1).run Tryz.prog w = .ok (.int .i64 y) w := fun _ _ _ => by kernel_rfl
  rw [hr]
  cases h1 : (a == c) <;> cases h2 : (b == d) <;> simp [e1, p0, p1, h1, h2, Result.andThen]
theorem chkPair (e : Bool) (a b : Int) (w : World) : (Instr.checkKey e 10000 149 (.agg #[.int .i64 a, .int .i64 b])).run Tryz.prog w = .ok () w := by
  kernel_rfl
theorem findPair (p : Int × Int) : ∀ (es : List MapEntry) (ks : List (Int × Int)) (i : Nat) (w : World), es.map (·.key) = ks.map ekP →
    (Instr.findAsking 149 (ekP p) es i).run Tryz.prog w = .ok ((ks.findIdx? fun x => decide (x = p)).bind fun j => (es[j]?).map fun e => (i + j, e.val)) w := by
  intro es
  induction es with
  | nil => intro ks i w h; cases ks with
    | nil => rfl
    | cons _ _ => simp at h
  | cons e es ih =>
    intro ks i w h
    cases ks with
    | nil => simp at h
    | cons x ks =>
      simp only [List.map_cons, List.cons.injEq] at h
      obtain ⟨h1, h2⟩ := h
      have := ih ks (i + 1) w h2
      have hq := eqPair_run p.1 p.2 x.1 x.2 w
      rw [Instr.findAsking, h1, List.findIdx?_cons]
      unfold ekP at this ⊢
      by_cases hk : x = p
      · subst hk
        simp at hq
        simp [hq, Result.andThen]
      · have hne : (p.1 == x.1 && p.2 == x.2) = false := by
          rw [Bool.eq_false_iff]; intro hh; simp at hh; exact hk (by cases x; cases p; simp_all)
        rw [hne] at hq
        simp [hq, Result.andThen, this, hk]
        cases (ks.findIdx? fun x => decide (x = p)) with
        | none => rfl
        | some j => simp [Nat.add_assoc, Nat.add_comm 1 j]
theorem keyPa : KeyLaw Tryz.prog 149 ekP where
  chk := fun e k w => chkPair e k.1 k.2 w
  find := fun k es ks w h => by
    have hp := findPair k es ks 0 w h
    simp only [Nat.zero_add] at hp
    have u5 := Tryz.underlying149
    unfold Instr.findKey
    cases es with
    | nil => cases ks with
      | nil => simp [run_underlying u5, Instr.findNow, Result.andThen]
      | cons _ _ => simp at h
    | cons e es =>
      simp [run_underlying u5, Instr.findNow, Instr.sameNow, Result.andThen]
      exact hp
  stay := fun k w => by
    have : Instr.sameBits 10000 (ekP k) (ekP k) = true := by simp [ekP, Instr.sameBits]
    simp [Instr.keyThatStays, this]
  inj := fun a b h => by cases a; cases b; simp [ekP] at h; simp [h]
end Go.Proofs.YtkbileabkfccgaaGreatDoor

/- match: a table, as it is read; end. -/
namespace Go.Proofs.YtkbileabkfccgaaGreatDoor
open Go.RowKit

def itC (l : List Int) : List Value := l.map fun i => Value.int .i64 i
theorem itC_len (l : List Int) : (itC l).length = l.length * 1 := by simp [itC]
theorem itC_app (l m : List Int) : itC (l ++ m) = itC l ++ itC m := by simp [itC]
theorem itC_get (l : List Int) (k : Nat) (hk : k < l.length) : (itC l)[k]? = some (.int .i64 l[k]) := by simp [itC, hk]
/-- slice v holds the numbers l, below block B -/
def Is (w : World) (B : Nat) (v : Value) (l : List Int) : Prop := Rd w B v 1 l.length (itC l)
/-- slice v holds the sets l, below block B -/
def Us (w : World) (B : Nat) (v : Value) (l : List Nat) : Prop := Rd w B v 1 l.length (seC l)
section
variable {w w' : World} {B B' : Nat} {v : Value} {l : List Int} {m : List Nat}
theorem Is.below (h : Is w B v l) (hb : Below B w w') : Is w' B v l := Rd.below h hb
theorem Us.below (h : Us w B v m) (hb : Below B w w') : Us w' B v m := Rd.below h hb
theorem Is.mono (h : Is w B v l) (hb : B ≤ B') : Is w B' v l := Rd.mono h hb
theorem Us.mono (h : Us w B v m) (hb : B ≤ B') : Us w B' v m := Rd.mono h hb
theorem Is.form (h : Is w B v l) : ∃ A cap, v = .slice A l.length cap := Rd.form h
theorem Us.form (h : Us w B v m) : ∃ A cap, v = .slice A m.length cap := Rd.form h
theorem Is.max (h : Is w B v l) : l.length ≤ maxLen := Rd.max h
theorem Us.max (h : Us w B v m) : m.length ≤ maxLen := Rd.max h
theorem Is.at {A : Option Addr} {cap k : Nat} (h : Is w B (.slice A l.length cap) l) (hk : k < l.length) :
    ∃ b off, A = some ⟨b, off, none⟩ ∧ b < B ∧ l.length ≤ cap ∧ w.cell? ⟨b, off + k, none⟩ = some (.int .i64 l[k]) := by
  obtain ⟨b, off, rfl, hb, hcap, hc⟩ := Rd.at h (by omega)
  exact ⟨b, off, rfl, hb, hcap, hc _ _ (itC_get l k hk)⟩
theorem Us.at {A : Option Addr} {cap k : Nat} (h : Us w B (.slice A m.length cap) m) (hk : k < m.length) :
    ∃ b off, A = some ⟨b, off, none⟩ ∧ b < B ∧ m.length ≤ cap ∧ w.cell? ⟨b, off + k, none⟩ = some (.int .u64 (m[k] : Int)) := by
  obtain ⟨b, off, rfl, hb, hcap, hc⟩ := Rd.at h (by omega)
  exact ⟨b, off, rfl, hb, hcap, hc _ _ (seC_get m k hk)⟩
theorem Is.own {e : TypeId} {base : Nat} (h : w.ownsRow base e 1 v l.length (itC l)) : Is w w.heap.size v l := Rd.own h
theorem Us.own {e : TypeId} {base : Nat} (h : w.ownsRow base e 1 v m.length (seC m)) : Us w w.heap.size v m := Rd.own h
end
/-- slice v holds slices of numbers, below block B -/
def Iss (w : World) (B : Nat) (v : Value) (m : List (List Int)) : Prop :=
  ∃ (ss : List Value) (h : ss.length = m.length), Rd w B v 1 m.length ss ∧ ∀ i (hi : i < m.length), Is w B (ss[i]'(by omega)) m[i]
section
variable {w w' : World} {B B' : Nat} {v : Value} {m : List (List Int)}
theorem Iss.below (h : Iss w B v m) (hb : Below B w w') : Iss w' B v m := by obtain ⟨ss, hl, hr, hs⟩ := h; exact ⟨ss, hl, hr.below hb, fun i hi => (hs i hi).below hb⟩
theorem Iss.mono (h : Iss w B v m) (hb : B ≤ B') : Iss w B' v m := by obtain ⟨ss, hl, hr, hs⟩ := h; exact ⟨ss, hl, hr.mono hb, fun i hi => (hs i hi).mono hb⟩
theorem Iss.form (h : Iss w B v m) : ∃ A cap, v = .slice A m.length cap := by obtain ⟨ss, hl, hr, hs⟩ := h; exact hr.form
theorem Iss.at {A : Option Addr} {cap k : Nat} (h : Iss w B (.slice A m.length cap) m) (hk : k < m.length) :
    ∃ b off s, A = some ⟨b, off, none⟩ ∧ b < B ∧ m.length ≤ cap ∧ w.cell? ⟨b, off + k, none⟩ = some s ∧ Is w B s m[k] := by
  obtain ⟨ss, hl, hr, hs⟩ := h
  obtain ⟨b, off, rfl, hb, hcap, hc⟩ := Rd.at hr (by omega)
  exact ⟨b, off, _, rfl, hb, hcap, hc k _ (List.getElem?_eq_getElem (by omega)), hs k hk⟩
end
/-- a letter: where it may stand, its types -/
structure Lt where
  at_ : Nat
  ts : List ByteArray
/-- slice v holds the letters l, below block B -/
def Lts (w : World) (B : Nat) (v : Value) (l : List Lt) : Prop := Ne (fun x : Lt => ekU x.at_) (fun w s x => Tx w B s x.ts) w (· < B) v l
section
variable {w w' : World} {B B' : Nat} {v : Value} {l : List Lt}
theorem Lts.below (h : Lts w B v l) (hb : Below B w w') : Lts w' B v l := Ne.keep h (fun b o hl => hb.cell (p := ⟨b, o, none⟩) hl) fun _ _ hx => hx.below hb
theorem Lts.mono (h : Lts w B v l) (hB : B ≤ B') : Lts w B' v l := Ne.mono h (fun _ hb => Nat.lt_of_lt_of_le hb hB) fun _ _ hx => hx.mono hB
theorem Lts.form (h : Lts w B v l) : ∃ A cap, v = .slice A l.length cap := Ne.form h
theorem Lts.max (h : Lts w B v l) : l.length ≤ maxLen := Ne.max h
theorem Lts.at {A : Option Addr} {cap k : Nat} (h : Lts w B (.slice A l.length cap) l) (hk : k < l.length) :
    ∃ b off s, A = some ⟨b, off, none⟩ ∧ b < B ∧ l.length ≤ cap ∧ Tx w B s l[k].ts ∧ w.cell? ⟨b, off + k * 2, none⟩ = some (.int .u64 (l[k].at_ : Int)) ∧ w.cell? ⟨b, off + k * 2 + 1, none⟩ = some s := Ne.at h hk
end
/-- a table: what ends, letters, sets, by set and letter the set behind -/
structure Tb where
  ends : Nat
  ls : List Lt
  sets : List Nat
  to : List (List Int)
/-- block gt holds table t, below block B -/
def TbR (w : World) (B gt : Nat) (t : Tb) : Prop :=
  gt < B ∧ ∃ g vl vs vt, w.cell? ⟨gt, 0, none⟩ = some (.pointer (some ⟨g, 0, none⟩)) ∧ w.cell? ⟨gt, 1, none⟩ = some vl ∧ w.cell? ⟨gt, 2, none⟩ = some vs ∧ w.cell? ⟨gt, 3, none⟩ = some vt ∧ g < B ∧ w.cell? ⟨g, 2, none⟩ = some (.int .u64 (t.ends : Int)) ∧
    Lts w B vl t.ls ∧ Us w B vs t.sets ∧ Iss w B vt t.to
theorem TbR.below {w w' : World} {B gt : Nat} {t : Tb} (h : TbR w B gt t) (hb : Below B w w') : TbR w' B gt t := by
  obtain ⟨h0, g, vl, vs, vt, h1, h2, h3, h4, h5, h6, h7, h8, h9⟩ := h
  exact ⟨h0, g, vl, vs, vt, (hb.cell (p := ⟨gt, 0, none⟩) h0).trans h1, (hb.cell (p := ⟨gt, 1, none⟩) h0).trans h2, (hb.cell (p := ⟨gt, 2, none⟩) h0).trans h3, (hb.cell (p := ⟨gt, 3, none⟩) h0).trans h4, h5, (hb.cell (p := ⟨g, 2, none⟩) h5).trans h6, h7.below hb, h8.below hb, h9.below hb⟩
theorem TbR.mono {w : World} {B B' gt : Nat} {t : Tb} (h : TbR w B gt t) (hB : B ≤ B') : TbR w B' gt t := by
  obtain ⟨h0, g, vl, vs, vt, h1, h2, h3, h4, h5, h6, h7, h8, h9⟩ := h
  exact ⟨by omega, g, vl, vs, vt, h1, h2, h3, h4, by omega, h6, h7.mono hB, h8.mono hB, h9.mono hB⟩

def endM (t : Tb) (i : Nat) : Int := if t.sets.getD i 0 &&& t.ends ≠ 0 then 1 else 0

set_option maxRecDepth 100000 in
set_option maxHeartbeats 800000 in
theorem end_any (t : Tb) (gt i B : Nat) (w : World) (h : TbR w B gt t) (hi : i < t.sets.length) (hs : ∀ x ∈ t.sets, x < 33554432) (he : t.ends < 33554432) :
    Calls Tryz.prog 69 #[.pointer (some ⟨gt, 0, none⟩), .int .i64 i] w fun e w' => e = .returned (.int .i64 (endM t i)) ∧ ∃ n, w' = w.drewN n := by
  obtain ⟨h0, g, vl, vs, vt, h1, h2, h3, h4, h5, h6, h7, h8, h9⟩ := h
  obtain ⟨A, cap, rfl⟩ := h8.form
  obtain ⟨b, off, rfl, hb, hcap, hc⟩ := h8.at hi
  have hx : t.sets[i] < 33554432 := hs _ (List.getElem_mem hi)
  have hand := bits_and_u64_nat t.sets[i] t.ends (by omega) (by omega)
  obtain ⟨r, HR⟩ : ∃ r, Hid (r = endM t i) := ⟨_, rfl⟩
  rw [← HR.out]
  obtain ⟨y, hy⟩ : ∃ y, Hid (y = t.sets[i] &&& t.ends) := ⟨_, Lib.hid rfl⟩
  have hr : Hid (r = if y ≠ 0 then 1 else 0) := by
    show _ = _; rw [HR.out, endM, List.getD_eq_getElem?_getD, List.getElem?_eq_getElem hi, hy.out]; rfl
  rw [← hy.out] at hand
  have hi1 : (i : Int) < (t.sets.length : Int) := by omega
  have hi0 : (0 : Int) ≤ (i : Int) := by omega
  by_cases hy0 : y = 0
  · have hne : ((y : Int) != 0) = false := by simp [hy0]
    have hfin : Hid (r = 0) := by show _ = _; rw [hr.out]; simp [hy0]
    clear hy0
    go_enter Tryz.func69, Tryz.ntmps69
    go_wp2
    go_quiet (fail)
    go_wp2
    go_ret
    exact ⟨ret_int hfin.out.symm, _, rfl⟩
  · have hne : ((y : Int) != 0) = true := by simp [hy0]
    have hfin : Hid (r = 1) := by show _ = _; rw [hr.out]; simp [hy0]
    clear hy0
    go_enter Tryz.func69, Tryz.ntmps69
    go_wp2
    go_quiet (fail)
    go_wp2
    go_ret
    exact ⟨ret_int hfin.out.symm, _, rfl⟩
end Go.Proofs.YtkbileabkfccgaaGreatDoor

/- match: numbered. -/
namespace Go.Proofs.YtkbileabkfccgaaGreatDoor
open Go.RowKit

/-- the pairs that came, in the order in which they came first; and the numbers -/
def numS (q : Nat → Int × Int) : Nat → List (Int × Int) × List Int
  | 0 => ([], [])
  | k + 1 => if q k ∈ (numS q k).1 then ((numS q k).1, (numS q k).2 ++ [(((numS q k).1.idxOf (q k) : Nat) : Int)]) else ((numS q k).1 ++ [q k], (numS q k).2 ++ [((numS q k).1.length : Int)])
theorem numS_len (q : Nat → Int × Int) : ∀ k, (numS q k).2.length = k
  | 0 => rfl
  | k + 1 => by rw [numS]; split <;> simp [numS_len q k]
theorem numS_le (q : Nat → Int × Int) : ∀ k, (numS q k).1.length ≤ k
  | 0 => Nat.le_refl _
  | k + 1 => by have := numS_le q k; rw [numS]; split <;> simp <;> omega
theorem look_zip (ks : List (Int × Int)) (p : Int × Int) (n : Nat) : lookA (ks.zipIdx n) p = if p ∈ ks then some (n + ks.idxOf p) else none := by
  induction ks generalizing n with
  | nil => rfl
  | cons x ks ih =>
    rw [List.zipIdx_cons]
    by_cases h : x = p
    · subst h; simp [lookA]
    · have e : lookA ((x, n) :: ks.zipIdx (n + 1)) p = lookA (ks.zipIdx (n + 1)) p := by unfold lookA; rw [List.find?_cons_of_neg (by simpa using h)]
      rw [e, ih]
      have h' : ¬ p = x := fun e => h e.symm
      simp only [List.mem_cons, h', false_or]
      split
      · have e2 : (x == p) = false := by simpa using h
        rw [List.idxOf_cons, e2]; simp; omega
      · rfl
theorem put_zip (ks : List (Int × Int)) (p : Int × Int) (h : p ∉ ks) : putA (ks.zipIdx) p ks.length = (ks ++ [p]).zipIdx := by
  have hany : (ks.zipIdx.any fun x => decide (x.1 = p)) = false := by
    rw [List.any_eq_false]
    intro x hx
    simp only [decide_eq_true_eq]
    intro e
    exact h (e ▸ List.fst_mem_of_mem_zipIdx hx)
  unfold putA
  rw [hany, List.zipIdx_append]
  simp
def evN (i : Nat) : Value := .int .i64 (i : Int)
section
variable {P : Program} (w : World) {ops : Array Oper} {rest : List Oper} {o : Oper} {a : Act} {Q : Exit → Act → World → Prop} {κ ν : Type} {ek : κ → Value} {ev : ν → Value}
theorem wpList_len_mp (hg : o.guard = none) (m : Operand) (t : TypeId) (hop : o.op = Op.call { callee := Callee.builtin Builtin.len, args := #[m], argTypes := #[t] })
    (k e : TypeId) (ht : P.underlying t = some (.map k e)) (b : Nat) (l : List (κ × ν)) (hm : a.eval m = .map (some b)) (h : Mp ek ev w b l)
    (hK : wpList P ops Q rest (a.put o.dst (.int .i64 (l.length : Int))) w) : wpList P ops Q (o :: rest) a w := by
  obtain ⟨es, c, h1, h2, h3⟩ := h
  have hlen : es.size = l.length := by have := congrArg List.length h2; simpa using this
  have hrun : (Builtin.len_ #[t] o.type #[.map (some b)]).run P w = .ok (.int .i64 (l.length : Int)) w := by
    simp [Builtin.len_, run_underlying ht, MapKept.run_getObj_map h1, goInt, Result.andThen, hlen]
  refine wpList_plain hg fun K' hK' => ?_
  unfold Oper.wp
  simp [execOp, hop, resolve, invoke, builtin, hm, hrun, Result.andThen]
  exact hK' _ _ hK
end
/-- at each number below n, and any later world, function value K at caps answers q -/
def AsksP (P : Program) (q : Nat → Int × Int) (n : Nat) (K : Nat) (caps : Array Value) (w : World) : Prop :=
  Enters P K ∧ ∀ i : Nat, i < n → ∀ w', Below w.heap.size w w' → Calls P K (#[.int .i64 (i : Int)] ++ caps) w' fun e w'' => e = .returned (.agg #[.int .i64 (q i).1, .int .i64 (q i).2]) ∧ Below w'.heap.size w' w''
theorem infoI64 : (Tryz.prog.info? 3).map (fun i => (i.zero, i.size, i.bytes)) = some (some (.int .i64 0), 1, 8) := by kernel_rfl
/-- what is handed back: new numbers, and how many there are -/
def NumR (w : World) (l : List Int) (n : Nat) (x : Ending) (w' : World) : Prop := ∃ v, x = .returned (.tuple #[v, .int .i64 (n : Int)]) ∧ w'.ownsRow w.heap.size 3 1 v l.length (itC l) ∧ Below w.heap.size w w'
theorem ret_num {v : Value} {a b : Int} (h : a = b) : Ending.returned (.tuple #[v, .int .i64 a]) = .returned (.tuple #[v, .int .i64 b]) := by rw [h]
theorem itC_set (l : List Int) (k : Nat) (x : Int) : (itC l).set k (.int .i64 x) = itC (l.set k x) := by simp [itC, List.map_set]
theorem fill_set (l : List Int) (m : Nat) (x : Int) : (l ++ List.replicate (m + 1) 0).set l.length x = (l ++ [x]) ++ List.replicate m 0 := by
  rw [List.set_append_right _ _ (Nat.le_refl _), Nat.sub_self, List.replicate_succ, List.set_cons_zero, List.append_assoc]; rfl

set_option maxRecDepth 100000 in
set_option maxHeartbeats 3200000 in
theorem numbered_any (q : Nat → Int × Int) (n K : Nat) (caps : Array Value) (w : World) (hn : n ≤ 1000000000000) (hf : AsksP Tryz.prog q n K caps w) :
    Calls Tryz.prog 112 #[.int .i64 n, .func (.func K) #[] caps] w (NumR w (numS q n).2 (numS q n).1.length) := by
  obtain ⟨i0, hi, hz0, hz1, hz2⟩ := info_parts infoI64
  have hmm := @run_makeMap Tryz.prog
  obtain ⟨w0, rfl⟩ : ∃ w0 : World, w0 = w := ⟨_, rfl⟩
  obtain ⟨r1, HR1⟩ : ∃ r, Hid (r = (numS q n).2) := ⟨_, rfl⟩
  obtain ⟨r2, HR2⟩ : ∃ r, Hid (r = (numS q n).1.length) := ⟨_, rfl⟩
  rw [← HR1.out, ← HR2.out]
  have HF := Lib.hid hf
  have hn0 : (0 : Int) ≤ n := by omega
  clear hf
  go_enter Tryz.func112, Tryz.ntmps112
  go_wp2_with (at_make; refine wpList_make_full _ rfl _ _ 82 rfl w0.heap.size 3 i0 (.int .i64 0) 1 Tryz.underlying82 hi hz0 hz1 _ _ _ _ n rfl rfl ?_ ?_ ?_ ?_ ?_ ?_)
  · rfl
  · rfl
  · rw [hz2]; omega
  · unfold maxLen; omega
  · simp
  intro w1 hown hg1
  have hmc : (madeCells #[Value.int IntKind.i64 0] n).toList = itC ([] ++ List.replicate n 0) := by
    simp only [madeCells, itC]
    simp [Nat.mod_one, List.map_const']
  rw [hmc] at hown
  have HOWN := Lib.hid hown
  have HMP : Hid (Mp ekP evN w1 w0.heap.size (([] : List (Int × Int)).zipIdx)) := (Mp.new w0 ekP evN).grown hg1 (by simp)
  have HB1 : Hid (Below w0.heap.size w0 w1) := (box1 w0 _).grown hg1 (by simp) (by simp)
  have hs1 : w0.heap.size + 1 < w1.heap.size := by have := (hown.lt (w0.heap.size + 1) rfl).2; exact this
  have hz3 : ∀ w : World, (zeroValue 3).run Tryz.prog w = .ok (.int .i64 0) w := fun w => by kernel_rfl
  clear hown hg1 hmc hi hz0 hz1 hz2 hmm
  go_wp2
  go_loopw [8, 9, 10, 11, 16] (fun _ _ _ _ i wr => ∃ k : Nat, k ≤ n ∧ i = .int .i64 k ∧ Hid (Mp ekP evN wr w0.heap.size (numS q k).1.zipIdx) ∧ Hid (wr.ownsRow w0.heap.size 3 1 (.slice (some ⟨w0.heap.size + 1, 0, none⟩) n n) n (itC ((numS q k).2 ++ List.replicate (n - k) 0))) ∧ Hid (Below w0.heap.size w0 wr)) (fun _ _ _ _ i _ => n - (intOf i).toNat)
  case atStart => exact ⟨0, Nat.zero_le _, rfl, HMP.out, HOWN.out, HB1.out⟩
  case round =>
    obtain ⟨k, hk, rfl, HM, HO, HB⟩ := hrel
    have hw1 : w0.heap.size + 1 < wr.heap.size := (HO.out.lt (w0.heap.size + 1) rfl).2
    by_cases hlt : k < n
    · have hent := HF.out.1 (#[.int .i64 (k : Int)] ++ caps) wr
      have hcall := HF.out.2 k hlt wr HB.out
      obtain ⟨⟨pa, pb⟩, HP⟩ : ∃ y, Hid (y = q k) := ⟨_, rfl⟩
      rw [← HP.out] at hcall
      have hcall := Lib.hid hcall
      have hki : (k : Int) < n := by omega
      have hlook := Lib.hid (look_zip (numS q k).1 (pa, pb) 0)
      have hlen := Lib.hid (numS_len q k)
      have hle := Lib.hid (numS_le q k)
      have hstep : Hid (numS q (k + 1) = if (pa, pb) ∈ (numS q k).1 then ((numS q k).1, (numS q k).2 ++ [(((numS q k).1.idxOf (pa, pb) : Nat) : Int)]) else ((numS q k).1 ++ [(pa, pb)], (numS q k).2 ++ [((numS q k).1.length : Int)])) := by show _ = _; rw [numS, HP.out]
      go_wp2_with fail
      refine hcall.out.mono ?_
      rintro e w2 ⟨rfl, hb2⟩
      clear hcall hent
      have hM2 := HM.out.all hb2
      have hO2 := own_all HO.out hb2
      have hB2 := HB.out.trans (hb2.mono HB.out.size)
      have hsz2 := hb2.size
      have hs2 : w0.heap.size + 1 < w2.heap.size := by omega
      have hlk := (hM2.all (box1 w2 (.cells #[.int .i64 pa, .int .i64 pb] 149))).lookOk keyPa Tryz.underlying161 (pa, pb) (hz3 _)
      rw [hlook.out] at hlk
      have hlt2 : k < n * 1 := by omega
      have hll : (numS q k).2.length + 1 ≤ n := by rw [hlen.out]; omega
      have HB2 := Lib.hid hB2
      by_cases hin : (pa, pb) ∈ (numS q k).1
      · rw [if_pos hin] at hlk
        rw [if_pos hin] at hstep
        obtain ⟨d, HD⟩ : ∃ d, Hid (d = (numS q k).1.idxOf (pa, pb)) := ⟨_, rfl⟩
        rw [← HD.out] at hlk hstep
        simp only [Nat.zero_add, Option.map_some, Option.getD_some, Option.isSome_some, evN, ekP] at hlk
        have y0 : ∃ u, w2.cell? ⟨w0.heap.size + 1, k, none⟩ = some u := by
          rw [hO2.cellAt k hlt2]
          exact ⟨_, List.getElem?_eq_getElem (by rw [hO2.1]; exact hlt2)⟩
        obtain ⟨u, y0⟩ := y0
        have y1 := hO2.frozenAt k
        have HO3 : Hid (((w2.setCell ⟨w0.heap.size + 1, k, none⟩ (.int .i64 (d : Int))).alloc (.cells #[.int .i64 pa, .int .i64 pb] 149)).ownsRow w0.heap.size 3 1 (.slice (some ⟨w0.heap.size + 1, 0, none⟩) n n) n (itC ((numS q (k + 1)).2 ++ List.replicate (n - (k + 1)) 0))) := by
          have h1 := (hO2.stored k (.int .i64 (d : Int))).1
          rw [itC_set, show n - k = (n - (k + 1)) + 1 by omega] at h1
          have h2 := fill_set (numS q k).2 (n - (k + 1)) (d : Int)
          rw [hlen.out] at h2
          rw [h2] at h1
          rw [hstep.out]
          exact World.ownsRow.alloc h1 _
        have HM3 : Hid (Mp ekP evN ((w2.setCell ⟨w0.heap.size + 1, k, none⟩ (.int .i64 (d : Int))).alloc (.cells #[.int .i64 pa, .int .i64 pb] 149)) w0.heap.size (numS q (k + 1)).1.zipIdx) := by
          rw [hstep.out]
          exact (hM2.far (p := ⟨w0.heap.size + 1, k, none⟩) _ (by simp)).all (box1 _ _)
        have HB3 : Hid (Below w0.heap.size w0 ((w2.setCell ⟨w0.heap.size + 1, k, none⟩ (.int .i64 (d : Int))).alloc (.cells #[.int .i64 pa, .int .i64 pb] 149))) := (HB2.out.setCell (p := ⟨w0.heap.size + 1, k, none⟩) (by show _ ≤ w0.heap.size + 1; omega) _).alloc (by simp; omega) _
        clear hM2 hO2 hB2 hb2 HM HO HB hin hll
        go_wp2_with fail
        go_roundw
        case rel => exact ⟨k + 1, by omega, by go_num, HM3.out, HO3.out, HB3.out⟩
        case measure => simp [intOf]; omega
      · rw [if_neg hin] at hlk
        rw [if_neg hin] at hstep
        simp only [Option.map_none, Option.getD_none, Option.isSome_none, ekP] at hlk
        obtain ⟨w3, hrun, hM3, hg3, hz⟩ := (hM2.all (box1 w2 (.cells #[.int .i64 pa, .int .i64 pb] 149))).put keyPa Tryz.underlying161 (pa, pb) (numS q k).1.length
        rw [put_zip _ _ hin] at hM3
        have hO3 := World.ownsRow.kept (World.ownsRow.alloc hO2 (.cells #[.int .i64 pa, .int .i64 pb] 149)) hg3 (.inr (by simp [Value.ownBlock]))
        have HBB3 : Hid (Below w0.heap.size w0 w3) := (HB2.out.alloc (by omega) _).grown hg3 (by simp; omega) (by simp)
        have hM4 := hM2.all (box1 w2 (.cells #[.int .i64 pa, .int .i64 pb] 149))
        have HM4 := Lib.hid hM4
        have hs3 : w0.heap.size + 1 < w3.heap.size := by rw [hz]; simp; omega
        have y0 : ∃ u, w3.cell? ⟨w0.heap.size + 1, k, none⟩ = some u := by
          rw [hO3.cellAt k hlt2]
          exact ⟨_, List.getElem?_eq_getElem (by rw [hO3.1]; exact hlt2)⟩
        obtain ⟨u, y0⟩ := y0
        have y1 := hO3.frozenAt k
        obtain ⟨d, HD⟩ : ∃ d, Hid (d = (numS q k).1.length) := ⟨_, rfl⟩
        rw [← HD.out] at hrun hstep
        simp only [evN, ekP] at hrun
        have HO3 : Hid ((w3.setCell ⟨w0.heap.size + 1, k, none⟩ (.int .i64 (d : Int))).ownsRow w0.heap.size 3 1 (.slice (some ⟨w0.heap.size + 1, 0, none⟩) n n) n (itC ((numS q (k + 1)).2 ++ List.replicate (n - (k + 1)) 0))) := by
          have h1 := (hO3.stored k (.int .i64 (d : Int))).1
          rw [itC_set, show n - k = (n - (k + 1)) + 1 by omega] at h1
          have h2 := fill_set (numS q k).2 (n - (k + 1)) (d : Int)
          rw [hlen.out] at h2
          rw [h2] at h1
          rw [hstep.out]
          exact h1
        have HM3 : Hid (Mp ekP evN (w3.setCell ⟨w0.heap.size + 1, k, none⟩ (.int .i64 (d : Int))) w0.heap.size (numS q (k + 1)).1.zipIdx) := by
          rw [hstep.out]
          exact hM3.far (p := ⟨w0.heap.size + 1, k, none⟩) _ (by simp)
        have HB3 : Hid (Below w0.heap.size w0 (w3.setCell ⟨w0.heap.size + 1, k, none⟩ (.int .i64 (d : Int)))) := HBB3.out.setCell (p := ⟨w0.heap.size + 1, k, none⟩) (by show _ ≤ w0.heap.size + 1; omega) _
        have hDl : Hid (((numS q k).1.zipIdx.length : Int) = d) := by show _ = _; rw [List.length_zipIdx, HD.out]
        clear hM2 hO2 hB2 hb2 HM HO HB hin hll hM3 hg3 hO3 hM4 hz
        go_wp2_with (at_len; refine wpList_len_mp _ rfl _ 161 rfl 149 3 Tryz.underlying161 w0.heap.size _ rfl HM4.out ?_; rw [hDl.out])
        go_roundw
        case rel => exact ⟨k + 1, by omega, by go_num, HM3.out, HO3.out, HB3.out⟩
        case measure => simp [intOf]; omega
    · obtain rfl : k = n := by omega
      have hfin1 : Hid (r1 = (numS q k).2) := HR1.out
      have hlen := numS_len q k
      have hO := HO.out
      rw [Nat.sub_self, List.replicate_zero, List.append_nil, ← hfin1.out] at hO
      have hO := Lib.hid hO
      have hl1 : r1.length = k := by rw [hfin1.out]; exact hlen
      have HL1 := Lib.hid hl1
      clear hlen hl1 hn0
      go_wp2_with (at_len; refine wpList_len_mp _ rfl _ 161 rfl 149 3 Tryz.underlying161 w0.heap.size _ rfl HM.out ?_)
      go_ret2
      exact ⟨_, ret_num (by rw [HR2.out]), by rw [HL1.out]; exact hO.out, HB.out⟩
end Go.Proofs.YtkbileabkfccgaaGreatDoor

/- match: merged. -/
namespace Go.Proofs.YtkbileabkfccgaaGreatDoor
open Go.RowKit

/-- a table that may be -/
def Tb.Ok (t : Tb) : Prop := (∀ x ∈ t.sets, x < 33554432) ∧ t.ends < 33554432 ∧ t.to.length = t.sets.length ∧ (∀ r ∈ t.to, r.length = t.ls.length ∧ ∀ x ∈ r, -1 ≤ x ∧ x < (t.sets.length : Int)) ∧ t.sets.length ≤ 100000000 ∧ t.ls.length ≤ 100000000
def q0 (t : Tb) (i : Nat) : Int × Int := (endM t i, 0)
def toM (t : Tb) (i k : Nat) : Int := (t.to.getD i []).getD k 0
def q1 (t : Tb) (sts : List Int) (k i : Nat) : Int × Int := (sts.getD i 0, if 0 ≤ toM t i k then sts.getD (toM t i k).toNat 0 else -1)

set_option maxRecDepth 100000 in
theorem pair_ret {W : World} {b : Nat} {x y : Int} {fn : Func} {a : Act} {R : Ending → World → Prop} (s : Nat) (hf : fn.results = #[.cell s 149]) (h2 : a.tmps.getD s undef = .pointer (some ⟨b, 0, none⟩)) (hd : a.defers = [])
    (hk : Bk W b 149 #[.int .i64 x, .int .i64 y]) (hR : R (.returned (.agg #[.int .i64 x, .int .i64 y])) W) : bodyPost Tryz.prog fn R .ret a W := by
  have x0 := hk.cell 0
  have x1 := hk.cell 1
  simp at x0 x1
  refine bodyPost_ret (v := .agg #[.int .i64 x, .int .i64 y]) ?_ hd hR
  obtain ⟨tmps, defers⟩ := a
  have e2 : tmps[s]?.getD undef = .pointer (some ⟨b, 0, none⟩) := by simpa using h2
  simp [results, hf, e2, go_sem, x0, x1]

set_option maxRecDepth 100000 in
set_option maxHeartbeats 800000 in
theorem merged1_any (t : Tb) (gt i B : Nat) (p : Addr) (w : World) (h : TbR w B gt t) (hB : B ≤ w.heap.size) (hok : t.Ok) (hi : i < t.sets.length) (hp : w.cell? p = some (.pointer (some ⟨gt, 0, none⟩))) (hpb : p.block < w.heap.size) :
    Calls Tryz.prog 113 #[.int .i64 i, .pointer (some p)] w fun e w' => e = .returned (.agg #[.int .i64 (q0 t i).1, .int .i64 (q0 t i).2]) ∧ Below w.heap.size w w' := by
  have hb1 := box1 w (.cells #[.int .i64 0, .int .i64 0] 149)
  have C := Lib.hid (end_any t gt i B _ (h.below (hb1.mono hB)) hi hok.1 hok.2.1)
  obtain ⟨r, HR⟩ : ∃ r, Hid (r = endM t i) := ⟨_, rfl⟩
  unfold q0
  rw [← HR.out] at C ⊢
  clear h hok
  go_enter Tryz.func113, Tryz.ntmps113
  go_wp2_with fail
  refine C.out.mono ?_
  rintro e w1 ⟨rfl, n, rfl⟩
  clear C
  go_wp2_with fail
  refine pair_ret 3 Tryz.results113 rfl rfl (b := w.heap.size) (x := r) (y := 0) ?_ ⟨rfl, ?_⟩
  · have := (((Bk.new w 149 #[.int .i64 0, .int .i64 0]).drewN n).set 0 (.int .i64 r)).set 1 (.int .i64 0)
    simpa using this
  · exact ((beN hb1 n).setCell (p := ⟨w.heap.size, 0, none⟩) (Nat.le_refl _) _).setCell (p := ⟨w.heap.size, 1, none⟩) (Nat.le_refl _) _

set_option maxRecDepth 100000 in
set_option maxHeartbeats 1600000 in
theorem merged2_any (t : Tb) (gt i k B : Nat) (sts : List Int) (vs : Value) (p p2 p3 : Addr) (w : World) (h : TbR w B gt t) (hB : B ≤ w.heap.size) (hok : t.Ok) (hi : i < t.sets.length) (hk : k < t.ls.length)
    (hs : Is w w.heap.size vs sts) (hsl : sts.length = t.sets.length)
    (hp : w.cell? p = some (.pointer (some ⟨gt, 0, none⟩))) (hpb : p.block < w.heap.size) (hp2 : w.cell? p2 = some (.int .i64 k)) (hpb2 : p2.block < w.heap.size) (hp3 : w.cell? p3 = some vs) (hpb3 : p3.block < w.heap.size) :
    Calls Tryz.prog 114 #[.int .i64 i, .pointer (some p), .pointer (some p2), .pointer (some p3)] w fun e w' => e = .returned (.agg #[.int .i64 (q1 t sts k i).1, .int .i64 (q1 t sts k i).2]) ∧ Below w.heap.size w w' := by
  have hb1 := box1 w (.cells #[.int .i64 0, .int .i64 0] 149)
  obtain ⟨h0, g, vl, vss, vt, h1, h2, h3, h4, h5, h6, h7, h8, h9⟩ := h
  obtain ⟨A4, c4, rfl⟩ := h9.form
  obtain ⟨A5, c5, rfl⟩ := hs.form
  have hit : i < t.to.length := by rw [hok.2.2.1]; exact hi
  obtain ⟨bt, ot, st, rfl, hbt, hct, ht0, his⟩ := h9.at hit
  obtain ⟨A6, c6, rfl⟩ := his.form
  have hrow := hok.2.2.2.1 t.to[i] (List.getElem_mem hit)
  have hkr : k < t.to[i].length := by rw [hrow.1]; exact hk
  obtain ⟨br, or_, rfl, hbr, hcr, hr0⟩ := his.at hkr
  have hisl : i < sts.length := by rw [hsl]; exact hi
  obtain ⟨bs, os, rfl, hbs, hcs, hs0⟩ := hs.at hisl
  obtain ⟨x, HX⟩ : ∃ x, Hid (x = t.to[i][k]) := ⟨_, Lib.hid rfl⟩
  obtain ⟨y, HY⟩ : ∃ y, Hid (y = sts[i]) := ⟨_, Lib.hid rfl⟩
  have hxr : -1 ≤ x ∧ x < (t.sets.length : Int) := by rw [HX.out]; exact hrow.2 _ (List.getElem_mem hkr)
  rw [← HX.out] at hr0
  rw [← HY.out] at hs0
  have hq : Hid (q1 t sts k i = (y, if 0 ≤ x then sts.getD x.toNat 0 else -1)) := by
    show _ = _
    have e1 : toM t i k = x := by
      unfold toM; rw [List.getD_eq_getElem?_getD, List.getD_eq_getElem?_getD, List.getElem?_eq_getElem hit, Option.getD_some, List.getElem?_eq_getElem hkr, HX.out]; rfl
    unfold q1
    rw [e1, List.getD_eq_getElem?_getD, List.getElem?_eq_getElem hisl, HY.out]; rfl
  rw [hq.out]
  have hbtw : bt < w.heap.size := by omega
  have hbrw : br < w.heap.size := by omega
  have hgw : gt < w.heap.size := by omega
  have hitI : (i : Int) < (t.to.length : Int) := by omega
  have hkI : (k : Int) < (t.to[i].length : Int) := by omega
  have hiI : (i : Int) < (sts.length : Int) := by omega
  have hi0 : (0 : Int) ≤ i := by omega
  have hk0 : (0 : Int) ≤ k := by omega
  have hsl2 := Lib.hid hsl
  clear hok hrow hsl hq
  by_cases hx0 : 0 ≤ x
  · obtain ⟨m, rfl⟩ : ∃ m : Nat, x = m := ⟨x.toNat, by omega⟩
    rw [if_pos (by omega), Int.toNat_natCast]
    have hm : m < sts.length := by rw [hsl2.out]; omega
    obtain ⟨bs', os', hA, _, _, hs1⟩ := hs.at hm
    simp only [Option.some.injEq, Addr.mk.injEq, and_true] at hA
    obtain ⟨rfl, rfl⟩ := hA
    obtain ⟨z, HZ⟩ : ∃ z, Hid (z = sts[m]) := ⟨_, Lib.hid rfl⟩
    have hzz : Hid (sts.getD m 0 = z) := by show _ = _; rw [List.getD_eq_getElem?_getD, List.getElem?_eq_getElem hm, HZ.out]; rfl
    rw [hzz.out]
    rw [← HZ.out] at hs1
    have hmI : (m : Int) < (sts.length : Int) := by omega
    have hm0 : (0 : Int) ≤ m := by omega
    clear hx0
    go_enter Tryz.func114, Tryz.ntmps114
    go_wp2_with fail
    go_quiet (fail)
    go_wp2_with fail
    generalize hwq : (w.alloc (.cells #[.int .i64 0, .int .i64 0] 149)).drewN nq = wq
    have hcq : ∀ a : Addr, wq.cell? a = (w.alloc (.cells #[.int .i64 0, .int .i64 0] 149)).cell? a := fun a => by rw [← hwq]; rfl
    have q3 : wq.cell? p3 = some (.slice (some ⟨bs, os, none⟩) sts.length c5) := by rw [hcq]; go_simp
    have qs0 : wq.cell? ⟨bs, os + i, none⟩ = some (.int .i64 y) := by rw [hcq]; go_simp
    have qs1 : wq.cell? ⟨bs, os + m, none⟩ = some (.int .i64 z) := by rw [hcq]; go_simp
    have hbk : Bk wq w.heap.size 149 #[.int .i64 0, .int .i64 0] := by rw [← hwq]; exact (Bk.new w _ _).drewN nq
    have qr0 := hbk.cell 0
    have qr1 := hbk.cell 1
    have qf0 := hbk.frozen 0
    have qf1 := hbk.frozen 1
    have HBK := Lib.hid hbk
    have HBQ : Hid (Below w.heap.size w wq) := by show Below _ w wq; rw [← hwq]; exact beN hb1 nq
    clear hcq hwq hbk
    go_region
    all_goals
      go_wp2_with fail
      refine pair_ret 5 Tryz.results114 rfl rfl (b := w.heap.size) (x := y) (y := z) ?_ ⟨rfl, ?_⟩
      · have := ((HBK.out.set 0 (.int .i64 y)).set 1 (.int .i64 z)).drew
        simpa using this
      · exact ((HBQ.out.setCell (p := ⟨w.heap.size, 0, none⟩) (Nat.le_refl _) _).setCell (p := ⟨w.heap.size, 1, none⟩) (Nat.le_refl _) _).drew
  · rw [if_neg hx0]
    have hxn : x < 0 := by omega
    clear hx0
    go_enter Tryz.func114, Tryz.ntmps114
    go_wp2_with fail
    go_quiet (fail)
    go_wp2_with fail
    refine pair_ret 5 Tryz.results114 rfl rfl (b := w.heap.size) (x := y) (y := -1) ?_ ⟨rfl, ?_⟩
    · have := (((Bk.new w 149 #[.int .i64 0, .int .i64 0]).drewN nq).set 0 (.int .i64 y)).set 1 (.int .i64 (-1))
      simpa using this
    · exact ((beN hb1 nq).setCell (p := ⟨w.heap.size, 0, none⟩) (Nat.le_refl _) _).setCell (p := ⟨w.heap.size, 1, none⟩) (Nat.le_refl _) _
end Go.Proofs.YtkbileabkfccgaaGreatDoor
