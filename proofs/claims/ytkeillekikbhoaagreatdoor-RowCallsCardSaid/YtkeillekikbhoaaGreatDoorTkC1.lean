/- Nm, Rd, App, At0, AtJ, AtT, AtE, Tk0, TkM, TkLeft, RowS, ArgL, TkArg, TkCmp, TkSame, TkEq, merged. -/
import Derived.Test.YtkeillekikbhoaaGreatDoorProg
import Derived.Test.YtkeillekikbhoaaGreatDoorWords
import Derived.Test.YtkeillekikbhoaaGreatDoorRow
import Derived.Laws.IdiomStrings
import Derived.Lib.Hide
import Derived.WalkKit
import Derived.WalkSpells
import Derived.WalkLawsBesides
import Derived.Maps.AppendAt
import Derived.Deep.Draws
import Derived.Deep.RegionHeld3
import Derived.Deep.QuietTactic
import Derived.BigQuiet
import Derived.Deep.AppendLies
import Derived.RegionTactic
import Derived.OwnWalk
import Derived.Laws.AppendOwn
import Derived.Deep.LoopGhost
import Derived.Deep.DeepCutAuto
import Derived.Lib.SlicesMore
import Derived.Laws.StructEq
import Derived.Deep.Slices
import Derived.Deep.Fields
import Derived.SizedLaws

/- attr: names (the program's own). -/
namespace Go.Proofs.YtkeillekikbhoaaGreatDoor
open Go.RowKit

def inC (lo hi c : UInt8) : Bool := decide (lo ≤ c) && decide (c ≤ hi)
def inB (lo hi : UInt8) (l : List UInt8) : Bool := l.all (inC lo hi)
def nameB (s : ByteArray) : Bool := decide (1 ≤ s.size) && decide (s.size ≤ 16) && inB 97 122 s.data.toList

theorem ba_len (s : ByteArray) : s.data.toList.length = s.size := by rw [Array.length_toList]; rfl
theorem ba_getD (s : ByteArray) (k : Nat) (hk : k < s.data.toList.length) : s.data.toList.getD k 0 = s.data.toList[k] := by unfold List.getD; rw [List.getElem?_eq_getElem hk]; rfl
theorem inB_yes {lo hi : UInt8} {s : ByteArray} (h : ∀ j, j < s.size → inC lo hi (s.data.toList.getD j 0) = true) : inB lo hi s.data.toList = true := by
  unfold inB
  rw [List.all_eq_true]
  intro x hx
  obtain ⟨j, hj, rfl⟩ := List.mem_iff_getElem.1 hx
  have := h j (by rw [← ba_len]; exact hj)
  rwa [ba_getD s j hj] at this
theorem inB_no {lo hi : UInt8} {s : ByteArray} (k : Nat) (hk : k < s.size) (h : inC lo hi (s.data.toList.getD k 0) = false) : inB lo hi s.data.toList = false := by
  unfold inB
  rw [← Bool.not_eq_true, List.all_eq_true]
  intro hall
  have hk' : k < s.data.toList.length := by rw [ba_len]; exact hk
  rw [ba_getD s k hk', hall _ (List.getElem_mem hk')] at h
  cases h

theorem ret_bool {a b : Bool} (h : a = b) : Ending.returned (.bool a) = .returned (.bool b) := by rw [h]
theorem ret_int {k : IntKind} {a b : Int} (h : a = b) : Ending.returned (.int k a) = .returned (.int k b) := by rw [h]

/-- []byte(s): new bytes -/
theorem bytes_of (P : Program) (w : World) (src dst e : TypeId) (s : ByteArray) (hs : P.underlying src = some .string) (hd : P.underlying dst = some (.slice e)) (he : P.underlying e = some (.int .u8)) :
    ∃ c w1, (convert src dst (.string s)).run P w = .ok (.slice (some ⟨w.heap.size, 0, none⟩) s.size c) w1 ∧ Below w.heap.size w w1 ∧
      Hid (∀ j, j < s.size → w1.cell? ⟨w.heap.size, j, none⟩ = some (.int .u8 ((s.data.toList.getD j 0).toNat : Int))) := by
  refine ⟨_, _, run_bytes_of_string w src dst e s hs hd he, ((Below.refl _ _).drew).alloc (Nat.le_refl _) _, fun j hj => ?_⟩
  rw [cell_of_row _ w.heap.size _ _ e _ (heap_alloc_new w.drew _)]
  have hj' : j < s.data.size := hj
  have hj2 : s.data[j]? = some s.data[j] := Array.getElem?_eq_getElem hj'
  simp only [bytesRow, Array.getElem?_append, Array.size_map]
  rw [if_pos hj']
  simp [List.getD, hj2]

set_option maxRecDepth 100000 in
theorem within_any (s : ByteArray) (lo hi : UInt8) (w : World) (hs : s.size ≤ 1000000000000) :
    Calls Tryz.prog 148 #[.string s, .int .u8 (lo.toNat : Int), .int .u8 (hi.toNat : Int)] w fun e w' => e = .returned (.bool (inB lo hi s.data.toList)) ∧ Below w.heap.size w w' := by
  obtain ⟨c, w1, hrun, B1, HC⟩ := bytes_of Tryz.prog w 9 119 5 s Tryz.underlying9 Tryz.underlying119 Tryz.underlying5
  go_enter Tryz.func148, Tryz.ntmps148
  go_wp2
  go_loop [12] (fun i => ∃ k : Nat, k ≤ s.size ∧ i = .int .i64 k ∧ Hid (∀ j, j < k → inC lo hi (s.data.toList.getD j 0) = true)) (fun i => s.size - (intOf i).toNat)
  case atStart => exact ⟨0, Nat.zero_le _, rfl, fun j hj => by omega⟩
  case round =>
    obtain ⟨k, hk, rfl, hall⟩ := hrel
    by_cases hlt : k < s.size
    · have hc := HC.out k hlt
      obtain ⟨c, hcd⟩ : ∃ c : UInt8, Hid (c = s.data.toList.getD k 0) := ⟨_, rfl⟩
      rw [← hcd.out] at hc
      by_cases hin : lo.toNat ≤ c.toNat ∧ c.toNat ≤ hi.toNat
      · have hall' : Hid (∀ j, j < k + 1 → inC lo hi (s.data.toList.getD j 0) = true) := by
          show ∀ j, _
          intro j hj
          by_cases e : j = k
          · subst e; rw [← hcd.out]; simp [inC, UInt8.le_iff_toNat_le, hin]
          · exact hall.out j (by omega)
        have h1 : ¬ c.toNat < lo.toNat := by omega
        have h2 : ¬ hi.toNat < c.toNat := by omega
        clear hin
        go_wp2
        go_round
        case rel => exact ⟨k + 1, by omega, by go_num, hall'⟩
        case measure => simp [intOf]; omega
      · have hno : Hid (inB lo hi s.data.toList = false) := by
          show _ = _
          refine inB_no k hlt ?_
          rw [← hcd.out]
          simp [inC, UInt8.le_iff_toNat_le]
          omega
        by_cases h1 : c.toNat < lo.toNat
        · clear hin
          go_wp2
          go_ret
          exact ⟨ret_bool hno.out.symm, B1⟩
        · have h2 : hi.toNat < c.toNat := by omega
          clear hin
          go_wp2
          go_ret
          exact ⟨ret_bool hno.out.symm, B1⟩
    · have hyes : Hid (inB lo hi s.data.toList = true) := inB_yes fun j hj => hall.out j (by omega)
      go_wp2
      go_ret
      exact ⟨ret_bool hyes.out.symm, B1⟩

theorem empty_iff (s : ByteArray) : s.toList = [] ↔ s.size = 0 := by
  rw [ByteArray.toList_eq, ← ba_len, List.length_eq_zero_iff]

set_option maxRecDepth 100000 in
theorem name_any (s : ByteArray) (w : World) :
    Calls Tryz.prog 111 #[.string s] w fun e w' => e = .returned (.bool (nameB s)) ∧ Below w.heap.size w w' := by
  by_cases h1 : s.size = 0
  · have hfin : Hid (nameB s = false) := by show _ = _; unfold nameB; simp [h1]
    have h2 : s.toList = [] := (empty_iff s).2 h1
    have h3 : s.toList.isEmpty = true := by rw [h2]; rfl
    clear h1
    go_enter Tryz.func111, Tryz.ntmps111
    go_wp2
    go_ret
    exact ⟨ret_bool hfin.out.symm, Below.refl _ _⟩
  have h3 : ¬ s.toList = [] := fun h => h1 ((empty_iff s).1 h)
  have h4 : s.toList.isEmpty = false := by rw [List.isEmpty_eq_false_iff]; exact h3
  by_cases h2 : s.size ≤ 16
  · have hfin : Hid (nameB s = inB 97 122 s.data.toList) := by show _ = _; unfold nameB; simp [show 1 ≤ s.size by omega, h2]
    go_enter Tryz.func111, Tryz.ntmps111
    go_wp2_with fail
    refine (within_any s 97 122 w (by omega)).mono ?_
    rintro e w1 ⟨rfl, B1⟩
    go_wp2
    go_ret
    exact ⟨ret_bool hfin.out.symm, B1⟩
  · have hfin : Hid (nameB s = false) := by show _ = _; unfold nameB; simp [h2]
    go_enter Tryz.func111, Tryz.ntmps111
    go_wp2
    go_ret
    exact ⟨ret_bool hfin.out.symm, Below.refl _ _⟩
end Go.Proofs.YtkeillekikbhoaaGreatDoor

/- Words of our own on memory: slices whose elements have any number of cells, as they are read (Rd). Of no program. -/
namespace Go.Proofs.YtkeillekikbhoaaGreatDoor
open Go.RowKit

/-- the slice v has n elements of sz cells each, the cells cs; they lie below block B -/
def Rd (w : World) (B : Nat) (v : Value) (sz n : Nat) (cs : List Value) : Prop :=
  ∃ A cap, v = .slice A n cap ∧ cs.length = n * sz ∧ n ≤ cap ∧ cap ≤ maxLen ∧
    (n = 0 ∨ ∃ b off, A = some ⟨b, off, none⟩ ∧ b < B ∧ ∀ j u, cs[j]? = some u → w.cell? ⟨b, off + j, none⟩ = some u)

section
variable {w w' : World} {B B' : Nat} {v : Value} {sz n : Nat} {cs : List Value}
theorem Rd.keep (h : Rd w B v sz n cs) (hk : ∀ b o, b < B → w'.cell? ⟨b, o, none⟩ = w.cell? ⟨b, o, none⟩) : Rd w' B v sz n cs := by
  obtain ⟨A, cap, rfl, h0, h1, h2, h3⟩ := h
  refine ⟨A, cap, rfl, h0, h1, h2, h3.imp id ?_⟩
  rintro ⟨b, off, hA, hb, hc⟩
  exact ⟨b, off, hA, hb, fun j u hu => (hk _ _ hb).trans (hc j u hu)⟩
theorem Rd.below (h : Rd w B v sz n cs) (hb : Below B w w') : Rd w' B v sz n cs := h.keep fun b o hl => hb.cell (p := ⟨b, o, none⟩) hl
theorem Rd.mono (h : Rd w B v sz n cs) (hB : B ≤ B') : Rd w B' v sz n cs := by
  obtain ⟨A, cap, rfl, h0, h1, h2, h3⟩ := h
  refine ⟨A, cap, rfl, h0, h1, h2, h3.imp id ?_⟩
  rintro ⟨b, off, hA, hb, hc⟩
  exact ⟨b, off, hA, by omega, hc⟩
theorem Rd.drew (h : Rd w B v sz n cs) : Rd w.drew B v sz n cs := h
theorem Rd.drewN (h : Rd w B v sz n cs) (k : Nat) : Rd (w.drewN k) B v sz n cs := h
theorem Rd.alloc (h : Rd w B v sz n cs) (hB : B ≤ w.heap.size) (o : Obj) : Rd (w.alloc o) B v sz n cs := h.below ((Below.refl _ _).alloc hB _)
theorem Rd.nil (w : World) (B sz : Nat) : Rd w B (.slice none 0 0) sz 0 [] := ⟨none, 0, rfl, by simp, Nat.le_refl _, by unfold maxLen; omega, .inl rfl⟩
theorem Rd.form (h : Rd w B v sz n cs) : ∃ A cap, v = .slice A n cap := by obtain ⟨A, cap, h, _⟩ := h; exact ⟨A, cap, h⟩
theorem Rd.len (h : Rd w B v sz n cs) : cs.length = n * sz := by obtain ⟨A, cap, _, h, _⟩ := h; exact h
/-- the address, where there is an element -/
theorem Rd.at {A : Option Addr} {cap : Nat} (h : Rd w B (.slice A n cap) sz n cs) (hn : 0 < n) :
    ∃ b off, A = some ⟨b, off, none⟩ ∧ b < B ∧ n ≤ cap ∧ ∀ j u, cs[j]? = some u → w.cell? ⟨b, off + j, none⟩ = some u := by
  obtain ⟨A', cap', hv, h0, h1, h2, h3⟩ := h
  simp only [Value.slice.injEq, true_and] at hv
  obtain ⟨rfl, rfl⟩ := hv
  rcases h3 with h3 | ⟨b, off, hA, hb, hc⟩
  · omega
  · exact ⟨b, off, hA, hb, h1, hc⟩
theorem Rd.max (h : Rd w B v sz n cs) : n ≤ maxLen := by obtain ⟨A, cap, _, _, h1, h2, _⟩ := h; omega
/-- what a call owns is read -/
theorem Rd.own {e : TypeId} {base : Nat} (h : w.ownsRow base e sz v n cs) : Rd w w.heap.size v sz n cs := by
  have h0 := h
  rcases h.2 with ⟨rfl, hn⟩ | ⟨g, cap, cur, rfl, hb, hg, h1, h2, h3, h4⟩
  · subst hn
    have hl := h.1
    rw [Nat.zero_mul] at hl
    obtain rfl := List.eq_nil_of_length_eq_zero hl
    exact Rd.nil w _ _
  · refine ⟨_, cap, rfl, h.1, h1, h2, .inr ⟨g, 0, rfl, (Array.getElem?_eq_some_iff.1 hg).1, fun j u hu => ?_⟩⟩
    have := World.ownsRow.cells h0 (g := g) rfl j u hu
    rw [Addr.add_lit] at this
    exact this
end

/-! ## rows of a call's own -/
section
variable {w w' : World} {e : TypeId} {base base' sz n : Nat} {v : Value} {cs : List Value}
theorem own_all (h : w.ownsRow base e sz v n cs) (hb : Below w.heap.size w w') : w'.ownsRow base e sz v n cs :=
  World.ownsRow.kept h (row := none) ⟨hb.os, hb.tape, hb.output, hb.size, fun k hk _ => hb.block k hk⟩ (by cases v.ownBlock <;> simp)
theorem own_mono (h : w.ownsRow base e sz v n cs) (hb : base' ≤ base) : w.ownsRow base' e sz v n cs := by
  refine ⟨h.1, ?_⟩
  rcases h.2 with h2 | ⟨g, cap, cur, hv, hg, r⟩
  · exact .inl h2
  · exact .inr ⟨g, cap, cur, hv, by omega, r⟩
theorem own_form (h : w.ownsRow base e sz v n cs) : ∃ A cap, v = .slice A n cap := by
  rcases h.2 with ⟨rfl, rfl⟩ | ⟨g, cap, cur, rfl, _⟩
  · exact ⟨none, 0, rfl⟩
  · exact ⟨_, cap, rfl⟩
end

/-- the literal of a slice -/
theorem Rd.lit (w : World) (e : TypeId) (sz n : Nat) (cs : Array Value) (fr : Nat × Nat) (hn : cs.size = n * sz) (hm : n ≤ 1000000000000) :
    Rd (w.alloc (.cells cs e fr)) (w.heap.size + 1) (.slice (some ⟨w.heap.size, 0, none⟩) n n) sz n cs.toList := by
  refine ⟨_, _, rfl, by simpa using hn, Nat.le_refl _, by unfold maxLen; omega, .inr ⟨w.heap.size, 0, rfl, by omega, fun j u hu => ?_⟩⟩
  rw [cell_of_row (w.alloc (.cells cs e fr)) w.heap.size _ cs e fr (heap_alloc_new w _), ← Array.getElem?_toList, Nat.zero_add]
  exact hu

/-- block facts of a call that made memory: old cells and marks read as before -/
theorem bcell {W w1 : World} {B : Nat} (hb : Below B W w1) : (∀ b o, b < B → w1.cell? ⟨b, o, none⟩ = W.cell? ⟨b, o, none⟩) ∧ (∀ b o, b < B → w1.frozen? ⟨b, o, none⟩ = W.frozen? ⟨b, o, none⟩) :=
  ⟨fun b o h => hb.cell (p := ⟨b, o, none⟩) h, fun b o h => hb.frozen (p := ⟨b, o, none⟩) h⟩

/-! ## texts in order -/
def ltS (a b : ByteArray) : Bool := Op.bytesLess a.toList b.toList
theorem ba_toList (s : ByteArray) : s.toList = s.data.toList := ByteArray.toList_eq s
theorem bl_eq : ∀ (x y : List UInt8), Op.bytesLess x y = decide (x < y)
  | [], [] => by simp [Op.bytesLess]
  | _ :: _, [] => by simp [Op.bytesLess]
  | [], _ :: _ => by simp [Op.bytesLess]
  | a :: x, b :: y => by
    rw [Op.bytesLess, bl_eq x y]
    simp only [List.cons_lt_cons_iff]
    by_cases h1 : a < b <;> by_cases h2 : a = b <;> by_cases h3 : x < y <;> simp [h1, h2, h3]
theorem toList_inj {a b : ByteArray} (h : a.toList = b.toList) : a = b := by
  rw [ba_toList, ba_toList] at h
  cases a; cases b; congr 1
  exact Array.toList_inj.1 h
theorem ltS_iff (a b : ByteArray) : ltS a b = true ↔ a.data.toList < b.data.toList := by unfold ltS; rw [bl_eq, ba_toList, ba_toList]; simp
theorem ltS_irr (a : ByteArray) : ltS a a = false := by
  rw [← Bool.not_eq_true, ltS_iff]; exact List.lt_irrefl _
theorem ltS_trans {a b c : ByteArray} (h : ltS a b = true) (k : ltS b c = true) : ltS a c = true := by
  rw [ltS_iff] at *; exact List.lt_trans h k
theorem ltS_asymm {a b : ByteArray} (h : ltS a b = true) : ltS b a = false := by
  rw [← Bool.not_eq_true]; intro k
  have := ltS_trans h k; rw [ltS_irr] at this; cases this
theorem ltS_tri {a b : ByteArray} (h : ltS a b = false) (k : ltS b a = false) : a = b := by
  rw [← Bool.not_eq_true, ltS_iff] at *
  apply toList_inj
  rw [ba_toList, ba_toList]
  exact List.le_antisymm (List.not_lt.1 k) (List.not_lt.1 h)
theorem eqS_iff (a b : ByteArray) : (a.toList == b.toList) = true ↔ a = b := by
  constructor
  · intro h; exact toList_inj (by simpa using h)
  · rintro rfl; simp
theorem neS_iff (a b : ByteArray) : (a.toList == b.toList) = false ↔ a ≠ b := by
  rw [← Bool.not_eq_true, eqS_iff]
end Go.Proofs.YtkeillekikbhoaaGreatDoor

/- append onto a slice of the call's own, elements of any number of cells; what is appended is read (Rd), be it nil, empty or not. Of no program. -/
namespace Go.Proofs.YtkeillekikbhoaaGreatDoor
open Go.RowKit
section
variable {P : Program} (w : World)

/-- an own row's value: nil, or the head of a block with room for its elements -/
theorem own_shape {w : World} {base e size n : Nat} {v : Value} {xs : List Value} (h : w.ownsRow base e size v n xs) : (v = .slice none 0 0 ∧ n = 0) ∨ ∃ g cap, v = .slice (some ⟨g, 0, none⟩) n cap ∧ n ≤ cap := by
  rcases h.2 with ⟨hv, hn⟩ | ⟨g, cap, _, hv, _, _, hc, _⟩
  · exact .inl ⟨hv, hn⟩
  · exact .inr ⟨g, cap, hv, hc⟩
/-- nothing is appended, out of nil -/
theorem app_nothing {base e size n : Nat} {v : Value} {xs : List Value} {i : TypeInfo} (t ty : TypeId) (hown : w.ownsRow base e size v n xs) (ht : P.underlying t = some (.slice e)) (hi : P.info? e = some i) (c : Nat) :
    (Builtin.append_ #[t, t] ty #[v, .slice none 0 c]).run P w = .ok v w := by
  rcases own_shape hown with ⟨rfl, _⟩ | ⟨g, cap, rfl, hc⟩ <;>
    simp [Builtin.append_, Builtin.lenOf, Builtin.firstCells, typeInfo, sizeOf, storeCells, run_underlying ht, *]

/-- what is read, as the library's law of append asks it -/
theorem Rd.src {w : World} {B size m : Nat} {v2 : Value} {news : List Value} (h : Rd w B v2 size m news) :
    (∃ c, v2 = .slice none 0 c ∧ m = 0 ∧ news = []) ∨ ∃ ad c, v2 = .slice (some ad) m c ∧ ∀ j u, news[j]? = some u → w.cell? (ad.add j) = some u := by
  obtain ⟨A, cap, rfl, hl, _, _, hs⟩ := h
  have hnil : m = 0 → news = [] := by rintro rfl; exact List.eq_nil_of_length_eq_zero (by omega)
  match A, hs with
  | none, .inl h0 => exact .inl ⟨cap, by rw [h0], h0, hnil h0⟩
  | none, .inr ⟨_, _, h0, _⟩ => cases h0
  | some ad, .inl h0 => exact .inr ⟨ad, cap, rfl, fun j u hu => by rw [hnil h0] at hu; simp at hu⟩
  | some _, .inr ⟨b, off, rfl, _, hc⟩ => exact .inr ⟨_, cap, rfl, fun j u hu => by rw [Addr.add_lit]; exact hc j u hu⟩

theorem run_appR (base : Nat) (t ty e : TypeId) (z : Value) (size bytes : Nat) (ht : P.underlying t = some (.slice e)) (hi : (P.info? e).map (fun i => (i.zero, i.size, i.bytes)) = some (some z, size, bytes))
    (hzs : z.cells.size = size) (hsz : 0 < size)
    {v v2 : Value} {n m : Nat} {xs news : List Value} {B : Nat} (hown : w.ownsRow base e size v n xs) (hr : Rd w B v2 size m news) (h1 : ∀ u ∈ news, u.oneCell' = true)
    (h63 : n + m ≤ maxLen) (hbytes : (n + m) * bytes ≤ 140737488355328) (hbase : base ≤ w.heap.size) :
    ∃ v' w', (Builtin.append_ #[t, t] ty #[v, v2]).run P w = .ok v' w' ∧ w'.ownsRow base e size v' (n + m) (xs ++ news) ∧ w.grownBy w' v.ownBlock ∧ (v'.ownBlock = v.ownBlock ∨ v'.ownBlock = some w.heap.size) := by
  obtain ⟨i, hi0, hz, hs1, hs2⟩ := info_parts hi
  rcases hr.src with ⟨c, rfl, rfl, rfl⟩ | ⟨ad, c, rfl, hcell⟩
  · refine ⟨v, w, app_nothing w t ty hown ht hi0 c, ?_, World.grownBy.refl w _, .inl rfl⟩
    rw [Nat.add_zero, List.append_nil]; exact hown
  · obtain ⟨v', w', hrun, ho, hg, _, hb⟩ := run_append_own_at (P := P) w base t ty e i z size bytes ht hi0 hz hs1 hs2 hzs hsz v n xs hown ad m c news hr.len hcell h1 h63 hbytes hbase
    exact ⟨v', w', hrun, ho, hg, hb⟩

theorem wp_appR {o : Oper} {a : Act} {K : Act → World → Prop} {Q : Exit → Act → World → Prop} (s x : Operand) (t e : TypeId)
    (ho : o.op = .call { callee := .builtin .append, args := #[s, x], argTypes := #[t, t] })
    (z : Value) (size bytes : Nat) (ht : P.underlying t = some (.slice e)) (hi : (P.info? e).map (fun i => (i.zero, i.size, i.bytes)) = some (some z, size, bytes))
    (hzs : z.cells.size = size) (hsz : 0 < size) (base : Nat)
    {v v2 : Value} {n m : Nat} {xs news : List Value} {B : Nat} (hs : a.eval s = v) (hx : a.eval x = v2) (hown : w.ownsRow base e size v n xs) (hr : Rd w B v2 size m news) (h1 : ∀ u ∈ news, u.oneCell' = true)
    (h63 : n + m ≤ maxLen) (hbytes : (n + m) * bytes ≤ 140737488355328) (hbase : base ≤ w.heap.size)
    (h : ∀ v' w', w'.ownsRow base e size v' (n + m) (xs ++ news) → w.grownBy w' v.ownBlock → (v'.ownBlock = v.ownBlock ∨ v'.ownBlock = some w.heap.size) → K (a.put o.dst v') w') : o.wp P a w K Q := by
  obtain ⟨v', w', hrun, r1, r2, r3⟩ := run_appR (P := P) w base t o.type e z size bytes ht hi hzs hsz hown hr h1 h63 hbytes hbase
  subst hs hx
  unfold Oper.wp
  simp [execOp, ho, resolve, invoke, builtin, hrun, Result.andThen]
  exact h v' w' r1 r2 r3

theorem wpList_appR {ops : Array Oper} {rest : List Oper} {o : Oper} {a : Act} {Q : Exit → Act → World → Prop} (hgd : o.guard = none) (s x : Operand) (t e : TypeId)
    (ho : o.op = .call { callee := .builtin .append, args := #[s, x], argTypes := #[t, t] })
    (z : Value) (size bytes : Nat) (ht : P.underlying t = some (.slice e)) (hi : (P.info? e).map (fun i => (i.zero, i.size, i.bytes)) = some (some z, size, bytes))
    (hzs : z.cells.size = size) (hsz : 0 < size) (base : Nat)
    {v v2 : Value} {n m : Nat} {xs news : List Value} {B : Nat} (hs : a.eval s = v) (hx : a.eval x = v2) (hown : w.ownsRow base e size v n xs) (hr : Rd w B v2 size m news) (h1 : ∀ u ∈ news, u.oneCell' = true)
    (h63 : n + m ≤ maxLen) (hbytes : (n + m) * bytes ≤ 140737488355328) (hbase : base ≤ w.heap.size)
    (h : ∀ v' w', w'.ownsRow base e size v' (n + m) (xs ++ news) → w.grownBy w' v.ownBlock → (v'.ownBlock = v.ownBlock ∨ v'.ownBlock = some w.heap.size) → wpList P ops Q rest (a.put o.dst v') w') :
    wpList P ops Q (o :: rest) a w :=
  wpList_plain hgd fun _ hK => wp_appR w s x t e ho z size bytes ht hi hzs hsz base hs hx hown hr h1 h63 hbytes hbase fun v' w' r1 r2 r3 => hK _ _ (h v' w' r1 r2 r3)

/-- the same, within a region that draws its order -/
theorem step_appR {ops : Array Oper} {o : Oper} {a : Act} {K : Act → World → Prop} {Q : Exit → Act → World → Prop} {E : Prop} (hgd : o.guard = none) (s x : Operand) (t e : TypeId)
    (ho : o.op = .call { callee := .builtin .append, args := #[s, x], argTypes := #[t, t] })
    (z : Value) (size bytes : Nat) (ht : P.underlying t = some (.slice e)) (hi : (P.info? e).map (fun i => (i.zero, i.size, i.bytes)) = some (some z, size, bytes))
    (hzs : z.cells.size = size) (hsz : 0 < size) (base : Nat)
    {v v2 : Value} {n m : Nat} {xs news : List Value} {B : Nat} (hs : a.eval s = v) (hx : a.eval x = v2) (hown : w.ownsRow base e size v n xs) (hr : Rd w B v2 size m news) (h1 : ∀ u ∈ news, u.oneCell' = true)
    (h63 : n + m ≤ maxLen) (hbytes : (n + m) * bytes ≤ 140737488355328) (hbase : base ≤ w.heap.size)
    (h : ∀ v' w', w'.ownsRow base e size v' (n + m) (xs ++ news) → w.grownBy w' v.ownBlock → (v'.ownBlock = v.ownBlock ∨ v'.ownBlock = some w.heap.size) → K (a.put o.dst v') w') :
    if Region.wanted o (yielded ops a.tmps) = true then Oper.wp P o a w K Q else E := by
  rw [if_pos (by unfold Region.wanted; rw [hgd])]
  exact wp_appR w s x t e ho z size bytes ht hi hzs hsz base hs hx hown hr h1 h63 hbytes hbase h
end
end Go.Proofs.YtkeillekikbhoaaGreatDoor

/- attr: attributes and specs as they are read; texts and numbers in order; what Compare rests on. -/
namespace Go.Proofs.YtkeillekikbhoaaGreatDoor
open Go.RowKit

structure At where
  n : ByteArray
  v : ByteArray
structure Sp where
  n : ByteArray
  d : ByteArray
  m : Bool
def At.c (a : At) : List Value := [.string a.n, .string a.v]
def Sp.c (a : Sp) : List Value := [.string a.n, .string a.d, .bool a.m]
def At.val (a : At) : Value := .agg #[.string a.n, .string a.v]
def Sp.val (a : Sp) : Value := .agg #[.string a.n, .string a.d, .bool a.m]
theorem lt_of_ne {a b : ByteArray} (h : Op.bytesLess a.toList b.toList = false) (k : (!a.toList == b.toList) = true) : ltS b a = true := by
  by_cases e : ltS b a = true
  · exact e
  · have e1 := ltS_tri (a := a) (b := b) h (by simpa using e)
    subst e1
    simp at k
def cmpS (a b : ByteArray) : Int := if ltS a b then -1 else if ltS b a then 1 else 0
def cmpI (a b : Int) : Int := if a < b then -1 else if b < a then 1 else 0

set_option maxRecDepth 100000 in
theorem cmpNanS_any (a : ByteArray) (w : World) : Calls Tryz.prog 128 #[.string a] w fun e w' => e = .returned (.bool false) ∧ w = w' := by
  go_enter Tryz.func128, Tryz.ntmps128
  go_wp2
  go_ret
  exact ⟨by simp, rfl⟩
set_option maxRecDepth 100000 in
theorem cmpNanI_any (a : Int) (w : World) : Calls Tryz.prog 129 #[.int .i64 a] w fun e w' => e = .returned (.bool false) ∧ w = w' := by
  go_enter Tryz.func129, Tryz.ntmps129
  go_wp2
  go_ret
  exact ⟨by simp, rfl⟩
set_option maxRecDepth 100000 in
theorem cmpS_any (a b : ByteArray) (w : World) : Calls Tryz.prog 82 #[.string a, .string b] w fun e w' => e = .returned (.int .i64 (cmpS a b)) ∧ w = w' := by
  go_enter Tryz.func82, Tryz.ntmps82
  go_wp2_with fail
  refine (cmpNanS_any _ _).mono ?_
  rintro e w1 ⟨rfl, rfl⟩
  go_wp2_with fail
  refine (cmpNanS_any _ _).mono ?_
  rintro e w1 ⟨rfl, rfl⟩
  go_wp2
  · rename_i h
    go_ret
    exact ⟨ret_int (by simp [cmpS, ltS, h]), rfl⟩
  · rename_i k
    have h : Op.bytesLess a.toList b.toList = false := by assumption
    go_ret
    exact ⟨ret_int (by unfold cmpS ltS; rw [if_neg (by simp [h]), if_pos]; simpa [ltS] using lt_of_ne h k), rfl⟩
  · rename_i h k
    have e : a = b := (eqS_iff a b).1 (by simpa using k)
    subst e
    go_ret
    exact ⟨ret_int (by simp [cmpS, ltS_irr]), rfl⟩

set_option maxRecDepth 100000 in
theorem cmpI_any (a b : Int) (w : World) : Calls Tryz.prog 83 #[.int .i64 a, .int .i64 b] w fun e w' => e = .returned (.int .i64 (cmpI a b)) ∧ w = w' := by
  go_enter Tryz.func83, Tryz.ntmps83
  go_wp2_with fail
  refine (cmpNanI_any _ _).mono ?_
  rintro e w1 ⟨rfl, rfl⟩
  go_wp2_with fail
  refine (cmpNanI_any _ _).mono ?_
  rintro e w1 ⟨rfl, rfl⟩
  go_wp2
  · rename_i h
    go_ret
    exact ⟨ret_int (by simp [cmpI, h]), rfl⟩
  · rename_i h k
    go_ret
    exact ⟨ret_int (by unfold cmpI; rw [if_neg (by omega), if_pos (by omega)]), rfl⟩
  · rename_i h k
    go_ret
    exact ⟨ret_int (by unfold cmpI; rw [if_neg (by omega), if_neg (by omega)]), rfl⟩
def atC (l : List At) : List Value := l.flatMap At.c
def spC (l : List Sp) : List Value := l.flatMap Sp.c
theorem atC_len (l : List At) : (atC l).length = l.length * 2 := by
  unfold atC; induction l with
  | nil => rfl
  | cons a l ih => simp only [List.flatMap_cons, List.length_append, List.length_cons, ih, At.c, List.length_nil]; omega
theorem spC_len (l : List Sp) : (spC l).length = l.length * 3 := by
  unfold spC; induction l with
  | nil => rfl
  | cons a l ih => simp only [List.flatMap_cons, List.length_append, List.length_cons, ih, Sp.c, List.length_nil]; omega
theorem atC_app (l m : List At) : atC (l ++ m) = atC l ++ atC m := by simp [atC]
theorem spC_app (l m : List Sp) : spC (l ++ m) = spC l ++ spC m := by simp [spC]
theorem atC_one (l : List At) : ∀ u ∈ atC l, u.oneCell' = true := by
  intro u hu
  simp only [atC, At.c, List.mem_flatMap] at hu
  obtain ⟨a, _, h⟩ := hu
  simp at h
  rcases h with rfl | rfl <;> rfl
theorem atC_get (l : List At) (k : Nat) (hk : k < l.length) : (atC l)[k * 2]? = some (.string l[k].n) ∧ (atC l)[k * 2 + 1]? = some (.string l[k].v) := by
  unfold atC
  induction l generalizing k with
  | nil => simp at hk
  | cons a l ih =>
    cases k with
    | zero => simp [At.c]
    | succ k =>
      have := ih k (by simpa using hk)
      simp only [List.flatMap_cons, At.c, List.cons_append, List.nil_append, List.getElem_cons_succ]
      rw [show (k + 1) * 2 = k * 2 + 1 + 1 by omega]
      simpa using this
theorem spC_get (l : List Sp) (k : Nat) (hk : k < l.length) : (spC l)[k * 3]? = some (.string l[k].n) ∧ (spC l)[k * 3 + 1]? = some (.string l[k].d) ∧ (spC l)[k * 3 + 2]? = some (.bool l[k].m) := by
  unfold spC
  induction l generalizing k with
  | nil => simp at hk
  | cons a l ih =>
    cases k with
    | zero => simp [Sp.c]
    | succ k =>
      have := ih k (by simpa using hk)
      simp only [List.flatMap_cons, Sp.c, List.cons_append, List.nil_append, List.getElem_cons_succ]
      rw [show (k + 1) * 3 = k * 3 + 1 + 1 + 1 by omega]
      simpa [Nat.add_assoc] using this

def Ats (w : World) (B : Nat) (v : Value) (l : List At) : Prop := Rd w B v 2 l.length (atC l)
def Sps (w : World) (B : Nat) (v : Value) (l : List Sp) : Prop := Rd w B v 3 l.length (spC l)
section
variable {w w' : World} {B B' : Nat} {v : Value} {l : List At} {s : List Sp}
theorem Ats.below (h : Ats w B v l) (hb : Below B w w') : Ats w' B v l := Rd.below h hb
theorem Sps.below (h : Sps w B v s) (hb : Below B w w') : Sps w' B v s := Rd.below h hb
theorem Ats.mono (h : Ats w B v l) (hb : B ≤ B') : Ats w B' v l := Rd.mono h hb
theorem Sps.mono (h : Sps w B v s) (hb : B ≤ B') : Sps w B' v s := Rd.mono h hb
theorem Ats.form (h : Ats w B v l) : ∃ A cap, v = .slice A l.length cap := Rd.form h
theorem Sps.form (h : Sps w B v s) : ∃ A cap, v = .slice A s.length cap := Rd.form h
theorem Ats.max (h : Ats w B v l) : l.length ≤ maxLen := Rd.max h
theorem Sps.max (h : Sps w B v s) : s.length ≤ maxLen := Rd.max h
theorem Ats.nil (w : World) (B : Nat) : Ats w B (.slice none 0 0) [] := Rd.nil w B 2
theorem Sps.nil (w : World) (B : Nat) : Sps w B (.slice none 0 0) [] := Rd.nil w B 3
theorem Ats.at {A : Option Addr} {cap k : Nat} (h : Ats w B (.slice A l.length cap) l) (hk : k < l.length) :
    ∃ b off, A = some ⟨b, off, none⟩ ∧ b < B ∧ l.length ≤ cap ∧ w.cell? ⟨b, off + k * 2, none⟩ = some (.string l[k].n) ∧ w.cell? ⟨b, off + k * 2 + 1, none⟩ = some (.string l[k].v) := by
  obtain ⟨b, off, rfl, hb, hcap, hc⟩ := Rd.at h (by omega)
  exact ⟨b, off, rfl, hb, hcap, hc _ _ (atC_get l k hk).1, by rw [Nat.add_assoc]; exact hc _ _ (atC_get l k hk).2⟩
theorem Sps.at {A : Option Addr} {cap k : Nat} (h : Sps w B (.slice A s.length cap) s) (hk : k < s.length) :
    ∃ b off, A = some ⟨b, off, none⟩ ∧ b < B ∧ s.length ≤ cap ∧ w.cell? ⟨b, off + k * 3, none⟩ = some (.string s[k].n) ∧ w.cell? ⟨b, off + k * 3 + 1, none⟩ = some (.string s[k].d) ∧ w.cell? ⟨b, off + k * 3 + 1 + 1, none⟩ = some (.bool s[k].m) := by
  obtain ⟨b, off, rfl, hb, hcap, hc⟩ := Rd.at h (by omega)
  refine ⟨b, off, rfl, hb, hcap, hc _ _ (spC_get s k hk).1, ?_, ?_⟩
  · rw [Nat.add_assoc]; exact hc _ _ (spC_get s k hk).2.1
  · rw [Nat.add_assoc, Nat.add_assoc]; exact hc _ _ (spC_get s k hk).2.2
theorem Ats.own {e : TypeId} {base : Nat} (h : w.ownsRow base e 2 v l.length (atC l)) : Ats w w.heap.size v l := Rd.own h
end

def At.z : At := ⟨.empty, .empty⟩
def gA (l : List At) (k : Nat) : At := l.getD k At.z
theorem gA_get (l : List At) (k : Nat) (hk : k < l.length) : gA l k = l[k] := by unfold gA List.getD; rw [List.getElem?_eq_getElem hk]; rfl
theorem blN {B : Nat} {a w : World} (h : Below B a w) (n : Nat) : Below B a (w.drewN n) := ⟨h.os, h.tape, h.output, h.size, h.block⟩

def orP : List Int → Int
  | [] => 0
  | a :: l => if a = 0 then orP l else a
theorem orP_zero (l : List Int) (h : ∀ a ∈ l, a = 0) : orP l = 0 := by
  induction l with
  | nil => rfl
  | cons a l ih => simp only [orP]; rw [if_pos (h a (by simp))]; exact ih fun b hb => h b (by simp [hb])
theorem orP_at (l : List Int) (k : Nat) (hk : k < l.length) (h0 : l[k] ≠ 0) (h : ∀ j (hj : j < l.length), j < k → l[j] = 0) : orP l = l[k] := by
  induction l generalizing k with
  | nil => simp at hk
  | cons a l ih =>
    cases k with
    | zero => simp only [orP, List.getElem_cons_zero] at *; rw [if_neg h0]
    | succ k =>
      have ha : a = 0 := h 0 (by simp) (by omega)
      simp only [orP, List.getElem_cons_succ] at *
      rw [if_pos ha]
      exact ih k (by simpa using hk) h0 fun j hj hjk => by have := h (j + 1) (by simpa using hj) (by omega); simpa using this
theorem orP_app (l m : List Int) : orP (l ++ m) = if orP l = 0 then orP m else orP l := by
  induction l with
  | nil => simp [orP]
  | cons a l ih =>
    by_cases h : a = 0
    · have e1 : ∀ x, orP (a :: x) = orP x := fun x => by simp [orP, h]
      rw [List.cons_append, e1, e1, ih]
    · have e1 : ∀ x, orP (a :: x) = a := fun x => by simp [orP, h]
      rw [List.cons_append, e1, e1, if_neg h]
def inC64 (l : List Int) : List Value := l.map (Value.int .i64)

set_option maxRecDepth 100000 in
theorem orI_any (v : Value) (l : List Int) (B : Nat) (w : World) (hv : Rd w B v 1 l.length (inC64 l)) :
    Calls Tryz.prog 84 #[v] w fun e w' => e = .returned (.int .i64 (orP l)) ∧ w = w' := by
  obtain ⟨A, cap, rfl⟩ := hv.form
  have hm := hv.max
  unfold maxLen at hm
  go_enter Tryz.func84, Tryz.ntmps84
  go_wp2
  go_loop [8] (fun i => ∃ k : Nat, k ≤ l.length ∧ i = .int .i64 k ∧ Hid (∀ j (hj : j < l.length), j < k → l[j] = 0)) (fun i => l.length - (intOf i).toNat)
  case atStart => exact ⟨0, Nat.zero_le _, rfl, fun j _ hj => by omega⟩
  case round =>
    obtain ⟨k, hk, rfl, hall⟩ := hrel
    by_cases hlt : k < l.length
    · obtain ⟨b, off, rfl, hbB, hcap, hc⟩ := Rd.at hv (by omega)
      have hc0 := hc k _ (by simp [inC64, hlt]; rfl)
      clear hc
      obtain ⟨x, hx⟩ : ∃ x, Hid (x = l[k]) := ⟨l[k], rfl⟩
      rw [← hx.out] at hc0
      by_cases h0 : x = 0
      · have hall' : Hid (∀ j (hj : j < l.length), j < k + 1 → l[j] = 0) := by
          show ∀ j, _
          intro j hj hjk
          by_cases e : j = k
          · subst e; rw [← hx.out]; exact h0
          · exact hall.out j hj (by omega)
        subst h0
        go_wp2
        go_round
        case rel => exact ⟨k + 1, by omega, by go_num, hall'⟩
        case measure => simp [intOf]; omega
      · have hfin : Hid (orP l = x) := by
          show _ = _
          rw [hx.out] at h0 ⊢
          exact orP_at l k hlt h0 hall.out
        have h0' : (x != 0) = true := by rw [bne_iff_ne]; exact h0
        go_wp2
        go_ret
        exact ⟨ret_int hfin.out.symm, rfl⟩
    · have hfin : Hid (orP l = 0) := orP_zero l fun a ha => by
        obtain ⟨j, hj, rfl⟩ := List.mem_iff_getElem.1 ha
        exact hall.out j hj (by omega)
      go_wp2
      go_ret
      exact ⟨ret_int hfin.out.symm, rfl⟩

theorem own_drewN {w : World} {e : TypeId} {base sz n : Nat} {v : Value} {cs : List Value} (h : w.ownsRow base e sz v n cs) (k : Nat) : (w.drewN k).ownsRow base e sz v n cs := h
theorem or2 (a b : Int) : orP [a, b] = if a = 0 then b else a := by
  unfold orP
  by_cases h : a = 0
  · rw [if_pos h, if_pos h]; simp [orP]; intro h; exact h.symm
  · rw [if_neg h, if_neg h]
end Go.Proofs.YtkeillekikbhoaaGreatDoor

/- attr: Compare. -/
namespace Go.Proofs.YtkeillekikbhoaaGreatDoor
open Go.RowKit

theorem infoI : (Tryz.prog.info? 3).map (fun i => (i.zero, i.size, i.bytes)) = some (some (.int .i64 0), 1, 8) := by kernel_rfl
def ReachA (n : Nat) : Prop := n ≤ 4398046511104
def sgn (l m : List At) (j : Nat) : List Int := [cmpS (gA l j).n (gA m j).n, cmpS (gA l j).v (gA m j).v]
def sgns (l m : List At) (k : Nat) : List Int := (List.range k).flatMap (sgn l m)
def cmpG (l m : List At) : Int := orP (sgns l m (min l.length m.length) ++ [cmpI l.length m.length])
theorem sgns_succ (l m : List At) (k : Nat) : sgns l m (k + 1) = sgns l m k ++ sgn l m k := by unfold sgns; rw [List.range_succ]; simp
theorem sgns_len (l m : List At) (k : Nat) : (sgns l m k).length = 2 * k := by
  induction k with
  | zero => rfl
  | succ k ih => rw [sgns_succ, List.length_append, ih]; simp [sgn]; omega
theorem inC64_app (l m : List Int) : inC64 (l ++ m) = inC64 l ++ inC64 m := by simp [inC64]
theorem inC64_len (l : List Int) : (inC64 l).length = l.length := by simp [inC64]

set_option maxRecDepth 100000 in
set_option maxHeartbeats 4000000 in
theorem compare_a (va vb : Value) (l m : List At) (B : Nat) (w : World) (hl : Ats w B va l) (hm : Ats w B vb m) (hB : B ≤ w.heap.size) (hr : ReachA l.length) (hr2 : ReachA m.length) (hlm : m.length < l.length) :
    Calls Tryz.prog 58 #[va, vb] w fun e w' => e = .returned (.int .i64 (cmpG l m)) ∧ Below w.heap.size w w' := by
  obtain ⟨Al, cl, rfl⟩ := hl.form
  obtain ⟨Am, cm, rfl⟩ := hm.form
  unfold ReachA at hr hr2
  have hnl : m.length ≤ l.length := by omega
  have hnm : m.length ≤ m.length := by omega
  have hn : Hid (m.length = min l.length m.length) := by show _ = _; omega
  go_enter Tryz.func58, Tryz.ntmps58
  go_wp2
  go_loopg [5, 12] m.length (fun g s5 s12 wr => ∃ k : Nat, k ≤ m.length ∧ g = m.length - k ∧ s12 = .int .i64 k ∧ Hid (wr.ownsRow w.heap.size 3 1 s5 (2 * k) (inC64 (sgns l m k))) ∧ Below w.heap.size w wr)
  case atStart => exact ⟨0, Nat.zero_le _, by omega, rfl, World.ownsRow_nil w _ _ 1, Below.refl _ _⟩
  case round =>
    obtain ⟨k, hk, hg, rfl, ho, hb⟩ := hrel
    have HG := Lib.hid hg
    clear hg
    have hsz := hb.size
    by_cases hlt : k < m.length
    · obtain ⟨bl, offl, rfl, hblB, hcll, hl0, hl1⟩ := (hl.below (hb.mono hB)).at (k := k) (by omega)
      obtain ⟨bm, offm, rfl, hbmB, hcmm, hm0, hm1⟩ := (hm.below (hb.mono hB)).at (k := k) (by omega)
      have hbl : bl < wr.heap.size := by omega
      have hbm : bm < wr.heap.size := by omega
      have e1 : Hid (sgn l m k = [cmpS l[k].n m[k].n, cmpS l[k].v m[k].v]) := by show _ = _; unfold sgn; rw [gA_get l k (by omega), gA_get m k (by omega)]
      have hi1 : (k : Int) < (l.length : Int) := by omega
      have hi2 : (k : Int) < (m.length : Int) := by omega
      have hi0 : (0 : Int) ≤ (k : Int) := by omega
      have hne1 : some bl ≠ u5.ownBlock := fun h => by have := (ho.out.lt bl h.symm).1; omega
      have hne2 : some bm ≠ u5.ownBlock := fun h => by have := (ho.out.lt bm h.symm).1; omega
      have o1 := Lib.hid ((World.ownsRow.alloc (w := wr.drew) ho.out (.cells #[.int .i64 (cmpS l[k].n m[k].n), .int .i64 (cmpS l[k].v m[k].v)] 3)))
      generalize l[k].n = ln at *
      generalize l[k].v = lv at *
      generalize m[k].n = mn at *
      generalize m[k].v = mv at *
      have hl0' : wr.drew.cell? ⟨bl, offl + k * 2, none⟩ = some (.string ln) := hl0
      have hl1' : wr.drew.cell? ⟨bl, offl + k * 2 + 1, none⟩ = some (.string lv) := hl1
      have hm0' : wr.drew.cell? ⟨bm, offm + k * 2, none⟩ = some (.string mn) := hm0
      have hm1' : wr.drew.cell? ⟨bm, offm + k * 2 + 1, none⟩ = some (.string mv) := hm1
      have hl0a : (wr.alloc (.cells #[.int .i64 (cmpS ln mn), .int .i64 (cmpS lv mv)] 3)).drew.cell? ⟨bl, offl + k * 2, none⟩ = some (.string ln) := by go_simp
      have hl1a : (wr.alloc (.cells #[.int .i64 (cmpS ln mn), .int .i64 (cmpS lv mv)] 3)).drew.cell? ⟨bl, offl + k * 2 + 1, none⟩ = some (.string lv) := by go_simp
      have hm0a : (wr.alloc (.cells #[.int .i64 (cmpS ln mn), .int .i64 (cmpS lv mv)] 3)).drew.cell? ⟨bm, offm + k * 2, none⟩ = some (.string mn) := by go_simp
      have hm1a : (wr.alloc (.cells #[.int .i64 (cmpS ln mn), .int .i64 (cmpS lv mv)] 3)).drew.cell? ⟨bm, offm + k * 2 + 1, none⟩ = some (.string mv) := by go_simp
      go_wp2_with fail
      go_region_held3 (fun w' => w'.cell? ⟨bl, offl + k * 2, none⟩ = some (.string ln) ∧ w'.cell? ⟨bl, offl + k * 2 + 1, none⟩ = some (.string lv) ∧ w'.cell? ⟨bm, offm + k * 2, none⟩ = some (.string mn) ∧ w'.cell? ⟨bm, offm + k * 2 + 1, none⟩ = some (.string mv))
        (first
          | exact ⟨hl0', hl1', hm0', hm1'⟩
          | exact ⟨hl0a, hl1a, hm0a, hm1a⟩
          | exact ⟨(hg3.cell_far ⟨bl, offl + k * 2, none⟩ (by simp; omega) hne1).trans hl0a, (hg3.cell_far ⟨bl, offl + k * 2 + 1, none⟩ (by simp; omega) hne1).trans hl1a, (hg3.cell_far ⟨bm, offm + k * 2, none⟩ (by simp; omega) hne2).trans hm0a, (hg3.cell_far ⟨bm, offm + k * 2 + 1, none⟩ (by simp; omega) hne2).trans hm1a⟩)
        (first
          | (go_at_call 82; refine (cmpS_any _ _ _).mono ?_; rintro e w' ⟨rfl, rfl⟩)
          | (refine step_appR _ (by rfl) (.tmp 15) (.tmp 38) 129 3 (by rfl) _ 1 8 Tryz.underlying129 infoI (by rfl) (by decide) w.heap.size (by rfl) (by rfl) o1.out (Rd.lit wr.drew 3 1 2 #[.int .i64 (cmpS ln mn), .int .i64 (cmpS lv mv)] (0, 0) rfl (by omega)) (by simp [Value.oneCell']) (by unfold maxLen; omega) (by omega) (by simp; omega) ?_; intro v' w3 hown' hg3 hat))
      have hb4 : Below w.heap.size w w3 := ((hb.drew).alloc hsz _).grown hg3 (by simp; omega) fun g hg => (ho.out.lt g hg).1
      have hown2 : Hid (w3.ownsRow w.heap.size 3 1 v' (2 * (k + 1)) (inC64 (sgns l m (k + 1)))) := by
        show World.ownsRow _ _ _ _ _ _ _
        rw [sgns_succ, inC64_app, e1.out, show 2 * (k + 1) = 2 * k + 2 by omega]
        exact hown'
      clear hg3 hat hown' o1 hl0a hl1a hm0a hm1a hl0' hl1' hm0' hm1'
      go_wp2
      go_roundg (m.length - (k + 1))
      case measure => have := HG.out; omega
      case rel => exact ⟨k + 1, by omega, rfl, by go_num, hown2, hb4⟩
    · have e : k = m.length := by omega
      subst e
      have hlen : (sgns l m m.length ++ [cmpI l.length m.length]).length = 2 * m.length + 1 := by rw [List.length_append, sgns_len]; rfl
      have HLN := Lib.hid hlen
      have hf : Hid (cmpG l m = orP (sgns l m m.length ++ [cmpI l.length m.length])) := by show _ = _; unfold cmpG; rw [← hn.out]
      clear hlen
      go_wp2_with fail
      refine (cmpI_any _ _ _).mono ?_
      rintro e w1 ⟨rfl, rfl⟩
      go_wp2_with (at_builtin; refine wpList_appR _ rfl (.tmp 41) (.tmp 47) 129 3 rfl _ 1 8 Tryz.underlying129 infoI rfl (by decide) w.heap.size rfl rfl (World.ownsRow.alloc ho.out _) (Rd.lit wr 3 1 1 #[.int .i64 (cmpI l.length m.length)] (0, 0) rfl (by omega)) ?_ ?_ ?_ ?_ ?_)
      · exact rfl
      · unfold maxLen; omega
      · omega
      · simp; omega
      intro v' w3 hown' hg3 hat
      have hb4 : Below w.heap.size w w3 := (hb.alloc hsz _).grown hg3 (by simp; omega) fun g hg => (ho.out.lt g hg).1
      have hrd : Hid (Rd w3 w3.heap.size v' 1 (sgns l m m.length ++ [cmpI l.length m.length]).length (inC64 (sgns l m m.length ++ [cmpI l.length m.length]))) := by
        show Rd _ _ _ _ _ _
        rw [HLN.out, inC64_app]
        exact Rd.own (e := 3) (base := w.heap.size) hown'
      clear hg3 hat hown' ho
      go_wp2_with fail
      refine (orI_any _ _ _ w3 hrd.out).mono ?_
      rintro e w4 ⟨rfl, rfl⟩
      go_wp2
      go_ret
      exact ⟨ret_int hf.out.symm, hb4⟩

set_option maxRecDepth 100000 in
set_option maxHeartbeats 4000000 in
theorem compare_b (va vb : Value) (l m : List At) (B : Nat) (w : World) (hl : Ats w B va l) (hm : Ats w B vb m) (hB : B ≤ w.heap.size) (hr : ReachA l.length) (hr2 : ReachA m.length) (hlm : ¬ m.length < l.length) :
    Calls Tryz.prog 58 #[va, vb] w fun e w' => e = .returned (.int .i64 (cmpG l m)) ∧ Below w.heap.size w w' := by
  obtain ⟨Al, cl, rfl⟩ := hl.form
  obtain ⟨Am, cm, rfl⟩ := hm.form
  unfold ReachA at hr hr2
  have hnl : l.length ≤ l.length := by omega
  have hnm : l.length ≤ m.length := by omega
  have hn : Hid (l.length = min l.length m.length) := by show _ = _; omega
  go_enter Tryz.func58, Tryz.ntmps58
  go_wp2
  go_loopg [5, 12] l.length (fun g s5 s12 wr => ∃ k : Nat, k ≤ l.length ∧ g = l.length - k ∧ s12 = .int .i64 k ∧ Hid (wr.ownsRow w.heap.size 3 1 s5 (2 * k) (inC64 (sgns l m k))) ∧ Below w.heap.size w wr)
  case atStart => exact ⟨0, Nat.zero_le _, by omega, rfl, World.ownsRow_nil w _ _ 1, Below.refl _ _⟩
  case round =>
    obtain ⟨k, hk, hg, rfl, ho, hb⟩ := hrel
    have HG := Lib.hid hg
    clear hg
    have hsz := hb.size
    by_cases hlt : k < l.length
    · obtain ⟨bl, offl, rfl, hblB, hcll, hl0, hl1⟩ := (hl.below (hb.mono hB)).at (k := k) (by omega)
      obtain ⟨bm, offm, rfl, hbmB, hcmm, hm0, hm1⟩ := (hm.below (hb.mono hB)).at (k := k) (by omega)
      have hbl : bl < wr.heap.size := by omega
      have hbm : bm < wr.heap.size := by omega
      have e1 : Hid (sgn l m k = [cmpS l[k].n m[k].n, cmpS l[k].v m[k].v]) := by show _ = _; unfold sgn; rw [gA_get l k (by omega), gA_get m k (by omega)]
      have hi1 : (k : Int) < (l.length : Int) := by omega
      have hi2 : (k : Int) < (m.length : Int) := by omega
      have hi0 : (0 : Int) ≤ (k : Int) := by omega
      have hne1 : some bl ≠ u5.ownBlock := fun h => by have := (ho.out.lt bl h.symm).1; omega
      have hne2 : some bm ≠ u5.ownBlock := fun h => by have := (ho.out.lt bm h.symm).1; omega
      have o1 := Lib.hid ((World.ownsRow.alloc (w := wr.drew) ho.out (.cells #[.int .i64 (cmpS l[k].n m[k].n), .int .i64 (cmpS l[k].v m[k].v)] 3)))
      generalize l[k].n = ln at *
      generalize l[k].v = lv at *
      generalize m[k].n = mn at *
      generalize m[k].v = mv at *
      have hl0' : wr.drew.cell? ⟨bl, offl + k * 2, none⟩ = some (.string ln) := hl0
      have hl1' : wr.drew.cell? ⟨bl, offl + k * 2 + 1, none⟩ = some (.string lv) := hl1
      have hm0' : wr.drew.cell? ⟨bm, offm + k * 2, none⟩ = some (.string mn) := hm0
      have hm1' : wr.drew.cell? ⟨bm, offm + k * 2 + 1, none⟩ = some (.string mv) := hm1
      have hl0a : (wr.alloc (.cells #[.int .i64 (cmpS ln mn), .int .i64 (cmpS lv mv)] 3)).drew.cell? ⟨bl, offl + k * 2, none⟩ = some (.string ln) := by go_simp
      have hl1a : (wr.alloc (.cells #[.int .i64 (cmpS ln mn), .int .i64 (cmpS lv mv)] 3)).drew.cell? ⟨bl, offl + k * 2 + 1, none⟩ = some (.string lv) := by go_simp
      have hm0a : (wr.alloc (.cells #[.int .i64 (cmpS ln mn), .int .i64 (cmpS lv mv)] 3)).drew.cell? ⟨bm, offm + k * 2, none⟩ = some (.string mn) := by go_simp
      have hm1a : (wr.alloc (.cells #[.int .i64 (cmpS ln mn), .int .i64 (cmpS lv mv)] 3)).drew.cell? ⟨bm, offm + k * 2 + 1, none⟩ = some (.string mv) := by go_simp
      go_wp2_with fail
      go_region_held3 (fun w' => w'.cell? ⟨bl, offl + k * 2, none⟩ = some (.string ln) ∧ w'.cell? ⟨bl, offl + k * 2 + 1, none⟩ = some (.string lv) ∧ w'.cell? ⟨bm, offm + k * 2, none⟩ = some (.string mn) ∧ w'.cell? ⟨bm, offm + k * 2 + 1, none⟩ = some (.string mv))
        (first
          | exact ⟨hl0', hl1', hm0', hm1'⟩
          | exact ⟨hl0a, hl1a, hm0a, hm1a⟩
          | exact ⟨(hg3.cell_far ⟨bl, offl + k * 2, none⟩ (by simp; omega) hne1).trans hl0a, (hg3.cell_far ⟨bl, offl + k * 2 + 1, none⟩ (by simp; omega) hne1).trans hl1a, (hg3.cell_far ⟨bm, offm + k * 2, none⟩ (by simp; omega) hne2).trans hm0a, (hg3.cell_far ⟨bm, offm + k * 2 + 1, none⟩ (by simp; omega) hne2).trans hm1a⟩)
        (first
          | (go_at_call 82; refine (cmpS_any _ _ _).mono ?_; rintro e w' ⟨rfl, rfl⟩)
          | (refine step_appR _ (by rfl) (.tmp 15) (.tmp 38) 129 3 (by rfl) _ 1 8 Tryz.underlying129 infoI (by rfl) (by decide) w.heap.size (by rfl) (by rfl) o1.out (Rd.lit wr.drew 3 1 2 #[.int .i64 (cmpS ln mn), .int .i64 (cmpS lv mv)] (0, 0) rfl (by omega)) (by simp [Value.oneCell']) (by unfold maxLen; omega) (by omega) (by simp; omega) ?_; intro v' w3 hown' hg3 hat))
      have hb4 : Below w.heap.size w w3 := ((hb.drew).alloc hsz _).grown hg3 (by simp; omega) fun g hg => (ho.out.lt g hg).1
      have hown2 : Hid (w3.ownsRow w.heap.size 3 1 v' (2 * (k + 1)) (inC64 (sgns l m (k + 1)))) := by
        show World.ownsRow _ _ _ _ _ _ _
        rw [sgns_succ, inC64_app, e1.out, show 2 * (k + 1) = 2 * k + 2 by omega]
        exact hown'
      clear hg3 hat hown' o1 hl0a hl1a hm0a hm1a hl0' hl1' hm0' hm1'
      go_wp2
      go_roundg (l.length - (k + 1))
      case measure => have := HG.out; omega
      case rel => exact ⟨k + 1, by omega, rfl, by go_num, hown2, hb4⟩
    · have e : k = l.length := by omega
      subst e
      have hlen : (sgns l m l.length ++ [cmpI l.length m.length]).length = 2 * l.length + 1 := by rw [List.length_append, sgns_len]; rfl
      have HLN := Lib.hid hlen
      have hf : Hid (cmpG l m = orP (sgns l m l.length ++ [cmpI l.length m.length])) := by show _ = _; unfold cmpG; rw [← hn.out]
      clear hlen
      go_wp2_with fail
      refine (cmpI_any _ _ _).mono ?_
      rintro e w1 ⟨rfl, rfl⟩
      go_wp2_with (at_builtin; refine wpList_appR _ rfl (.tmp 41) (.tmp 47) 129 3 rfl _ 1 8 Tryz.underlying129 infoI rfl (by decide) w.heap.size rfl rfl (World.ownsRow.alloc ho.out _) (Rd.lit wr 3 1 1 #[.int .i64 (cmpI l.length m.length)] (0, 0) rfl (by omega)) ?_ ?_ ?_ ?_ ?_)
      · exact rfl
      · unfold maxLen; omega
      · omega
      · simp; omega
      intro v' w3 hown' hg3 hat
      have hb4 : Below w.heap.size w w3 := (hb.alloc hsz _).grown hg3 (by simp; omega) fun g hg => (ho.out.lt g hg).1
      have hrd : Hid (Rd w3 w3.heap.size v' 1 (sgns l m l.length ++ [cmpI l.length m.length]).length (inC64 (sgns l m l.length ++ [cmpI l.length m.length]))) := by
        show Rd _ _ _ _ _ _
        rw [HLN.out, inC64_app]
        exact Rd.own (e := 3) (base := w.heap.size) hown'
      clear hg3 hat hown' ho
      go_wp2_with fail
      refine (orI_any _ _ _ w3 hrd.out).mono ?_
      rintro e w4 ⟨rfl, rfl⟩
      go_wp2
      go_ret
      exact ⟨ret_int hf.out.symm, hb4⟩

theorem compare_any (va vb : Value) (l m : List At) (B : Nat) (w : World) (hl : Ats w B va l) (hm : Ats w B vb m) (hB : B ≤ w.heap.size) (hr : ReachA l.length) (hr2 : ReachA m.length) :
    Calls Tryz.prog 58 #[va, vb] w fun e w' => e = .returned (.int .i64 (cmpG l m)) ∧ Below w.heap.size w w' := by
  by_cases h : m.length < l.length
  · exact compare_a va vb l m B w hl hm hB hr hr2 h
  · exact compare_b va vb l m B w hl hm hB hr hr2 h
end Go.Proofs.YtkeillekikbhoaaGreatDoor

/- attr: the document's own Compare; the kit's Attrs; the chapter's specs. -/
namespace Go.Proofs.YtkeillekikbhoaaGreatDoor
open Go.RowKit

set_option maxRecDepth 100000 in
theorem texts_any (a b : ByteArray) (w : World) : Calls Tryz.prog 85 #[.string a, .string b] w fun e w' => e = .returned (.int .i64 (cmpS a b)) ∧ w = w' := by
  go_enter Tryz.func85, Tryz.ntmps85
  go_wp2
  · rename_i h
    go_ret
    exact ⟨ret_int (by simp [cmpS, ltS, h]), rfl⟩
  · rename_i k
    have h : Op.bytesLess a.toList b.toList = false := by assumption
    go_ret
    exact ⟨ret_int (by unfold cmpS ltS; rw [if_neg (by simp [h]), if_pos]; simpa [ltS] using lt_of_ne h k), rfl⟩
  · rename_i h k
    have e : a = b := (eqS_iff a b).1 (by simpa using k)
    subst e
    go_ret
    exact ⟨ret_int (by simp [cmpS, ltS_irr]), rfl⟩

theorem quiet_add_same' {P : Program} {f : FuncId} {args : Array Value} {w : World} {a n : Nat} {v : Value} (h : Calls P f args (w.drewN (a + n)) fun e w' => e = .returned v ∧ w' = w.drewN (a + n)) :
    Calls P f args (w.drewN (a + n)) fun e w'' => e = .returned v ∧ ∃ m, w'' = w.drewN (a + m) :=
  h.mono fun _ _ ⟨he, hm⟩ => ⟨he, n, hm⟩
theorem sgns_at (l m : List At) (n k : Nat) (hk : k < n) (h : ∀ j, j < k → orP (sgn l m j) = 0) (h0 : orP (sgn l m k) ≠ 0) (r : List Int) : orP (sgns l m n ++ r) = orP (sgn l m k) := by
  have hz : ∀ j, j ≤ k → orP (sgns l m j) = 0 := by
    intro j
    induction j with
    | zero => intro _; rfl
    | succ j ih => intro hj; rw [sgns_succ, orP_app, if_pos (ih (by omega)), h j (by omega)]
  have hs : ∀ d, orP (sgns l m (k + 1 + d)) = orP (sgn l m k) := by
    intro d
    induction d with
    | zero => rw [Nat.add_zero, sgns_succ, orP_app, if_pos (hz k (Nat.le_refl _))]
    | succ d ih => rw [show k + 1 + (d + 1) = k + 1 + d + 1 by omega, sgns_succ, orP_app, ih, if_neg h0]
  have := hs (n - (k + 1))
  rw [show k + 1 + (n - (k + 1)) = n by omega] at this
  rw [orP_app, this, if_neg h0]
theorem sgns_zero (l m : List At) (n : Nat) (h : ∀ j, j < n → orP (sgn l m j) = 0) (r : List Int) : orP (sgns l m n ++ r) = orP r := by
  have hz : ∀ j, j ≤ n → orP (sgns l m j) = 0 := by
    intro j
    induction j with
    | zero => intro _; rfl
    | succ j ih => intro hj; rw [sgns_succ, orP_app, if_pos (ih (by omega)), h j (by omega)]
  rw [orP_app, if_pos (hz n (Nat.le_refl _))]
theorem cmpG_at {l m : List At} {k : Nat} (hl : k < l.length) (hm : k < m.length) (h : ∀ j, j < k → orP (sgn l m j) = 0) (h0 : orP (sgn l m k) ≠ 0) : cmpG l m = orP (sgn l m k) := by
  unfold cmpG; exact sgns_at l m _ k (by omega) h h0 _
theorem cmpG_end {l m : List At} (h : ∀ j, j < l.length → j < m.length → orP (sgn l m j) = 0) : cmpG l m = cmpI l.length m.length := by
  unfold cmpG; rw [sgns_zero l m _ (fun j hj => h j (by omega) (by omega))]
  unfold orP; by_cases h : cmpI l.length m.length = 0
  · rw [if_pos h]; unfold orP; exact h.symm
  · rw [if_neg h]
theorem sgn_eq {l m : List At} {k : Nat} (hl : k < l.length) (hm : k < m.length) : orP (sgn l m k) = if cmpS l[k].n m[k].n = 0 then cmpS l[k].v m[k].v else cmpS l[k].n m[k].n := by
  unfold sgn; rw [or2, gA_get l k hl, gA_get m k hm]

set_option maxRecDepth 100000 in
set_option maxHeartbeats 2000000 in
theorem refCompare_any (va vb : Value) (l m : List At) (B : Nat) (w : World) (hl : Ats w B va l) (hm : Ats w B vb m) (hB : B ≤ w.heap.size) :
    Calls Tryz.prog 59 #[va, vb] w fun e w' => e = .returned (.int .i64 (cmpG l m)) ∧ Below w.heap.size w w' := by
  obtain ⟨Al, cl, rfl⟩ := hl.form
  obtain ⟨Am, cm, rfl⟩ := hm.form
  have hml := hl.max
  have hmm := hm.max
  unfold maxLen at hml hmm
  go_enter Tryz.func59, Tryz.ntmps59
  go_wp2
  go_loopg [5] l.length (fun g s5 wr => ∃ k : Nat, k ≤ l.length ∧ k ≤ m.length ∧ g = l.length - k ∧ s5 = .int .i64 k ∧ Hid (∀ j, j < k → orP (sgn l m j) = 0) ∧ Below w.heap.size w wr)
  case atStart => exact ⟨0, Nat.zero_le _, Nat.zero_le _, by omega, rfl, fun j hj => by omega, Below.refl _ _⟩
  case round =>
    obtain ⟨k, hkl, hkm, hg, rfl, hall, hb⟩ := hrel
    have HG := Lib.hid hg
    clear hg
    have hsz := hb.size
    by_cases hlt : k < l.length ∧ k < m.length
    · obtain ⟨hltl, hltm⟩ := hlt
      obtain ⟨bl, offl, rfl, hblB, hcll, hl0, hl1⟩ := (hl.below (hb.mono hB)).at hltl
      obtain ⟨bm, offm, rfl, hbmB, hcmm, hm0, hm1⟩ := (hm.below (hb.mono hB)).at hltm
      have hs := Lib.hid (sgn_eq hltl hltm)
      have hi1 : (k : Int) < (l.length : Int) := by omega
      have hi2 : (k : Int) < (m.length : Int) := by omega
      have hi0 : (0 : Int) ≤ (k : Int) := by omega
      obtain ⟨x, hx⟩ : ∃ x, Hid (x = cmpS l[k].n m[k].n) := ⟨cmpS l[k].n m[k].n, rfl⟩
      obtain ⟨y, hy⟩ : ∃ y, Hid (y = cmpS l[k].v m[k].v) := ⟨cmpS l[k].v m[k].v, rfl⟩
      have HN : Hid (∀ W, Calls Tryz.prog 85 #[.string l[k].n, .string m[k].n] W fun e w' => e = .returned (.int .i64 x) ∧ w' = W) := fun W => (texts_any _ _ W).mono fun _ _ ⟨a, b⟩ => ⟨by rw [a, hx.out], b.symm⟩
      have HV : Hid (∀ W, Calls Tryz.prog 85 #[.string l[k].v, .string m[k].v] W fun e w' => e = .returned (.int .i64 y) ∧ w' = W) := fun W => (texts_any _ _ W).mono fun _ _ ⟨a, b⟩ => ⟨by rw [a, hy.out], b.symm⟩
      by_cases hx0 : x = 0
      · have hsx : Hid (orP (sgn l m k) = y) := by show _ = _; rw [hs.out, ← hx.out, if_pos hx0, hy.out]
        subst hx0
        by_cases hy0 : y = 0
        · have hall' : Hid (∀ j, j < k + 1 → orP (sgn l m j) = 0) := by
            show ∀ j, _
            intro j hj
            by_cases e : j = k
            · subst e; exact hsx.out.trans hy0
            · exact hall.out j (by omega)
          subst hy0
          go_wp2
          go_quiet ((go_at_call 85; exact Calls.quiet_of_same (HN.out _)))
          go_wp2
          go_quiet ((go_at_call 85; exact quiet_add_same' (HV.out _)))
          go_wp2
          go_roundg (l.length - (k + 1))
          case measure => have := HG.out; omega
          case rel => exact ⟨k + 1, by omega, by omega, rfl, by go_num, hall', blN hb _⟩
        · have hf : Hid (cmpG l m = y) := by show _ = _; rw [cmpG_at hltl hltm hall.out (by rw [hsx.out]; exact hy0), hsx.out]
          have hy1 : (y != 0) = true := by rw [bne_iff_ne]; exact hy0
          clear hy0
          go_wp2
          go_quiet ((go_at_call 85; exact Calls.quiet_of_same (HN.out _)))
          go_wp2
          go_quiet ((go_at_call 85; exact quiet_add_same' (HV.out _)))
          go_wp2
          go_ret
          exact ⟨ret_int hf.out.symm, blN hb _⟩
      · have hsx : Hid (orP (sgn l m k) = x) := by show _ = _; rw [hs.out, ← hx.out, if_neg hx0]
        have hf : Hid (cmpG l m = x) := by show _ = _; rw [cmpG_at hltl hltm hall.out (by rw [hsx.out]; exact hx0), hsx.out]
        have hx1 : (x != 0) = true := by rw [bne_iff_ne]; exact hx0
        have hx2 : (x == 0) = false := beq_eq_false_iff_ne.2 hx0
        clear hx0
        go_wp2
        go_quiet ((go_at_call 85; exact Calls.quiet_of_same (HN.out _)))
        go_wp2
        go_ret
        exact ⟨ret_int hf.out.symm, blN hb _⟩
    · have hf : Hid (cmpG l m = cmpI l.length m.length) := cmpG_end fun j hj hj2 => hall.out j (by omega)
      by_cases h1 : l.length < m.length
      · have hf2 : Hid (cmpI l.length m.length = -1) := by show _ = _; unfold cmpI; rw [if_pos (by omega)]
        have hk1 : ¬ k < l.length := by omega
        clear hlt
        go_wp2
        go_ret
        exact ⟨ret_int (by rw [hf.out, hf2.out]), hb⟩
      · by_cases h2 : m.length < l.length
        · have hf2 : Hid (cmpI l.length m.length = 1) := by show _ = _; unfold cmpI; rw [if_neg (by omega), if_pos (by omega)]
          by_cases hk1 : k < l.length
          · have hk2 : ¬ k < m.length := by omega
            clear hlt
            go_wp2
            go_ret
            exact ⟨ret_int (by rw [hf.out, hf2.out]), hb⟩
          · omega
        · have hf2 : Hid (cmpI l.length m.length = 0) := by show _ = _; unfold cmpI; rw [if_neg (by omega), if_neg (by omega)]
          have hk1 : ¬ k < l.length := by omega
          clear hlt
          go_wp2
          go_ret
          exact ⟨ret_int (by rw [hf.out, hf2.out]), hb⟩
end Go.Proofs.YtkeillekikbhoaaGreatDoor

/- the kit's Attrs; the chapter's specs. -/
namespace Go.Proofs.YtkeillekikbhoaaGreatDoor
open Go.RowKit

def eqK (l m : List At) (k : Nat) : Bool := ((gA l k).n.toList == (gA m k).n.toList) && ((gA l k).v.toList == (gA m k).v.toList)
def eqA (l m : List At) : Bool := decide (l.length = m.length) && (List.range l.length).all (eqK l m)
theorem At.ext {a b : At} (h : a.n = b.n) (k : a.v = b.v) : a = b := by cases a; cases b; cases h; cases k; rfl
theorem eqA_iff (l m : List At) : eqA l m = true ↔ l = m := by
  unfold eqA
  rw [Bool.and_eq_true, decide_eq_true_iff, List.all_eq_true]
  constructor
  · rintro ⟨h, ha⟩
    apply List.ext_getElem h
    intro k h1 h2
    have := ha k (List.mem_range.2 h1)
    unfold eqK at this
    rw [gA_get l k h1, gA_get m k h2, Bool.and_eq_true, eqS_iff, eqS_iff] at this
    exact At.ext this.1 this.2
  · rintro rfl
    exact ⟨rfl, fun k _ => by simp [eqK]⟩
theorem eqA_self (l : List At) : eqA l l = true := (eqA_iff l l).2 rfl
theorem eqA_yes {l m : List At} (h : l.length = m.length) (hk : ∀ k, k < l.length → eqK l m k = true) : eqA l m = true := by
  unfold eqA; simp only [h, decide_true, Bool.true_and, List.all_eq_true]; intro k hm; exact hk k (by rw [h]; exact List.mem_range.1 hm)
theorem eqA_no {l m : List At} {k : Nat} (hk : k < l.length) (h : eqK l m k = false) : eqA l m = false := by
  unfold eqA; rw [Bool.and_eq_false_iff]; right; rw [← Bool.not_eq_true, List.all_eq_true]; intro hall; rw [hall k (List.mem_range.2 hk)] at h; cases h
theorem eqA_len {l m : List At} (h : l.length ≠ m.length) : eqA l m = false := by unfold eqA; simp [h]

theorem eqAt_run (a b c d : ByteArray) (w : World) : (Op.equalIn 10000 109 (.agg #[.string a, .string b]) (.agg #[.string c, .string d])).run Tryz.prog w = .ok ((a.toList == c.toList) && (b.toList == d.toList)) w := by
  have u3 := Tryz.underlying9
  have a3 := Tryz.isAgg9
  have z3 := Tryz.sizeOf9
  have hS : Tryz.prog.underlying 109 = some (.struct (Tryz.prog.fieldsOf 109)) := by kernel_rfl
  have hp : Tryz.prog.stoodInHeld 109 = false := by kernel_rfl
  rw [show (10000 : Nat) = 9999 + 1 from rfl, run_equalIn_agg w 9999 109 _ _ hS hp]
  simp only [Program.fieldsOf, Tryz.underlying109]
  go_simp
  cases h1 : (a.toList == c.toList) <;> cases h2 : (b.toList == d.toList) <;> simp_all
theorem neqAt_run (a b c d : ByteArray) (w : World) : (binOp .neq 109 (.agg #[.string a, .string b]) (.agg #[.string c, .string d])).run Tryz.prog w = .ok (.bool (!((a.toList == c.toList) && (b.toList == d.toList)))) w := by
  rw [run_neq_struct, eqAt_run]; rfl

set_option maxRecDepth 100000 in
theorem attrs_any (va vb : Value) (l m : List At) (B : Nat) (w : World) (hl : Ats w B va l) (hm : Ats w B vb m) (hB : B ≤ w.heap.size) :
    Calls Tryz.prog 39 #[va, vb] w fun e w' => e = .returned (.bool (eqA l m)) ∧ Below w.heap.size w w' := by
  obtain ⟨Al, cl, rfl⟩ := hl.form
  obtain ⟨Am, cm, rfl⟩ := hm.form
  have hml := hl.max
  have hmm := hm.max
  unfold maxLen at hml hmm
  by_cases hlen : l.length = m.length
  · have hlen' : ((l.length : Int) != (m.length : Int)) = false := by simp; omega
    have HL := Lib.hid hlen
    clear hlen
    go_enter Tryz.func39, Tryz.ntmps39
    go_wp2
    go_loopw [5] (fun i wr => ∃ k : Nat, k ≤ l.length ∧ i = .int .i64 k ∧ Below w.heap.size w wr ∧ Hid (∀ j, j < k → eqK l m j = true)) (fun i _ => l.length - (intOf i).toNat)
    case atStart => exact ⟨0, Nat.zero_le _, rfl, Below.refl _ _, fun j hj => by omega⟩
    case round =>
      obtain ⟨k, hk, rfl, hb, hall⟩ := hrel
      by_cases hlt : k < l.length
      · have hltm : k < m.length := by have := HL.out; omega
        obtain ⟨bl, offl, rfl, hblB, hcll, hl0, hl1⟩ := (hl.below (hb.mono hB)).at hlt
        obtain ⟨bm, offm, rfl, hbmB, hcmm, hm0, hm1⟩ := (hm.below (hb.mono hB)).at hltm
        have hs := Lib.hid (show eqK l m k = ((l[k].n.toList == m[k].n.toList) && (l[k].v.toList == m[k].v.toList)) by unfold eqK; rw [gA_get l k hlt, gA_get m k hltm])
        have hi1 : (k : Int) < (l.length : Int) := by omega
        have hi2 : (k : Int) < (m.length : Int) := by omega
        have hi0 : (0 : Int) ≤ (k : Int) := by omega
        have hq := neqAt_run l[k].n l[k].v m[k].n m[k].v
        have hgd : Tryz.prog.eqGuardType Tryz.prog.depth 109 = false := by kernel_rfl
        cases he : ((l[k].n.toList == m[k].n.toList) && (l[k].v.toList == m[k].v.toList))
        · have hf : Hid (eqA l m = false) := eqA_no hlt (hs.out.trans he)
          rw [he] at hq
          clear he
          go_wp2
          go_quiet (fail)
          go_wp2
          go_ret
          exact ⟨ret_bool hf.out.symm, blN hb _⟩
        · have hall' : Hid (∀ j, j < k + 1 → eqK l m j = true) := by
            show ∀ j, _
            intro j hj
            by_cases e : j = k
            · subst e; exact hs.out.trans he
            · exact hall.out j (by omega)
          rw [he] at hq
          clear he
          go_wp2
          go_quiet (fail)
          go_wp2
          go_roundw
          case rel => exact ⟨k + 1, by omega, by go_num, blN hb _, hall'⟩
          case measure => simp [intOf]; omega
      · have hf : Hid (eqA l m = true) := eqA_yes HL.out fun k hk => hall.out k (by omega)
        go_wp2
        go_ret
        exact ⟨ret_bool hf.out.symm, hb⟩
  · have hf : Hid (eqA l m = false) := eqA_len hlen
    have hlen' : ((l.length : Int) != (m.length : Int)) = true := by rw [bne_iff_ne]; omega
    clear hlen
    go_enter Tryz.func39, Tryz.ntmps39
    go_wp2
    go_ret
    exact ⟨ret_bool hf.out.symm, Below.refl _ _⟩
end Go.Proofs.YtkeillekikbhoaaGreatDoor

/- marks and tokens, as they are read: slices of structs that hold slices. Of no program. -/
namespace Go.Proofs.YtkeillekikbhoaaGreatDoor
open Go.RowKit

/-- the slice v is read: n elements of sz cells each, the cells cs, in a block of S -/
def Rq (w : World) (S : Nat → Prop) (v : Value) (sz n : Nat) (cs : List Value) : Prop :=
  ∃ A cap, v = .slice A n cap ∧ cs.length = n * sz ∧ n ≤ cap ∧ cap ≤ maxLen ∧
    (n = 0 ∨ ∃ b off, A = some ⟨b, off, none⟩ ∧ (S b ∧ b < w.heap.size) ∧ ∀ j u, cs[j]? = some u → w.cell? ⟨b, off + j, none⟩ = some u)
/-- the blocks of S are kept, and belong to S' -/
def Ks (S S' : Nat → Prop) (w w' : World) : Prop := ∀ b, S b → b < w.heap.size → S' b ∧ b < w'.heap.size ∧ w'.heap[b]? = w.heap[b]?

section
variable {w w' : World} {S S' : Nat → Prop} {v : Value} {sz n : Nat} {cs : List Value}
theorem Rq.keep (h : Rq w S v sz n cs) (hk : Ks S S' w w') : Rq w' S' v sz n cs := by
  obtain ⟨A, cap, rfl, h0, h1, h2, h3⟩ := h
  refine ⟨A, cap, rfl, h0, h1, h2, h3.imp id ?_⟩
  rintro ⟨b, off, hA, ⟨hs, hb⟩, hc⟩
  obtain ⟨k1, k2, k3⟩ := hk b hs hb
  exact ⟨b, off, hA, ⟨k1, k2⟩, fun j u hu => (World.cell?_of_block (w := w) (a := ⟨b, off + j, none⟩) k3).trans (hc j u hu)⟩
theorem Rq.rd (h : Rq w S v sz n cs) : Rd w w.heap.size v sz n cs := by
  obtain ⟨A, cap, rfl, h0, h1, h2, h3⟩ := h
  exact ⟨A, cap, rfl, h0, h1, h2, h3.imp id fun ⟨b, off, hA, hb, hc⟩ => ⟨b, off, hA, hb.2, hc⟩⟩
theorem Rd.rq {B : Nat} (h : Rd w B v sz n cs) (hB : ∀ b, b < B → S b ∧ b < w.heap.size) : Rq w S v sz n cs := by
  obtain ⟨A, cap, rfl, h0, h1, h2, h3⟩ := h
  exact ⟨A, cap, rfl, h0, h1, h2, h3.imp id fun ⟨b, off, hA, hb, hc⟩ => ⟨b, off, hA, hB b hb, hc⟩⟩
theorem Rq.nil (w : World) (S : Nat → Prop) (sz : Nat) : Rq w S (.slice none 0 0) sz 0 [] := ⟨none, 0, rfl, by simp, Nat.le_refl _, by unfold maxLen; omega, .inl rfl⟩
theorem Rq.form (h : Rq w S v sz n cs) : ∃ A cap, v = .slice A n cap := by obtain ⟨A, cap, h, _⟩ := h; exact ⟨A, cap, h⟩
theorem Rq.max (h : Rq w S v sz n cs) : n ≤ maxLen := h.rd.max
theorem Rq.mono (h : Rq w S v sz n cs) (hS : ∀ b, S b → b < w.heap.size → S' b) : Rq w S' v sz n cs := h.keep fun b h1 h2 => ⟨hS b h1 h2, h2, rfl⟩
theorem Rq.at {A : Option Addr} {cap : Nat} (h : Rq w S (.slice A n cap) sz n cs) (hn : 0 < n) :
    ∃ b off, A = some ⟨b, off, none⟩ ∧ (S b ∧ b < w.heap.size) ∧ n ≤ cap ∧ ∀ j u, cs[j]? = some u → w.cell? ⟨b, off + j, none⟩ = some u := by
  obtain ⟨A', cap', hv, h0, h1, h2, h3⟩ := h
  simp only [Value.slice.injEq, true_and] at hv
  obtain ⟨rfl, rfl⟩ := hv
  rcases h3 with h3 | ⟨b, off, hA, hb, hc⟩
  · omega
  · exact ⟨b, off, hA, hb, h1, hc⟩

theorem Ks.refl (S : Nat → Prop) (w : World) : Ks S S w w := fun _ h h2 => ⟨h, h2, rfl⟩
theorem Ks.below (h : Below w.heap.size w w') : Ks S S w w' := fun b h1 h2 => ⟨h1, Nat.lt_of_lt_of_le h2 h.size, h.block b h2⟩
theorem Ks.alloc (o : Obj) : Ks S S w (w.alloc o) := .below ((Below.refl _ _).alloc (Nat.le_refl _) _)
theorem Ks.grown {row : Option Nat} (hg : w.grownBy w' row) (hS : ∀ b, S b → b < w.heap.size → some b ≠ row ∧ S' b) : Ks S S' w w' :=
  fun b h1 h2 => ⟨(hS b h1 h2).2, Nat.lt_of_lt_of_le h2 hg.size, hg.block b h2 (hS b h1 h2).1⟩
end

structure Mk where
  t : ByteArray
  a : List At
structure Tk where
  k : Int
  t : ByteArray
  a : List At
  m : List Mk
  c : Int

/-- the cells of marks -/
def MkC (w : World) (S : Nat → Prop) (cs : List Value) (l : List Mk) : Prop := cs.length = l.length * 2 ∧
  ∀ k (hk : k < l.length), cs[k * 2]? = some (.string l[k].t) ∧ ∃ va, cs[k * 2 + 1]? = some va ∧ Rq w S va 2 l[k].a.length (atC l[k].a)
def Mks (w : World) (S : Nat → Prop) (v : Value) (l : List Mk) : Prop := ∃ cs, Rq w S v 2 l.length cs ∧ MkC w S cs l
/-- the cells of tokens -/
def TkC (w : World) (S : Nat → Prop) (cs : List Value) (l : List Tk) : Prop := cs.length = l.length * 5 ∧
  ∀ k (hk : k < l.length), cs[k * 5]? = some (.int .i64 l[k].k) ∧ cs[k * 5 + 1]? = some (.string l[k].t) ∧
    (∃ va, cs[k * 5 + 2]? = some va ∧ Rq w S va 2 l[k].a.length (atC l[k].a)) ∧ (∃ vm, cs[k * 5 + 3]? = some vm ∧ Mks w S vm l[k].m) ∧ cs[k * 5 + 4]? = some (.int .u8 l[k].c)
def Tks (w : World) (S : Nat → Prop) (v : Value) (l : List Tk) : Prop := ∃ cs, Rq w S v 5 l.length cs ∧ TkC w S cs l

section
variable {w w' : World} {S S' : Nat → Prop} {v : Value} {cs ds : List Value} {m n : List Mk} {l o : List Tk}
theorem MkC.keep (h : MkC w S cs m) (hk : Ks S S' w w') : MkC w' S' cs m := ⟨h.1, fun k hl => by
  obtain ⟨h1, va, h2, h3⟩ := h.2 k hl
  exact ⟨h1, va, h2, h3.keep hk⟩⟩
theorem Mks.keep (h : Mks w S v m) (hk : Ks S S' w w') : Mks w' S' v m := by
  obtain ⟨cs, h1, h2⟩ := h
  exact ⟨cs, h1.keep hk, h2.keep hk⟩
theorem TkC.keep (h : TkC w S cs l) (hk : Ks S S' w w') : TkC w' S' cs l := ⟨h.1, fun k hl => by
  obtain ⟨h1, h2, ⟨va, h3, h4⟩, ⟨vm, h5, h6⟩, h7⟩ := h.2 k hl
  exact ⟨h1, h2, ⟨va, h3, h4.keep hk⟩, ⟨vm, h5, h6.keep hk⟩, h7⟩⟩
theorem Tks.keep (h : Tks w S v l) (hk : Ks S S' w w') : Tks w' S' v l := by
  obtain ⟨cs, h1, h2⟩ := h
  exact ⟨cs, h1.keep hk, h2.keep hk⟩
theorem Mks.form (h : Mks w S v m) : ∃ A cap, v = .slice A m.length cap := by obtain ⟨_, h, _⟩ := h; exact h.form
theorem Tks.form (h : Tks w S v l) : ∃ A cap, v = .slice A l.length cap := by obtain ⟨_, h, _⟩ := h; exact h.form
theorem Mks.max (h : Mks w S v m) : m.length ≤ maxLen := by obtain ⟨_, h, _⟩ := h; exact h.max
theorem Tks.max (h : Tks w S v l) : l.length ≤ maxLen := by obtain ⟨_, h, _⟩ := h; exact h.max
theorem Mks.below (h : Mks w S v m) (hb : Below w.heap.size w w') : Mks w' S v m := h.keep (.below hb)
theorem Tks.below (h : Tks w S v l) (hb : Below w.heap.size w w') : Tks w' S v l := h.keep (.below hb)
theorem MkC.nil (w : World) (S : Nat → Prop) : MkC w S [] [] := ⟨rfl, fun k hk => by simp at hk⟩
theorem TkC.nil (w : World) (S : Nat → Prop) : TkC w S [] [] := ⟨rfl, fun k hk => by simp at hk⟩
theorem Mks.nil (w : World) (S : Nat → Prop) : Mks w S (.slice none 0 0) [] := ⟨[], Rq.nil w S 2, .nil w S⟩
theorem Tks.nil (w : World) (S : Nat → Prop) : Tks w S (.slice none 0 0) [] := ⟨[], Rq.nil w S 5, .nil w S⟩
theorem Mks.at {A : Option Addr} {cap k : Nat} (h : Mks w S (.slice A m.length cap) m) (hk : k < m.length) :
    ∃ b off va, A = some ⟨b, off, none⟩ ∧ (S b ∧ b < w.heap.size) ∧ m.length ≤ cap ∧ w.cell? ⟨b, off + k * 2, none⟩ = some (.string m[k].t) ∧ w.cell? ⟨b, off + k * 2 + 1, none⟩ = some va ∧
      Rq w S va 2 m[k].a.length (atC m[k].a) := by
  obtain ⟨cs, h1, h2⟩ := h
  obtain ⟨b, off, rfl, hb, hcap, hc⟩ := h1.at (by omega)
  obtain ⟨c0, va, c1, hr⟩ := h2.2 k hk
  exact ⟨b, off, va, rfl, hb, hcap, hc _ _ c0, by rw [Nat.add_assoc]; exact hc _ _ c1, hr⟩
theorem Tks.at {A : Option Addr} {cap k : Nat} (h : Tks w S (.slice A l.length cap) l) (hk : k < l.length) :
    ∃ b off va vm, A = some ⟨b, off, none⟩ ∧ (S b ∧ b < w.heap.size) ∧ l.length ≤ cap ∧ w.cell? ⟨b, off + k * 5, none⟩ = some (.int .i64 l[k].k) ∧ w.cell? ⟨b, off + k * 5 + 1, none⟩ = some (.string l[k].t) ∧
      w.cell? ⟨b, off + k * 5 + 1 + 1, none⟩ = some va ∧ w.cell? ⟨b, off + k * 5 + 1 + 1 + 1, none⟩ = some vm ∧ w.cell? ⟨b, off + k * 5 + 1 + 1 + 1 + 1, none⟩ = some (.int .u8 l[k].c) ∧
      Rq w S va 2 l[k].a.length (atC l[k].a) ∧ Mks w S vm l[k].m := by
  obtain ⟨cs, h1, h2⟩ := h
  obtain ⟨b, off, rfl, hb, hcap, hc⟩ := h1.at (by omega)
  obtain ⟨c0, c1, ⟨va, c2, hr⟩, ⟨vm, c3, hm⟩, c4⟩ := h2.2 k hk
  exact ⟨b, off, va, vm, rfl, hb, hcap, hc _ _ c0, hc _ _ c1, hc _ _ c2, hc _ _ c3, hc _ _ c4, hr, hm⟩

theorem MkC.app (h : MkC w S cs m) (k : MkC w S ds n) : MkC w S (cs ++ ds) (m ++ n) := by
  refine ⟨by rw [List.length_append, List.length_append, h.1, k.1]; omega, fun i hi => ?_⟩
  rw [List.length_append] at hi
  by_cases hlt : i < m.length
  · obtain ⟨h1, va, h2, h3⟩ := h.2 i hlt
    have e := h.1
    rw [List.getElem?_append_left (by omega), List.getElem?_append_left (by omega), List.getElem_append_left hlt]
    exact ⟨h1, va, h2, h3⟩
  · obtain ⟨h1, va, h2, h3⟩ := k.2 (i - m.length) (by omega)
    have e := h.1
    rw [List.getElem?_append_right (by omega), List.getElem?_append_right (by omega), List.getElem_append_right (by omega), e,
      show i * 2 - m.length * 2 = (i - m.length) * 2 by omega, show i * 2 + 1 - m.length * 2 = (i - m.length) * 2 + 1 by omega]
    exact ⟨h1, va, h2, h3⟩
theorem TkC.app (h : TkC w S cs l) (k : TkC w S ds o) : TkC w S (cs ++ ds) (l ++ o) := by
  refine ⟨by rw [List.length_append, List.length_append, h.1, k.1]; omega, fun i hi => ?_⟩
  rw [List.length_append] at hi
  by_cases hlt : i < l.length
  · have e := h.1
    rw [List.getElem?_append_left (by omega), List.getElem?_append_left (by omega), List.getElem?_append_left (by omega), List.getElem?_append_left (by omega), List.getElem?_append_left (by omega), List.getElem_append_left hlt]
    exact h.2 i hlt
  · have e := h.1
    rw [List.getElem?_append_right (by omega), List.getElem?_append_right (by omega), List.getElem?_append_right (by omega), List.getElem?_append_right (by omega), List.getElem?_append_right (by omega), List.getElem_append_right (by omega), e,
      show i * 5 - l.length * 5 = (i - l.length) * 5 by omega, show i * 5 + 1 - l.length * 5 = (i - l.length) * 5 + 1 by omega, show i * 5 + 2 - l.length * 5 = (i - l.length) * 5 + 2 by omega,
      show i * 5 + 3 - l.length * 5 = (i - l.length) * 5 + 3 by omega, show i * 5 + 4 - l.length * 5 = (i - l.length) * 5 + 4 by omega]
    exact k.2 (i - l.length) (by omega)
/-- a part of the tokens -/
theorem TkC.part (h : TkC w S cs l) (i j : Nat) (hij : i + j ≤ l.length) : TkC w S ((cs.drop (i * 5)).take (j * 5)) ((l.drop i).take j) := by
  refine ⟨by rw [List.length_take, List.length_drop, List.length_take, List.length_drop, h.1]; omega, fun k hk => ?_⟩
  rw [List.length_take, List.length_drop] at hk
  have h1 := h.2 (i + k) (by omega)
  rw [List.getElem?_take_of_lt (by omega), List.getElem?_take_of_lt (by omega), List.getElem?_take_of_lt (by omega), List.getElem?_take_of_lt (by omega), List.getElem?_take_of_lt (by omega),
    List.getElem?_drop, List.getElem?_drop, List.getElem?_drop, List.getElem?_drop, List.getElem?_drop, List.getElem_take, List.getElem_drop,
    show i * 5 + k * 5 = (i + k) * 5 by omega, show i * 5 + (k * 5 + 1) = (i + k) * 5 + 1 by omega, show i * 5 + (k * 5 + 2) = (i + k) * 5 + 2 by omega, show i * 5 + (k * 5 + 3) = (i + k) * 5 + 3 by omega,
    show i * 5 + (k * 5 + 4) = (i + k) * 5 + 4 by omega]
  exact h1
/-- a mark's attributes are told anew: the same, elsewhere -/
theorem MkC.set (h : MkC w S cs m) (k : Nat) (hk : k < m.length) {va : Value} (ha : Rq w S va 2 m[k].a.length (atC m[k].a)) : MkC w S (cs.set (k * 2 + 1) va) m := by
  refine ⟨by rw [List.length_set]; exact h.1, fun i hi => ?_⟩
  obtain ⟨h1, vb, h2, h3⟩ := h.2 i hi
  have e := h.1
  rw [List.getElem?_set_ne (by omega)]
  refine ⟨h1, ?_⟩
  by_cases hik : i = k
  · subst hik
    exact ⟨va, by rw [List.getElem?_set_self (by omega)], ha⟩
  · exact ⟨vb, by rw [List.getElem?_set_ne (by omega)]; exact h2, h3⟩
theorem TkC.setA (h : TkC w S cs l) (k : Nat) (hk : k < l.length) {va : Value} (ha : Rq w S va 2 l[k].a.length (atC l[k].a)) : TkC w S (cs.set (k * 5 + 2) va) l := by
  refine ⟨by rw [List.length_set]; exact h.1, fun i hi => ?_⟩
  obtain ⟨h1, h2, ⟨vb, h3, h4⟩, h5, h6⟩ := h.2 i hi
  have e := h.1
  rw [List.getElem?_set_ne (by omega), List.getElem?_set_ne (by omega), List.getElem?_set_ne (i := k * 5 + 2) (j := i * 5 + 3) (by omega), List.getElem?_set_ne (i := k * 5 + 2) (j := i * 5 + 4) (by omega)]
  refine ⟨h1, h2, ?_, h5, h6⟩
  by_cases hik : i = k
  · subst hik
    exact ⟨va, by rw [List.getElem?_set_self (by omega)], ha⟩
  · exact ⟨vb, by rw [List.getElem?_set_ne (by omega)]; exact h3, h4⟩
theorem TkC.setM (h : TkC w S cs l) (k : Nat) (hk : k < l.length) {vm : Value} (ha : Mks w S vm l[k].m) : TkC w S (cs.set (k * 5 + 3) vm) l := by
  refine ⟨by rw [List.length_set]; exact h.1, fun i hi => ?_⟩
  obtain ⟨h1, h2, h3, ⟨vb, h4, h5⟩, h6⟩ := h.2 i hi
  have e := h.1
  rw [List.getElem?_set_ne (by omega), List.getElem?_set_ne (by omega), List.getElem?_set_ne (i := k * 5 + 3) (j := i * 5 + 2) (by omega), List.getElem?_set_ne (i := k * 5 + 3) (j := i * 5 + 4) (by omega)]
  refine ⟨h1, h2, h3, ?_, h6⟩
  by_cases hik : i = k
  · subst hik
    exact ⟨vm, by rw [List.getElem?_set_self (by omega)], ha⟩
  · exact ⟨vb, by rw [List.getElem?_set_ne (by omega)]; exact h4, h5⟩
/-- one more -/
theorem MkC.one {x : Mk} {va : Value} (ha : Rq w S va 2 x.a.length (atC x.a)) : MkC w S [.string x.t, va] [x] :=
  ⟨rfl, fun k hk => by
    obtain rfl : k = 0 := by simpa using hk
    exact ⟨rfl, va, rfl, ha⟩⟩
theorem TkC.one {x : Tk} {va vm : Value} (ha : Rq w S va 2 x.a.length (atC x.a)) (hm : Mks w S vm x.m) : TkC w S [.int .i64 x.k, .string x.t, va, vm, .int .u8 x.c] [x] :=
  ⟨rfl, fun k hk => by
    obtain rfl : k = 0 := by simpa using hk
    exact ⟨rfl, rfl, ⟨va, rfl, ha⟩, ⟨vm, rfl, hm⟩, rfl⟩⟩
theorem Rq.one {sz n : Nat} (h : Rq w S v sz n cs) : v.oneCell' = true := by obtain ⟨A, cap, rfl, _⟩ := h; rfl
theorem MkC.oneC (h : MkC w S cs m) : ∀ u ∈ cs, u.oneCell' = true := by
  intro u hu
  obtain ⟨k, hk, rfl⟩ := List.mem_iff_getElem.1 hu
  have e := h.1
  obtain ⟨q, hq, hc⟩ : ∃ q, q < m.length ∧ (k = q * 2 ∨ k = q * 2 + 1) := ⟨k / 2, by omega, by omega⟩
  obtain ⟨h1, va, h2, h3⟩ := h.2 q hq
  have hx : ∀ y, cs[k]? = some y → y.oneCell' = true → cs[k].oneCell' = true := fun y hy h1 => by
    rw [List.getElem?_eq_getElem hk] at hy
    rw [Option.some.inj hy]; exact h1
  rcases hc with hc | hc
  · exact hx _ (by rw [hc]; exact h1) rfl
  · exact hx _ (by rw [hc]; exact h2) h3.one
theorem TkC.oneC (h : TkC w S cs l) : ∀ u ∈ cs, u.oneCell' = true := by
  intro u hu
  obtain ⟨k, hk, rfl⟩ := List.mem_iff_getElem.1 hu
  have e := h.1
  obtain ⟨q, hq, hc⟩ : ∃ q, q < l.length ∧ (k = q * 5 ∨ k = q * 5 + 1 ∨ k = q * 5 + 2 ∨ k = q * 5 + 3 ∨ k = q * 5 + 4) := ⟨k / 5, by omega, by omega⟩
  obtain ⟨h1, h2, ⟨va, h3, h4⟩, ⟨vm, h5, _, h6, _⟩, h7⟩ := h.2 q hq
  have hx : ∀ y, cs[k]? = some y → y.oneCell' = true → cs[k].oneCell' = true := fun y hy h1 => by
    rw [List.getElem?_eq_getElem hk] at hy
    rw [Option.some.inj hy]; exact h1
  rcases hc with hc | hc | hc | hc | hc
  · exact hx _ (by rw [hc]; exact h1) rfl
  · exact hx _ (by rw [hc]; exact h2) rfl
  · exact hx _ (by rw [hc]; exact h3) h4.one
  · exact hx _ (by rw [hc]; exact h5) h6.one
  · exact hx _ (by rw [hc]; exact h7) rfl
end
end Go.Proofs.YtkeillekikbhoaaGreatDoor

/- rows, as they are reckoned: marks in order, tokens that are the same, how many are alike, depth, what is left. Of no program. -/
namespace Go.Proofs.YtkeillekikbhoaaGreatDoor
open Go.RowKit

/-- a mark against a mark -/
def sgM (x y : Mk) : Int := if cmpS x.t y.t = 0 then cmpG x.a y.a else cmpS x.t y.t
def cmpMs : List Mk → List Mk → Int
  | [], [] => 0
  | [], _ :: _ => -1
  | _ :: _, [] => 1
  | x :: l, y :: m => if sgM x y = 0 then cmpMs l m else sgM x y
theorem cmpMs_at {l m : List Mk} {k : Nat} (hl : k < l.length) (hm : k < m.length) : cmpMs (l.drop k) (m.drop k) = if sgM l[k] m[k] = 0 then cmpMs (l.drop (k + 1)) (m.drop (k + 1)) else sgM l[k] m[k] := by
  rw [List.drop_eq_getElem_cons hl, List.drop_eq_getElem_cons hm, cmpMs]
theorem cmpMs_end {l m : List Mk} {k : Nat} (hkl : k ≤ l.length) (hkm : k ≤ m.length) (h : ¬ (k < l.length ∧ k < m.length)) : cmpMs (l.drop k) (m.drop k) = cmpI l.length m.length := by
  by_cases h1 : k < l.length
  · have e : k = m.length := by omega
    subst e
    rw [List.drop_eq_getElem_cons h1, List.drop_length, cmpMs, cmpI, if_neg (by omega), if_pos (by omega)]
  · have e : k = l.length := by omega
    subst e
    by_cases h2 : l.length < m.length
    · rw [List.drop_eq_getElem_cons h2, List.drop_length, cmpMs, cmpI, if_pos (by omega)]
    · have e : l.length = m.length := by omega
      rw [List.drop_length, e, List.drop_length, cmpMs, cmpI, if_neg (by omega), if_neg (by omega)]
theorem cmpMs_nil_l {l m : List Mk} {k : Nat} (hl : k < l.length) (hm : k = m.length) : cmpMs (l.drop k) (m.drop k) = 1 := by
  subst hm; rw [List.drop_eq_getElem_cons hl, List.drop_length, cmpMs]

/-- are two tokens the same? -/
def oneB (x y : Tk) : Bool := (x.k == y.k) && (x.t.toList == y.t.toList) && (x.c == y.c) && (cmpG x.a y.a == 0) && (cmpMs x.m y.m == 0)
def Tk.z : Tk := ⟨0, .empty, [], [], 0⟩
def gT (l : List Tk) (k : Nat) : Tk := l.getD k Tk.z
theorem gT_get (l : List Tk) (k : Nat) (hk : k < l.length) : gT l k = l[k] := by unfold gT List.getD; rw [List.getElem?_eq_getElem hk]; rfl
def sameK (l m : List Tk) (k : Nat) : Bool := oneB (gT l k) (gT m k)
def sameT (l m : List Tk) : Bool := decide (l.length = m.length) && (List.range l.length).all (sameK l m)
theorem sameT_yes {l m : List Tk} (h : l.length = m.length) (hk : ∀ k, k < l.length → sameK l m k = true) : sameT l m = true := by
  unfold sameT; simp only [h, decide_true, Bool.true_and, List.all_eq_true]; intro k hm; exact hk k (by rw [h]; exact List.mem_range.1 hm)
theorem sameT_no {l m : List Tk} {k : Nat} (hk : k < l.length) (h : sameK l m k = false) : sameT l m = false := by
  unfold sameT; rw [Bool.and_eq_false_iff]; right; rw [← Bool.not_eq_true, List.all_eq_true]; intro hall; rw [hall k (List.mem_range.2 hk)] at h; cases h
theorem sameT_len {l m : List Tk} (h : l.length ≠ m.length) : sameT l m = false := by unfold sameT; simp [h]

/-- how many from 0 on, below n -/
def cnt (p : Nat → Bool) (n : Nat) : Nat := (List.range n).findIdx fun j => !p j
theorem cnt_le (p : Nat → Bool) (n : Nat) : cnt p n ≤ n := by have := List.findIdx_le_length (p := fun j => !p j) (xs := List.range n); rwa [List.length_range] at this
theorem cnt_at {p : Nat → Bool} {n k : Nat} (hk : k ≤ n) (hall : ∀ j, j < k → p j = true) (h : k = n ∨ p k = false) : cnt p n = k := by
  unfold cnt
  rcases h with rfl | h
  · have := List.findIdx_eq_length (p := fun j => !p j) (xs := List.range k)
    rw [List.length_range] at this
    exact this.2 fun x hx => by simp [hall x (List.mem_range.1 hx)]
  · by_cases e : k = n
    · subst e
      have := List.findIdx_eq_length (p := fun j => !p j) (xs := List.range k)
      rw [List.length_range] at this
      exact this.2 fun x hx => by simp [hall x (List.mem_range.1 hx)]
    · rw [List.findIdx_eq (by rw [List.length_range]; omega)]
      simp only [List.getElem_range]
      exact ⟨by simp [h], fun j hj => by simp [hall j hj]⟩
theorem cnt_spec (p : Nat → Bool) (n : Nat) : (∀ j, j < cnt p n → p j = true) ∧ (cnt p n = n ∨ p (cnt p n) = false) := by
  constructor
  · intro j hj
    have h := List.not_of_lt_findIdx (p := fun j => !p j) (xs := List.range n) hj
    have hl := cnt_le p n
    rw [List.getElem_range] at h
    simpa using h
  · by_cases h : cnt p n = n
    · exact .inl h
    · have hl := cnt_le p n
      have hlt : (List.range n).findIdx (fun j => !p j) < (List.range n).length := by rw [List.length_range]; unfold cnt at *; omega
      have := List.findIdx_getElem (p := fun j => !p j) (xs := List.range n) (w := hlt)
      rw [List.getElem_range] at this
      exact .inr (by simpa [cnt] using this)
def aheadN (l m : List Tk) : Nat := cnt (fun j => oneB (gT l j) (gT m j)) (min l.length m.length)
def backK (l m : List Tk) (j : Nat) : Bool := oneB (gT l (l.length - 1 - j)) (gT m (m.length - 1 - j))
def behindN (l m : List Tk) : Nat := cnt (backK l m) (min (l.length - aheadN l m) (m.length - aheadN l m))

/-- one token's part of what is left: closes, opens -/
def lftS (s : Nat × Nat) (x : Tk) : Nat × Nat := if x.k = 1 then (s.1, s.2 + 1) else if x.k = 2 then (if 0 < s.2 then (s.1, s.2 - 1) else (s.1 + 1, s.2)) else s
theorem lftS_1 {s : Nat × Nat} {x : Tk} (h : x.k = 1) : lftS s x = (s.1, s.2 + 1) := by unfold lftS; rw [if_pos h]
theorem lftS_2 {s : Nat × Nat} {x : Tk} (h : x.k = 2) (h2 : 0 < s.2) : lftS s x = (s.1, s.2 - 1) := by unfold lftS; rw [if_neg (by rw [h]; decide), if_pos h, if_pos h2]
theorem lftS_3 {s : Nat × Nat} {x : Tk} (h : x.k = 2) (h2 : ¬ 0 < s.2) : lftS s x = (s.1 + 1, s.2) := by unfold lftS; rw [if_neg (by rw [h]; decide), if_pos h, if_neg h2]
theorem lftS_4 {s : Nat × Nat} {x : Tk} (h : ¬ x.k = 1) (h2 : ¬ x.k = 2) : lftS s x = s := by unfold lftS; rw [if_neg h, if_neg h2]
def lft (l : List Tk) : Nat × Nat := l.foldl lftS (0, 0)
theorem lft_le (l : List Tk) : ∀ s : Nat × Nat, (l.foldl lftS s).1 + (l.foldl lftS s).2 ≤ s.1 + s.2 + l.length := by
  induction l with
  | nil => intro s; simp
  | cons x l ih =>
    intro s
    have h := ih (lftS s x)
    have h2 : (lftS s x).1 + (lftS s x).2 ≤ s.1 + s.2 + 1 := by
      by_cases h1 : x.k = 1
      · rw [lftS_1 h1]; simp only; omega
      · by_cases h2 : x.k = 2
        · by_cases h3 : 0 < s.2
          · rw [lftS_2 h2 h3]; simp only; omega
          · rw [lftS_3 h2 h3]; simp only; omega
        · rw [lftS_4 h1 h2]; omega
    simp only [List.foldl_cons, List.length_cons]; omega
theorem lft_succ (l : List Tk) (k : Nat) (hk : k < l.length) : lft (l.take (k + 1)) = lftS (lft (l.take k)) l[k] := by
  unfold lft; rw [List.take_succ_eq_append_getElem hk, List.foldl_append]; rfl
theorem lft_at (l : List Tk) (k : Nat) : (lft (l.take k)).1 + (lft (l.take k)).2 ≤ k := by
  have := lft_le (l.take k) (0, 0)
  unfold lft; rw [List.length_take] at this; omega
/-- what two rows leave together -/
theorem lft_from (l : List Tk) : ∀ s : Nat × Nat, l.foldl lftS s = (s.1 + (lft l).1 - min s.2 (lft l).1, (lft l).2 + s.2 - min s.2 (lft l).1) := by
  have hrev : ∀ (r : List Tk) (s : Nat × Nat), r.reverse.foldl lftS s = (s.1 + (lft r.reverse).1 - min s.2 (lft r.reverse).1, (lft r.reverse).2 + s.2 - min s.2 (lft r.reverse).1) := by
    intro r
    induction r with
    | nil => intro s; simp [lft]
    | cons x r ih =>
      intro s
      have e1 : lft (x :: r).reverse = lftS (lft r.reverse) x := by unfold lft; rw [List.reverse_cons, List.foldl_append]; rfl
      rw [e1, List.reverse_cons, List.foldl_append, ih s]
      simp only [List.foldl_cons, List.foldl_nil]
      generalize lft r.reverse = q
      obtain ⟨c, o⟩ := q
      obtain ⟨a, b⟩ := s
      by_cases h1 : x.k = 1
      · rw [lftS_1 h1, lftS_1 h1]; ext <;> simp only <;> omega
      · by_cases h2 : x.k = 2
        · by_cases h3 : 0 < o
          · rw [lftS_2 h2 (by simp only; omega), lftS_2 h2 h3]; ext <;> simp only <;> omega
          · by_cases h4 : c < b
            · rw [lftS_2 h2 (by simp only; omega), lftS_3 h2 h3]; ext <;> simp only <;> omega
            · rw [lftS_3 h2 (by simp only; omega), lftS_3 h2 h3]; ext <;> simp only <;> omega
        · rw [lftS_4 h1 h2, lftS_4 h1 h2]
  intro s
  have := hrev l.reverse s
  rwa [List.reverse_reverse] at this
theorem lft_app (l m : List Tk) : lft (l ++ m) = ((lft l).1 + (lft m).1 - min (lft l).2 (lft m).1, (lft m).2 + (lft l).2 - min (lft l).2 (lft m).1) := by
  rw [show lft (l ++ m) = m.foldl lftS (lft l) by unfold lft; rw [List.foldl_append], lft_from]

/-- how deep the first ones lead -/
def depS (d : Int) (x : Tk) : Int := if x.k = 1 then d + 1 else if x.k = 2 then d - 1 else d
def dep (l : List Tk) : Int := l.foldl depS 0
theorem dep_succ (l : List Tk) (k : Nat) (hk : k < l.length) : dep (l.take (k + 1)) = depS (dep (l.take k)) l[k] := by
  unfold dep; rw [List.take_succ_eq_append_getElem hk, List.foldl_append]; rfl
theorem dep_at (l : List Tk) : ∀ k : Nat, -(k : Int) ≤ dep (l.take k) ∧ dep (l.take k) ≤ (k : Int) := by
  intro k
  induction k with
  | zero => simp [dep]
  | succ k ih =>
    by_cases hk : k < l.length
    · rw [dep_succ l k hk]; unfold depS
      by_cases h1 : l[k].k = 1
      · rw [if_pos h1]; omega
      · by_cases h2 : l[k].k = 2
        · rw [if_neg h1, if_pos h2]; omega
        · rw [if_neg h1, if_neg h2]; omega
    · rw [List.take_of_length_le (by omega)] at ih ⊢; omega
def depthN (l : List Tk) (p : Int) : Int := if 0 ≤ p ∧ p ≤ l.length then dep (l.take p.toNat) else 0
end Go.Proofs.YtkeillekikbhoaaGreatDoor

/- rows: what is left of a row, by the program. -/
namespace Go.Proofs.YtkeillekikbhoaaGreatDoor
open Go.RowKit

set_option maxRecDepth 100000 in
theorem left_any (v : Value) (l : List Tk) (S : Nat → Prop) (w : World) (hv : Tks w S v l) :
    Calls Tryz.prog 9 #[v] w fun e w' => e = .returned (.tuple #[.int .i64 ((lft l).1 : Nat), .int .i64 ((lft l).2 : Nat)]) ∧ Below w.heap.size w w' := by
  obtain ⟨A, cap, rfl⟩ := hv.form
  have hm := hv.max
  unfold maxLen at hm
  go_enter Tryz.func9, Tryz.ntmps9
  go_wp2
  go_loopg [2, 3, 5, 8] l.length (fun g s2 s3 s5 s8 wr => ∃ k c o : Nat, k ≤ l.length ∧ g = l.length - k ∧ s2 = .int .i64 c ∧ s3 = .int .i64 o ∧ s8 = .int .i64 k ∧ c + o ≤ k ∧ Hid (lft (l.take k) = (c, o)) ∧ Below w.heap.size w wr)
  case atStart => exact ⟨0, 0, 0, Nat.zero_le _, by omega, rfl, rfl, rfl, by omega, rfl, Below.refl _ _⟩
  case round =>
    obtain ⟨k, c, o, hk, hg, rfl, rfl, rfl, hco, hq, hb⟩ := hrel
    have HG := Lib.hid hg
    clear hg
    by_cases hlt : k < l.length
    · obtain ⟨b, off, va, vm, rfl, hbS, hcap, h0, h1, h2, h3, h4, ra, rm⟩ := (hv.below hb).at hlt
      obtain ⟨A2, c2, rfl⟩ := ra.form
      obtain ⟨A3, c3, rfl⟩ := rm.form
      clear ra rm
      have hbs := hbS.2
      have hn : Hid (lft (l.take (k + 1)) = lftS (c, o) l[k]) := by show _ = _; rw [lft_succ l k hlt, hq.out]
      have hsz := hb.size
      generalize l[k] = x at *
      obtain ⟨kk, tt, aa, mm, cc⟩ := x
      simp only at h0 h1 h2 h3 h4
      by_cases h1k : kk = 1
      · have hn' : Hid (lft (l.take (k + 1)) = (c, o + 1)) := hn.out.trans (lftS_1 h1k)
        subst h1k
        go_wp2
        go_roundg (l.length - (k + 1))
        case measure => have := HG.out; omega
        case rel => exact ⟨k + 1, c, o + 1, by omega, rfl, rfl, by go_num, by go_num, by omega, hn', hb.alloc hsz _⟩
      · have h1b : (kk == 1) = false := beq_eq_false_iff_ne.2 h1k
        by_cases h2k : kk = 2
        · by_cases ho : 0 < o
          · have hn' : Hid (lft (l.take (k + 1)) = (c, o - 1)) := hn.out.trans (lftS_2 h2k ho)
            have ho1 : (0 : Int) < (o : Int) := by omega
            subst h2k
            clear h1k
            go_wp2
            go_roundg (l.length - (k + 1))
            case measure => have := HG.out; omega
            case rel => exact ⟨k + 1, c, o - 1, by omega, rfl, rfl, by go_num, by go_num, by omega, hn', hb.alloc hsz _⟩
          · have hn' : Hid (lft (l.take (k + 1)) = (c + 1, o)) := hn.out.trans (lftS_3 h2k ho)
            have ho1 : ¬ (0 : Int) < (o : Int) := by omega
            subst h2k
            clear h1k
            go_wp2
            go_roundg (l.length - (k + 1))
            case measure => have := HG.out; omega
            case rel => exact ⟨k + 1, c + 1, o, by omega, rfl, by go_num, rfl, by go_num, by omega, hn', hb.alloc hsz _⟩
        · have hn' : Hid (lft (l.take (k + 1)) = (c, o)) := hn.out.trans (lftS_4 h1k h2k)
          have h2b : (kk == 2) = false := beq_eq_false_iff_ne.2 h2k
          clear h1k h2k
          go_wp2
          go_roundg (l.length - (k + 1))
          case measure => have := HG.out; omega
          case rel => exact ⟨k + 1, c, o, by omega, rfl, rfl, rfl, by go_num, by omega, hn', hb.alloc hsz _⟩
    · have e : k = l.length := by omega
      have hf : Hid (lft l = (c, o)) := by
        show _ = _
        have := hq.out
        rwa [e, List.take_length] at this
      go_wp2
      go_ret2
      exact ⟨by rw [hf.out]; rfl, hb⟩

theorem infoTk : (Tryz.prog.info? 45).map (fun i => (i.zero, i.size, i.bytes)) = some (some (.agg #[.int .i64 0, .string .empty, .slice none 0 0, .slice none 0 0, .int .u8 0]), 5, 80) := by kernel_rfl
theorem left_to (v : Value) (l : List Tk) (S : Nat → Prop) (w : World) (hv : Tks w S v l) (c o : Nat) (hc : lft l = (c, o)) :
    Calls Tryz.prog 9 #[v] w fun e w' => e = .returned (.tuple #[.int .i64 c, .int .i64 o]) ∧ Below w.heap.size w w' :=
  (left_any v l S w hv).mono fun e w' ⟨he, hb⟩ => ⟨by rw [he, hc], hb⟩
theorem Tks.own {w : World} {base : Nat} {v : Value} {cs : List Value} {l : List Tk} (h : w.ownsRow base 45 5 v l.length cs) (hc : TkC w (fun _ => True) cs l) : Tks w (fun _ => True) v l := ⟨cs, (Rd.own h).rq fun _ hb => ⟨trivial, hb⟩, hc⟩
theorem TkC.top {w : World} {S : Nat → Prop} {cs : List Value} {l : List Tk} (h : TkC w S cs l) : TkC w (fun _ => True) cs l := h.keep fun _ _ h2 => ⟨trivial, h2, rfl⟩
theorem Tks.top {w : World} {S : Nat → Prop} {v : Value} {l : List Tk} (h : Tks w S v l) : Tks w (fun _ => True) v l := h.keep fun _ _ h2 => ⟨trivial, h2, rfl⟩
end Go.Proofs.YtkeillekikbhoaaGreatDoor

/- Arguments that are slices of structs, as lists; and what the row's reach says of their lengths. -/
namespace Go.Proofs.YtkeillekikbhoaaGreatDoor
open Go.ChangeShapes Go.WideShapes Go.ChangeAt Go.RowKit Go.Deep

theorem addr_add_add (a : Addr) (i j : Nat) : (a.add i).add j = a.add (i + j) := by
  unfold Addr.add
  by_cases hi : i = 0 <;> by_cases hj : j = 0 <;> simp [hi, hj, Nat.add_assoc]
theorem addr_add_0 (a : Addr) : a.add 0 = a := by unfold Addr.add; simp

section
variable {H : Type} {enc : TypeId × Value → H} {P : Program} {W : World} {base B : Nat} {sp : Nat → Bool} {hd : Bool} {t e : TypeId} {v : Value} {d : DataW H} {ps : List MemPlace} {r : Reach}

theorem list_of {T : Type} {Q : Nat → T → Prop} : ∀ (n : Nat), (∀ i, i < n → ∃ x, Q i x) → ∃ l : List T, l.length = n ∧ ∀ i (hi : i < l.length), Q i l[i]
  | 0, _ => ⟨[], rfl, fun i hi => by simp at hi⟩
  | n + 1, h => by
    obtain ⟨l, hl, hq⟩ := list_of n fun i hi => h i (by omega)
    obtain ⟨x, hx⟩ := h n (by omega)
    refine ⟨l ++ [x], by simp [hl], fun i hi => ?_⟩
    rw [List.length_append] at hi
    simp at hi
    by_cases hlt : i < l.length
    · rw [List.getElem_append_left hlt]; exact hq i hlt
    · have e1 : i = l.length := by omega
      subst e1
      rw [List.getElem_append_right (Nat.le_refl _)]
      simpa [hl] using hx

theorem flat_get {T : Type} (c : T → List Value) (sz : Nat) : ∀ (l : List T), (∀ x ∈ l, (c x).length = sz) → (l.flatMap c).length = l.length * sz ∧ ∀ k (hk : k < l.length) j, j < sz → (l.flatMap c)[k * sz + j]? = (c l[k])[j]?
  | [], _ => ⟨by simp, fun k hk => by simp at hk⟩
  | x :: l, h => by
    obtain ⟨h1, h2⟩ := flat_get c sz l fun y hy => h y (by simp [hy])
    have h0 := h x (by simp)
    refine ⟨by simp only [List.flatMap_cons, List.length_append, h1, h0, List.length_cons]; rw [Nat.add_mul]; omega, fun k hk j hj => ?_⟩
    cases k with
    | zero =>
      simp only [List.flatMap_cons, Nat.zero_mul, Nat.zero_add, List.getElem_cons_zero]
      rw [List.getElem?_append_left (by omega)]
    | succ k =>
      simp only [List.flatMap_cons, List.getElem_cons_succ]
      rw [List.getElem?_append_right (by rw [h0, Nat.add_mul]; omega), h0, show (k + 1) * sz + j - sz = k * sz + j by rw [Nat.add_mul]; omega]
      exact h2 k (by simpa using hk) j hj

/-- an argument that is a slice: its elements read as a list -/
theorem arg_list {T : Type} (c : T → List Value) (good : T → Prop) (ht : P.underlying t = some (.slice e)) {sz : Nat} (hC : P.cellsOf e = sz) (hsz : 0 < sz) (hval : Value.okWide P W r B t v) (h : DataW.Trod enc P W base sp hd t v d ps)
    (helem : ∀ (n : Nat) (cs : List Value) (x : DataW H × List MemPlace), DataW.trod enc P W base sp hd n e cs = some x → ∃ y : T, cs = c y ∧ (c y).length = sz ∧ good y) :
    ∃ l : List T, Rd W W.heap.size v sz l.length (l.flatMap c) ∧ (∀ y ∈ l, good y) ∧ (d = .nil ∧ l = [] ∨ ∃ elems spare, d = .slice elems spare ∧ elems.length = l.length) := by
  obtain ⟨a0, n0, c0, rfl⟩ := okWide_slice ht hval
  obtain ⟨fuel, hf⟩ := h
  rcases open_slice ht hf with ⟨hcs, hx⟩ | ⟨a, len, cap, m, n, D, Pl, hcs, hb, h1, h2, hm, hx, hi⟩
  · have e1 : Value.slice a0 n0 c0 = .slice none 0 0 := by simpa [Value.cells] using hcs
    rw [e1]
    simp only [Prod.mk.injEq] at hx
    exact ⟨[], Rd.nil W _ sz, by simp, .inl ⟨hx.1, rfl⟩⟩
  · have e1 : Value.slice a0 n0 c0 = .slice (some a) len cap := by simpa [Value.cells] using hcs
    rw [e1]
    simp only [Prod.mk.injEq] at hx
    have hlm : len ≤ m := by rw [hm]; split <;> omega
    obtain ⟨l, hl, hq⟩ := list_of (Q := fun i (y : T) => (∀ j, j < sz → W.cell? (a.add (i * sz + j)) = (c y)[j]?) ∧ (c y).length = sz ∧ good y) len (fun i hil => by
      obtain ⟨cs', hc, ht'⟩ := hi i (by omega)
      rw [hC] at hc
      obtain ⟨y, rfl, hly, hg⟩ := helem n cs' _ ht'
      obtain ⟨_, _, hat⟩ := World.cells?_some hc
      exact ⟨y, fun j hj => by rw [← addr_add_add]; exact hat j hj, hly, hg⟩)
    obtain ⟨f1, f2⟩ := flat_get c sz l fun y hy => by
      obtain ⟨i, hi, rfl⟩ := List.mem_iff_getElem.1 hy
      exact (hq i hi).2.1
    refine ⟨l, ⟨some a, cap, by rw [hl], f1, by omega, h2, ?_⟩, fun y hy => ?_, .inr ⟨_, _, hx.1, by simp [hl]⟩⟩
    · by_cases hl0 : l.length = 0
      · exact .inl hl0
      · right
        have hcell : ∀ j u, (l.flatMap c)[j]? = some u → W.cell? (a.add j) = some u := by
          intro j u hu
          have hjl : j < l.length * sz := by rw [← f1]; exact (List.getElem?_eq_some_iff.1 hu).1
          have hk : j / sz < l.length := Nat.div_lt_of_lt_mul (by rw [Nat.mul_comm]; exact hjl)
          have hjm : j % sz < sz := Nat.mod_lt _ hsz
          have ej : j / sz * sz + j % sz = j := Nat.div_add_mod' j sz
          rw [← ej] at hu ⊢
          rw [f2 _ hk _ hjm] at hu
          rw [(hq _ hk).1 _ hjm, hu]
        obtain ⟨b, off, spot⟩ := a
        have hpos : 0 < l.length * sz := Nat.mul_pos (by omega) hsz
        have h0 := hcell 0 _ (List.getElem?_eq_getElem (by rw [f1]; exact hpos))
        have hs : spot = none := by
          cases spot with
          | none => rfl
          | some x =>
            simp [World.cell?, Addr.add] at h0
            split at h0 <;> cases h0
        subst hs
        refine ⟨b, off, rfl, ?_, fun j u hu => by have := hcell j u hu; rwa [Addr.add_lit] at this⟩
        have := World.block_lt_of_cell? W _ h0
        simpa [Addr.add] using this
    · obtain ⟨i, hi, rfl⟩ := List.mem_iff_getElem.1 hy
      exact (hq i hi).2.2

/-- a struct's fields, each of one cell: the reading of each -/
theorem elem_fields {fs : Array Field} {n : Nat} {cs : List Value} {x : DataW H × List MemPlace} (he : P.underlying e = some (.struct fs)) (hone : oneCellFields P fs = true) (hC : P.cellsOf e = fs.size)
    (h : DataW.trod enc P W base sp hd n e cs = some x) : cs.length = fs.size ∧ ∃ m, ∀ (j : Nat) (f : Field), fs[j]? = some f → ∃ u y, cs[j]? = some u ∧ DataW.trod enc P W base sp hd m f.type [u] = some y := by
  obtain ⟨xs, m, _, _, hlen, hxl, hf⟩ := DataW.trod_struct he h
  refine ⟨hlen.trans hC, m, fun j f hj => ?_⟩
  obtain ⟨ho, hk⟩ := hone_of hone j f hj
  have hjl : j < fs.size := (Array.getElem?_eq_some_iff.1 hj).1
  have h1 := hf j f hj
  rw [ho, hk] at h1
  have hcl : j < cs.length := by omega
  have e1 : (cs.drop j).take 1 = [cs[j]] := by rw [List.drop_eq_getElem_cons hcl]; rfl
  rw [e1, List.getElem?_eq_getElem (by omega)] at h1
  exact ⟨cs[j], _, List.getElem?_eq_getElem hcl, h1⟩
end
end Go.Proofs.YtkeillekikbhoaaGreatDoor

/- Arguments that are slices of structs that hold slices: read as lists, with the row's reach for each list within. -/
namespace Go.Proofs.YtkeillekikbhoaaGreatDoor
open Go.ChangeShapes Go.WideShapes Go.ChangeAt Go.RowKit Go.Deep

/-- within the reach -/
def Light {H : Type} (P : Program) (t : TypeId) (d : DataW H) : Prop := ∀ n ∈ d.weights P t, n ≤ reachBytes
theorem weights_all {H : Type} {P : Program} {e : TypeId} : ∀ {ds : List (DataW H)} {d : DataW H}, d ∈ ds → ∀ n ∈ d.weights P e, n ∈ DataW.weightsAll P e ds
  | d0 :: ds, d, h, n, hn => by
    simp only [DataW.weightsAll, List.mem_append]
    rcases List.mem_cons.1 h with rfl | h
    · exact .inl hn
    · exact .inr (weights_all h n hn)
  | [], _, h, _, _ => by simp at h
theorem light_arg {H : Type} {P : Program} {ts : List TypeId} {ds : List (DataW H)} {d : DataW H} (h : (DataW.weightsEach P ts ds).all (· ≤ reachBytes) = true) {j : Nat} {t : TypeId} (ht : ts[j]? = some t) (hd : ds[j]? = some d) : Light P t d := by
  intro n hn
  have := List.all_eq_true.1 h _ (DataW.weights_mem_each ht hd n hn)
  simpa using this

section
variable {H : Type} {enc : TypeId × Value → H} {P : Program} {W : World} {base B : Nat} {sp : Nat → Bool} {hd : Bool} {t e : TypeId} {v : Value} {d : DataW H} {ps : List MemPlace} {r : Reach}

/-- a slice: its elements read as a list -/
theorem read_list {T : Type} (E : List Value → T → Prop) (ht : P.underlying t = some (.slice e)) {sz : Nat} (hC : P.cellsOf e = sz) (hsz : 0 < sz) {fuel : Nat} {cs : List Value} {x : DataW H × List MemPlace} (h : DataW.trod enc P W base sp hd fuel t cs = some x) (hw : Light P t x.1)
    (helem : ∀ (n : Nat) (cs : List Value) (x : DataW H × List MemPlace), DataW.trod enc P W base sp hd n e cs = some x → Light P e x.1 → ∃ y : T, cs.length = sz ∧ E cs y) :
    ∃ (v : Value) (l : List T) (ccs : List Value), cs = [v] ∧ Rd W W.heap.size v sz l.length ccs ∧ (∀ k (hk : k < l.length), ∃ c, c.length = sz ∧ (∀ j, j < sz → ccs[k * sz + j]? = c[j]?) ∧ E c l[k]) ∧ l.length * P.bytesOf e ≤ reachBytes := by
  rcases open_slice ht h with ⟨hcs, hx⟩ | ⟨a, len, cap, m, n, D, Pl, hcs, hb, h1, h2, hm, hx, hi⟩
  · exact ⟨_, [], [], hcs, Rd.nil W _ sz, fun k hk => by simp at hk, by simp⟩
  · rw [hx] at hw
    have hlm : len ≤ m := by rw [hm]; split <;> omega
    have hle : ∀ i, i < len → Light P e (D i) := fun i hi n hn => by
      refine hw n ?_
      simp only [DataW.weights, ht, List.mem_cons, List.mem_append]
      exact .inr (.inl (weights_all (List.mem_map.2 ⟨i, List.mem_range.2 hi, rfl⟩) n hn))
    have hreach : len * P.bytesOf e ≤ reachBytes := by
      have := hw _ (by simp only [DataW.weights, ht]; exact List.mem_cons_self ..)
      simp only [List.length_map, List.length_range] at this
      exact Nat.le_trans (Nat.mul_le_mul_right _ (Nat.le_add_right _ _)) this
    obtain ⟨l, hl, hq⟩ := list_of (Q := fun i (y : List Value × T) => (∀ j, j < sz → W.cell? (a.add (i * sz + j)) = (y.1)[j]?) ∧ y.1.length = sz ∧ E y.1 y.2) len (fun i hil => by
      obtain ⟨cs', hc, ht'⟩ := hi i (by omega)
      rw [hC] at hc
      obtain ⟨y, hly, hg⟩ := helem n cs' _ ht' (hle i hil)
      obtain ⟨_, _, hat⟩ := World.cells?_some hc
      exact ⟨(cs', y), fun j hj => by rw [← addr_add_add]; exact hat j hj, hly, hg⟩)
    obtain ⟨f1, f2⟩ := flat_get (fun y : List Value × T => y.1) sz l fun y hy => by
      obtain ⟨i, hi, rfl⟩ := List.mem_iff_getElem.1 hy
      exact (hq i hi).2.1
    refine ⟨_, l.map (·.2), l.flatMap (·.1), hcs, ⟨some a, cap, by rw [List.length_map, hl], by rw [List.length_map]; exact f1, by rw [List.length_map]; omega, h2, ?_⟩, fun k hk => ?_, by rw [List.length_map, hl]; exact hreach⟩
    · rw [List.length_map]
      by_cases hl0 : l.length = 0
      · exact .inl hl0
      · right
        have hcell : ∀ j u, (l.flatMap (·.1))[j]? = some u → W.cell? (a.add j) = some u := by
          intro j u hu
          have hjl : j < l.length * sz := by rw [← f1]; exact (List.getElem?_eq_some_iff.1 hu).1
          have hk : j / sz < l.length := Nat.div_lt_of_lt_mul (by rw [Nat.mul_comm]; exact hjl)
          have hjm : j % sz < sz := Nat.mod_lt _ hsz
          have ej : j / sz * sz + j % sz = j := Nat.div_add_mod' j sz
          rw [← ej] at hu ⊢
          rw [f2 _ hk _ hjm] at hu
          rw [(hq _ hk).1 _ hjm, hu]
        obtain ⟨b, off, spot⟩ := a
        have hpos : 0 < l.length * sz := Nat.mul_pos (by omega) hsz
        have h0 := hcell 0 _ (List.getElem?_eq_getElem (by rw [f1]; exact hpos))
        have hs : spot = none := by
          cases spot with
          | none => rfl
          | some x =>
            simp [World.cell?, Addr.add] at h0
            split at h0 <;> cases h0
        subst hs
        refine ⟨b, off, rfl, ?_, fun j u hu => by have := hcell j u hu; rwa [Addr.add_lit] at this⟩
        have := World.block_lt_of_cell? W _ h0
        simpa [Addr.add] using this
    · rw [List.length_map] at hk
      rw [List.getElem_map]
      exact ⟨l[k].1, (hq k hk).2.1, fun j hj => f2 k hk j hj, (hq k hk).2.2⟩

/-- a struct's fields, each of one cell -/
theorem read_fields {fs : Array Field} {n : Nat} {cs : List Value} {x : DataW H × List MemPlace} (he : P.underlying e = some (.struct fs)) (hone : oneCellFields P fs = true) (hC : P.cellsOf e = fs.size)
    (h : DataW.trod enc P W base sp hd n e cs = some x) (hw : Light P e x.1) : cs.length = fs.size ∧ ∃ m, ∀ (j : Nat) (f : Field), fs[j]? = some f → ∃ u y, cs[j]? = some u ∧ DataW.trod enc P W base sp hd m f.type [u] = some y ∧ Light P f.type y.1 := by
  obtain ⟨xs, m, _, hx, hlen, hxl, hf⟩ := DataW.trod_struct he h
  refine ⟨hlen.trans hC, m, fun j f hj => ?_⟩
  obtain ⟨ho, hk⟩ := hone_of hone j f hj
  have hjl : j < fs.size := (Array.getElem?_eq_some_iff.1 hj).1
  have h1 := hf j f hj
  rw [ho, hk] at h1
  have hcl : j < cs.length := by omega
  have e1 : (cs.drop j).take 1 = [cs[j]] := by rw [List.drop_eq_getElem_cons hcl]; rfl
  rw [e1, List.getElem?_eq_getElem (by omega)] at h1
  refine ⟨cs[j], _, List.getElem?_eq_getElem hcl, h1, fun q hq => hw q ?_⟩
  rw [hx]
  simp only [DataW.weights, he]
  refine DataW.weights_mem_each (j := j) (t := f.type) (d := xs[j].1) ?_ ?_ q hq
  · rw [List.getElem?_map, Array.getElem?_toList, hj]; rfl
  · rw [List.getElem?_map, List.getElem?_eq_getElem (by omega)]; rfl
end
end Go.Proofs.YtkeillekikbhoaaGreatDoor

/- Arguments that are rows of tokens. -/
namespace Go.Proofs.YtkeillekikbhoaaGreatDoor
open Go.ChangeShapes Go.WideShapes Go.ChangeAt Go.RowKit Go.Deep

theorem chunks_eq {T : Type} (c : T → List Value) {sz : Nat} (hsz : 0 < sz) {l : List T} {ccs : List Value} (hl : ccs.length = l.length * sz)
    (h : ∀ k (hk : k < l.length), ∃ c', c'.length = sz ∧ (∀ j, j < sz → ccs[k * sz + j]? = c'[j]?) ∧ c' = c l[k]) : ccs = l.flatMap c := by
  obtain ⟨f1, f2⟩ := flat_get c sz l fun y hy => by
    obtain ⟨k, hk, rfl⟩ := List.mem_iff_getElem.1 hy
    obtain ⟨c', h1, _, rfl⟩ := h k hk
    exact h1
  apply List.ext_getElem?
  intro j
  by_cases hj : j < l.length * sz
  · have hk : j / sz < l.length := Nat.div_lt_of_lt_mul (by rw [Nat.mul_comm]; exact hj)
    have hjm : j % sz < sz := Nat.mod_lt _ hsz
    rw [← Nat.div_add_mod' j sz, f2 _ hk _ hjm]
    obtain ⟨c', _, h2, rfl⟩ := h _ hk
    exact h2 _ hjm
  · rw [List.getElem?_eq_none (by omega), List.getElem?_eq_none (by omega)]

theorem tkOne2 : oneCellFields Tryz.prog (Tryz.prog.fieldsOf 109) = true := by kernel_rfl
theorem tkOne6 : oneCellFields Tryz.prog (Tryz.prog.fieldsOf 85) = true := by kernel_rfl
theorem tkOne8 : oneCellFields Tryz.prog (Tryz.prog.fieldsOf 45) = true := by kernel_rfl
theorem tkStr2 : Tryz.prog.underlying 109 = some (.struct (Tryz.prog.fieldsOf 109)) := by kernel_rfl
theorem tkStr6 : Tryz.prog.underlying 85 = some (.struct (Tryz.prog.fieldsOf 85)) := by kernel_rfl
theorem tkStr8 : Tryz.prog.underlying 45 = some (.struct (Tryz.prog.fieldsOf 45)) := by kernel_rfl
theorem tkCells2 : Tryz.prog.cellsOf 109 = 2 := by kernel_rfl
theorem tkCells6 : Tryz.prog.cellsOf 85 = 2 := by kernel_rfl
theorem tkCells8 : Tryz.prog.cellsOf 45 = 5 := by kernel_rfl
theorem tkSz2 : (Tryz.prog.fieldsOf 109).size = 2 := by kernel_rfl
theorem tkSz6 : (Tryz.prog.fieldsOf 85).size = 2 := by kernel_rfl
theorem tkSz8 : (Tryz.prog.fieldsOf 45).size = 5 := by kernel_rfl
theorem tkF2 : (Tryz.prog.fieldsOf 109).toList.map (·.type) = [9, 9] := by kernel_rfl
theorem tkF6 : (Tryz.prog.fieldsOf 85).toList.map (·.type) = [9, 31] := by kernel_rfl
theorem tkF8 : (Tryz.prog.fieldsOf 45).toList.map (·.type) = [3, 9, 31, 32, 5] := by kernel_rfl
theorem tkB2 : Tryz.prog.bytesOf 109 = 32 := by kernel_rfl
theorem tkB6 : Tryz.prog.bytesOf 85 = 40 := by kernel_rfl
theorem tkB8 : Tryz.prog.bytesOf 45 = 80 := by kernel_rfl
theorem field_at {fs : Array Field} {ts : List TypeId} (h : fs.toList.map (·.type) = ts) {j : Nat} {t : TypeId} (ht : ts[j]? = some t) : ∃ f : Field, fs[j]? = some f ∧ f.type = t := by
  rw [← h, List.getElem?_map, Array.getElem?_toList] at ht
  exact Option.map_eq_some_iff.1 ht

def FineM (l : List Mk) : Prop := l.length ≤ 3518437208783 ∧ ∀ y ∈ l, y.a.length ≤ 4398046511104
def FineT (l : List Tk) : Prop := ∀ x ∈ l, x.a.length ≤ 4398046511104 ∧ FineM x.m

section
variable {H : Type} {enc : TypeId × Value → H} {W : World} {base B : Nat} {sp : Nat → Bool} {hd : Bool} {v : Value} {d : DataW H} {ps : List MemPlace} {r : Go.Reach}

theorem read_ats {fuel : Nat} {cs : List Value} {x : DataW H × List MemPlace} (h : DataW.trod enc Tryz.prog W base sp hd fuel 31 cs = some x) (hw : Light Tryz.prog 31 x.1) :
    ∃ (v : Value) (l : List At), cs = [v] ∧ Rd W W.heap.size v 2 l.length (atC l) ∧ l.length ≤ 4398046511104 := by
  obtain ⟨v, l, ccs, rfl, hr, hc, hb⟩ := read_list (T := At) (fun c a => c = At.c a) Tryz.underlying31 tkCells2 (by omega) h hw (fun n cs x hx hw => by
    obtain ⟨hl, m, hf⟩ := read_fields tkStr2 tkOne2 (tkCells2.trans tkSz2.symm) hx hw
    rw [tkSz2] at hl
    obtain ⟨f0, h0, t0⟩ := field_at tkF2 (j := 0) rfl
    obtain ⟨f1, h1, t1⟩ := field_at tkF2 (j := 1) rfl
    obtain ⟨u0, y0, c0, r0, _⟩ := hf 0 f0 h0
    obtain ⟨u1, y1, c1, r1, _⟩ := hf 1 f1 h1
    rw [t0] at r0
    rw [t1] at r1
    obtain ⟨s0, e0, _, w0⟩ := DataW.trod_string Tryz.underlying9 r0
    obtain ⟨s1, e1, _, w1⟩ := DataW.trod_string Tryz.underlying9 r1
    simp only [List.cons.injEq, and_true] at e0 e1
    subst e0 e1
    match cs, hl with
    | [a, b], _ =>
      simp at c0 c1
      subst c0 c1
      exact ⟨⟨s0, s1⟩, rfl, rfl⟩)
  refine ⟨v, l, rfl, ?_, by rw [tkB2] at hb; unfold reachBytes at hb; omega⟩
  have := chunks_eq At.c (by omega) hr.len hc
  rw [this] at hr
  exact hr

theorem read_mks {fuel : Nat} {cs : List Value} {x : DataW H × List MemPlace} (h : DataW.trod enc Tryz.prog W base sp hd fuel 32 cs = some x) (hw : Light Tryz.prog 32 x.1) :
    ∃ (v : Value) (l : List Mk), cs = [v] ∧ Mks W (fun _ => True) v l ∧ FineM l := by
  obtain ⟨v, l, ccs, rfl, hr, hc, hb⟩ := read_list (T := Mk) (fun c y => ∃ va, c = [.string y.t, va] ∧ Rq W (fun _ => True) va 2 y.a.length (atC y.a) ∧ y.a.length ≤ 4398046511104) Tryz.underlying32 tkCells6 (by omega) h hw (fun n cs x hx hw => by
    obtain ⟨hl, m, hf⟩ := read_fields tkStr6 tkOne6 (tkCells6.trans tkSz6.symm) hx hw
    rw [tkSz6] at hl
    obtain ⟨f0, h0, t0⟩ := field_at tkF6 (j := 0) rfl
    obtain ⟨f1, h1, t1⟩ := field_at tkF6 (j := 1) rfl
    obtain ⟨u0, y0, c0, r0, _⟩ := hf 0 f0 h0
    obtain ⟨u1, y1, c1, r1, w1⟩ := hf 1 f1 h1
    rw [t0] at r0
    rw [t1] at r1 w1
    obtain ⟨s0, e0, _, w0⟩ := DataW.trod_string Tryz.underlying9 r0
    obtain ⟨v1, l1, e1, hr1, hb1⟩ := read_ats r1 w1
    simp only [List.cons.injEq, and_true] at e0 e1
    subst e0 e1
    match cs, hl with
    | [a, b], _ =>
      simp at c0 c1
      subst c0 c1
      exact ⟨⟨s0, l1⟩, rfl, _, rfl, hr1.rq fun b hb => ⟨trivial, hb⟩, hb1⟩)
  refine ⟨v, l, rfl, ⟨ccs, hr.rq fun b hb => ⟨trivial, hb⟩, hr.len, fun k hk => ?_⟩, by rw [tkB6] at hb; unfold reachBytes at hb; omega, fun y hy => ?_⟩
  · obtain ⟨c, _, h2, va, rfl, h3, _⟩ := hc k hk
    exact ⟨by have := h2 0 (by omega); simpa using this, va, by have := h2 1 (by omega); simpa using this, h3⟩
  · obtain ⟨k, hk, rfl⟩ := List.mem_iff_getElem.1 hy
    obtain ⟨c, _, h2, va, rfl, _, h4⟩ := hc k hk
    exact h4

set_option maxRecDepth 100000 in
theorem arg_toks (hval : Value.okWide Tryz.prog W r B 27 v) (h : DataW.Trod enc Tryz.prog W base sp hd 27 v d ps) (hw : Light Tryz.prog 27 d) :
    ∃ l : List Tk, Tks W (fun _ => True) v l ∧ Hid (FineT l) := by
  obtain ⟨a0, n0, c0, rfl⟩ := okWide_slice Tryz.underlying27 hval
  obtain ⟨fuel, hf⟩ := h
  obtain ⟨v, l, ccs, hv, hr, hc, hb⟩ := read_list (T := Tk) (fun c y => ∃ va vm, c = [.int .i64 y.k, .string y.t, va, vm, .int .u8 y.c] ∧ Rq W (fun _ => True) va 2 y.a.length (atC y.a) ∧ Mks W (fun _ => True) vm y.m ∧ y.a.length ≤ 4398046511104 ∧ FineM y.m)
      Tryz.underlying27 tkCells8 (by omega) hf hw (fun n cs x hx hw => by
    obtain ⟨hl, m, hf⟩ := read_fields tkStr8 tkOne8 (tkCells8.trans tkSz8.symm) hx hw
    rw [tkSz8] at hl
    obtain ⟨f0, h0, t0⟩ := field_at tkF8 (j := 0) rfl
    obtain ⟨f1, h1, t1⟩ := field_at tkF8 (j := 1) rfl
    obtain ⟨f2, h2, t2⟩ := field_at tkF8 (j := 2) rfl
    obtain ⟨f3, h3, t3⟩ := field_at tkF8 (j := 3) rfl
    obtain ⟨f4, h4, t4⟩ := field_at tkF8 (j := 4) rfl
    obtain ⟨u0, y0, c0, r0, _⟩ := hf 0 f0 h0
    obtain ⟨u1, y1, c1, r1, _⟩ := hf 1 f1 h1
    obtain ⟨u2, y2, c2, r2, w2⟩ := hf 2 f2 h2
    obtain ⟨u3, y3, c3, r3, w3⟩ := hf 3 f3 h3
    obtain ⟨u4, y4, c4, r4, _⟩ := hf 4 f4 h4
    rw [t0] at r0
    rw [t1] at r1
    rw [t2] at r2 w2
    rw [t3] at r3 w3
    rw [t4] at r4
    obtain ⟨s0, e0, _⟩ := DataW.trod_int Tryz.underlying3 r0
    obtain ⟨s1, e1, _⟩ := DataW.trod_string Tryz.underlying9 r1
    obtain ⟨v2, l2, e2, hr2, hb2⟩ := read_ats r2 w2
    obtain ⟨v3, l3, e3, hr3, hb3⟩ := read_mks r3 w3
    obtain ⟨s4, e4, _⟩ := DataW.trod_int Tryz.underlying5 r4
    simp only [List.cons.injEq, and_true] at e0 e1 e2 e3 e4
    subst e0 e1 e2 e3 e4
    match cs, hl with
    | [a, b, c, d, e], _ =>
      simp at c0 c1 c2 c3 c4
      subst c0 c1 c2 c3 c4
      exact ⟨⟨s0, s1, l2, l3, s4⟩, rfl, _, _, rfl, hr2.rq fun b hb => ⟨trivial, hb⟩, hr3, hb2, hb3⟩)
  have hv' : v = .slice a0 n0 c0 := by simpa [Value.cells] using hv.symm
  subst hv'
  refine ⟨l, ⟨ccs, hr.rq fun b hb => ⟨trivial, hb⟩, hr.len, fun k hk => ?_⟩, fun y hy => ?_⟩
  · obtain ⟨c, _, h2, va, vm, rfl, h3, h4, _⟩ := hc k hk
    exact ⟨by have := h2 0 (by omega); simpa using this, by have := h2 1 (by omega); simpa using this, ⟨va, by have := h2 2 (by omega); simpa using this, h3⟩, ⟨vm, by have := h2 3 (by omega); simpa using this, h4⟩, by have := h2 4 (by omega); simpa using this⟩
  · obtain ⟨k, hk, rfl⟩ := List.mem_iff_getElem.1 hy
    obtain ⟨c, _, h2, va, vm, rfl, _, _, h5, h6⟩ := hc k hk
    exact ⟨h5, h6⟩
end
end Go.Proofs.YtkeillekikbhoaaGreatDoor

/- marks compared, tokens compared: by the program and by the reference. -/
namespace Go.Proofs.YtkeillekikbhoaaGreatDoor
open Go.RowKit

set_option maxRecDepth 100000 in
theorem order_any (x y : Mk) (va vb : Value) (S : Nat → Prop) (w : World) (ha : Rq w S va 2 x.a.length (atC x.a)) (hb : Rq w S vb 2 y.a.length (atC y.a)) (hr : ReachA x.a.length) (hr2 : ReachA y.a.length) :
    Calls Tryz.prog 126 #[.agg #[.string x.t, va], .agg #[.string y.t, vb]] w fun e w' => e = .returned (.int .i64 (sgM x y)) ∧ Below w.heap.size w w' := by
  obtain ⟨Aa, ca, rfl⟩ := ha.form
  obtain ⟨Ab, cb, rfl⟩ := hb.form
  obtain ⟨xt, xa⟩ := x
  obtain ⟨yt, ya⟩ := y
  have hf : Hid (sgM ⟨xt, xa⟩ ⟨yt, ya⟩ = orP [cmpS xt yt, cmpG xa ya]) := by show _ = _; rw [or2]; rfl
  simp only at ha hb hr hr2
  have B1 : Below w.heap.size w ((w.alloc (.cells #[.string xt, .slice Aa xa.length ca] 85)).alloc (.cells #[.string yt, .slice Ab ya.length cb] 85)) := ((Below.refl _ _).alloc (Nat.le_refl _) _).alloc (by simp) _
  have C1 := Lib.hid ((Below.refl ((w.alloc (.cells #[.string xt, .slice Aa xa.length ca] 85)).alloc (.cells #[.string yt, .slice Ab ya.length cb] 85)).heap.size ((w.alloc (.cells #[.string xt, .slice Aa xa.length ca] 85)).alloc (.cells #[.string yt, .slice Ab ya.length cb] 85))).drew)
  have HX : Hid (∀ w', Below ((w.alloc (.cells #[.string xt, .slice Aa xa.length ca] 85)).alloc (.cells #[.string yt, .slice Ab ya.length cb] 85)).heap.size ((w.alloc (.cells #[.string xt, .slice Aa xa.length ca] 85)).alloc (.cells #[.string yt, .slice Ab ya.length cb] 85)) w' → w'.cell? ⟨w.heap.size, 0, none⟩ = some (.string xt) ∧ w'.cell? ⟨w.heap.size, 1, none⟩ = some (.slice Aa xa.length ca) ∧ w'.cell? ⟨w.heap.size + 1, 0, none⟩ = some (.string yt) ∧ w'.cell? ⟨w.heap.size + 1, 1, none⟩ = some (.slice Ab ya.length cb)) := by
    have h : Hid ((fun w' : World => w'.cell? ⟨w.heap.size, 0, none⟩ = some (.string xt) ∧ w'.cell? ⟨w.heap.size, 1, none⟩ = some (.slice Aa xa.length ca) ∧ w'.cell? ⟨w.heap.size + 1, 0, none⟩ = some (.string yt) ∧ w'.cell? ⟨w.heap.size + 1, 1, none⟩ = some (.slice Ab ya.length cb)) ((w.alloc (.cells #[.string xt, .slice Aa xa.length ca] 85)).alloc (.cells #[.string yt, .slice Ab ya.length cb] 85))) := by show _ ∧ _; refine ⟨?_, ?_, ?_, ?_⟩ <;> go_simp
    exact fun w' k => ⟨(k.cell (p := ⟨w.heap.size, 0, none⟩) (by simp <;> omega)).trans h.out.1, (k.cell (p := ⟨w.heap.size, 1, none⟩) (by simp <;> omega)).trans h.out.2.1, (k.cell (p := ⟨w.heap.size + 1, 0, none⟩) (by simp <;> omega)).trans h.out.2.2.1, (k.cell (p := ⟨w.heap.size + 1, 1, none⟩) (by simp <;> omega)).trans h.out.2.2.2⟩
  have HC : Hid (∀ w' : World, Below ((w.alloc (.cells #[.string xt, .slice Aa xa.length ca] 85)).alloc (.cells #[.string yt, .slice Ab ya.length cb] 85)).heap.size ((w.alloc (.cells #[.string xt, .slice Aa xa.length ca] 85)).alloc (.cells #[.string yt, .slice Ab ya.length cb] 85)) w' → Calls Tryz.prog 58 #[.slice Aa xa.length ca, .slice Ab ya.length cb] w' fun e w'' => e = .returned (.int .i64 (cmpG xa ya)) ∧ Below ((w.alloc (.cells #[.string xt, .slice Aa xa.length ca] 85)).alloc (.cells #[.string yt, .slice Ab ya.length cb] 85)).heap.size ((w.alloc (.cells #[.string xt, .slice Aa xa.length ca] 85)).alloc (.cells #[.string yt, .slice Ab ya.length cb] 85)) w'') := fun w' h =>
    (compare_any _ _ _ _ _ _ (ha.keep (.below (B1.trans (h.mono B1.size)))).rd (hb.keep (.below (B1.trans (h.mono B1.size)))).rd (Nat.le_refl _) hr hr2).mono fun e w'' ⟨he, hb⟩ => ⟨he, h.trans (hb.mono h.size)⟩
  have HO : Hid (∀ w' : World, Calls Tryz.prog 84 #[.slice (some ⟨w'.heap.size, 0, none⟩) 2 2] (w'.alloc (.cells #[.int .i64 (cmpS xt yt), .int .i64 (cmpG xa ya)] 3)) fun e w'' => e = .returned (.int .i64 (orP [cmpS xt yt, cmpG xa ya])) ∧ w'.alloc (.cells #[.int .i64 (cmpS xt yt), .int .i64 (cmpG xa ya)] 3) = w'') := fun w' =>
    orI_any _ [cmpS xt yt, cmpG xa ya] _ _ (Rd.lit w' 3 1 2 #[.int .i64 (cmpS xt yt), .int .i64 (cmpG xa ya)] (0, 0) rfl (by omega))
  clear ha hb hr hr2
  go_enter Tryz.func126, Tryz.ntmps126
  go_wp2_with fail
  go_region_held3 (fun w' => w'.cell? ⟨w.heap.size, 0, none⟩ = some (.string xt) ∧ w'.cell? ⟨w.heap.size, 1, none⟩ = some (.slice Aa xa.length ca) ∧ w'.cell? ⟨w.heap.size + 1, 0, none⟩ = some (.string yt) ∧ w'.cell? ⟨w.heap.size + 1, 1, none⟩ = some (.slice Ab ya.length cb))
    (first
      | exact HX.out _ (Below.refl _ _)
      | exact HX.out _ C1.out
      | exact HX.out _ B3.out
      | exact HX.out _ (B3.out.alloc B3.out.size _))
    (first
      | (go_at_call 82; refine (cmpS_any _ _ _).mono ?_; rintro e w' ⟨rfl, rfl⟩)
      | (go_at_call 58; refine (HC.out _ C1.out).mono ?_; rintro e w3 ⟨rfl, b3⟩; have B3 := Lib.hid b3; clear b3)
      | (go_at_call 84; refine (HO.out w3).mono ?_; rintro e w4 ⟨rfl, rfl⟩))
  have B4 := B1.trans ((B3.out.alloc B3.out.size (.cells #[.int .i64 (cmpS xt yt), .int .i64 (cmpG xa ya)] 3)).mono B1.size)
  clear HX HC HO B3
  go_wp2
  go_ret
  exact ⟨ret_int hf.out.symm, B4⟩

theorem cmpMs_step {l m : List Mk} {k : Nat} (hl : k < l.length) (hm : k < m.length) (h : cmpMs l m = cmpMs (l.drop k) (m.drop k)) (h0 : sgM l[k] m[k] = 0) : cmpMs l m = cmpMs (l.drop (k + 1)) (m.drop (k + 1)) := by
  rw [h, cmpMs_at hl hm, if_pos h0]
theorem cmpMs_stop {l m : List Mk} {k : Nat} (hl : k < l.length) (hm : k < m.length) (h : cmpMs l m = cmpMs (l.drop k) (m.drop k)) (h0 : sgM l[k] m[k] ≠ 0) : cmpMs l m = sgM l[k] m[k] := by
  rw [h, cmpMs_at hl hm, if_neg h0]
theorem FineM.at {l : List Mk} (h : FineM l) {k : Nat} (hk : k < l.length) : ReachA l[k].a.length := h.2 _ (List.getElem_mem hk)

set_option maxRecDepth 100000 in
theorem cmpMks_any (va vb : Value) (l m : List Mk) (S : Nat → Prop) (w : World) (hl : Mks w S va l) (hm : Mks w S vb m) (gl : Hid (FineM l)) (gm : Hid (FineM m)) :
    Calls Tryz.prog 125 #[va, vb, .func (.func 126) #[] #[]] w fun e w' => e = .returned (.int .i64 (cmpMs l m)) ∧ Below w.heap.size w w' := by
  obtain ⟨A, ca, rfl⟩ := hl.form
  obtain ⟨B, cb, rfl⟩ := hm.form
  have hml := hl.max
  have hmm := hm.max
  unfold maxLen at hml hmm
  go_enter Tryz.func125, Tryz.ntmps125
  go_wp2
  go_loopg [7, 8, 9, 10, 13] l.length (fun g s7 s8 s9 s10 s13 wr => ∃ k : Nat, k ≤ l.length ∧ k ≤ m.length ∧ g = l.length - k ∧ s13 = .int .i64 k ∧ Hid (cmpMs l m = cmpMs (l.drop k) (m.drop k)) ∧ Below w.heap.size w wr)
  case atStart => exact ⟨0, Nat.zero_le _, Nat.zero_le _, by omega, rfl, rfl, Below.refl _ _⟩
  case round =>
    obtain ⟨k, hkl, hkm, hg, rfl, hq, hb⟩ := hrel
    have HG := Lib.hid hg
    clear hg
    have hsz := hb.size
    by_cases hlt : k < l.length
    · obtain ⟨bl, offl, vx, rfl, hblS, hcl, hl0, hl1, rx⟩ := (hl.below hb).at hlt
      obtain ⟨Ax, cx, rfl⟩ := rx.form
      have hbl := hblS.2
      by_cases hlm : k < m.length
      · obtain ⟨bm, offm, vy, rfl, hbmS, hcm, hm0, hm1, ry⟩ := (hm.below hb).at hlm
        obtain ⟨Ay, cy, rfl⟩ := ry.form
        have hbm := hbmS.2
        have hi2 : ¬ (m.length : Int) ≤ (k : Int) := by omega
        obtain ⟨z, hz⟩ : ∃ z, Hid (z = sgM l[k] m[k]) := ⟨sgM l[k] m[k], Lib.hid rfl⟩
        have HC : Hid (∀ w', Below wr.heap.size wr w' → Calls Tryz.prog 126 #[.agg #[.string l[k].t, .slice Ax l[k].a.length cx], .agg #[.string m[k].t, .slice Ay m[k].a.length cy]] w' fun e w'' => e = .returned (.int .i64 z) ∧ Below wr.heap.size wr w'') := fun w' h =>
          (order_any l[k] m[k] _ _ S w' (rx.keep (.below h)) (ry.keep (.below h)) (gl.out.at hlt) (gm.out.at hlm)).mono fun e w'' ⟨he, hb⟩ => ⟨by rw [he, hz.out], h.trans (hb.mono h.size)⟩
        clear rx ry
        have C2 : Below wr.heap.size wr ((wr.alloc (.cells #[.string l[k].t, .slice Ax l[k].a.length cx] 85)).alloc (.cells #[.string m[k].t, .slice Ay m[k].a.length cy] 85)) := ((Below.refl _ _).alloc (Nat.le_refl _) _).alloc (by simp) _
        by_cases hz0 : z = 0
        · have hq' : Hid (cmpMs l m = cmpMs (l.drop (k + 1)) (m.drop (k + 1))) := cmpMs_step hlt hlm hq.out (hz.out.symm.trans hz0)
          subst hz0
          go_wp2_with fail
          refine (HC.out _ C2).mono ?_
          rintro e w3 ⟨rfl, b3⟩
          have b4 := hb.trans (b3.mono hsz)
          clear b3 C2 HC
          go_wp2
          go_roundg (l.length - (k + 1))
          case measure => have := HG.out; omega
          case rel => exact ⟨k + 1, by omega, by omega, rfl, by go_num, hq', b4⟩
        · have hf : Hid (cmpMs l m = z) := (cmpMs_stop hlt hlm hq.out (by rw [← hz.out]; exact hz0)).trans hz.out.symm
          have hz1 : (z != 0) = true := by rw [bne_iff_ne]; exact hz0
          clear hz0
          go_wp2_with fail
          refine (HC.out _ C2).mono ?_
          rintro e w3 ⟨rfl, b3⟩
          have b4 := hb.trans (b3.mono hsz)
          clear b3 C2 HC
          go_wp2
          go_ret
          exact ⟨ret_int hf.out.symm, b4⟩
      · have e : k = m.length := by omega
        have hf : Hid (cmpMs l m = 1) := hq.out.trans (cmpMs_nil_l hlt e)
        have hi2 : (m.length : Int) ≤ (k : Int) := by omega
        clear e rx
        go_wp2
        go_ret
        exact ⟨ret_int hf.out.symm, hb.alloc hsz _⟩
    · have e : k = l.length := by omega
      have hf : Hid (cmpMs l m = cmpI l.length m.length) := hq.out.trans (cmpMs_end hkl hkm (by omega))
      by_cases h2 : l.length < m.length
      · have hf2 : Hid (cmpMs l m = -1) := hf.out.trans (by unfold cmpI; rw [if_pos (by omega)])
        clear e
        go_wp2
        go_ret
        exact ⟨ret_int hf2.out.symm, hb⟩
      · have hf2 : Hid (cmpMs l m = 0) := hf.out.trans (by unfold cmpI; rw [if_neg (by omega), if_neg (by omega)])
        clear e
        go_wp2
        go_ret
        exact ⟨ret_int hf2.out.symm, hb⟩

set_option maxRecDepth 100000 in
theorem mkCompare_any (va vb : Value) (l m : List Mk) (S : Nat → Prop) (w : World) (hl : Mks w S va l) (hm : Mks w S vb m) (gl : Hid (FineM l)) (gm : Hid (FineM m)) :
    Calls Tryz.prog 80 #[va, vb] w fun e w' => e = .returned (.int .i64 (cmpMs l m)) ∧ Below w.heap.size w w' := by
  obtain ⟨A, ca, rfl⟩ := hl.form
  obtain ⟨B, cb, rfl⟩ := hm.form
  obtain ⟨z, hz⟩ : ∃ z, Hid (z = cmpMs l m) := ⟨cmpMs l m, Lib.hid rfl⟩
  have HC := Lib.hid (cmpMks_any _ _ l m S w hl hm gl gm)
  rw [← hz.out] at HC ⊢
  go_enter Tryz.func80, Tryz.ntmps80
  go_wp2_with fail
  refine HC.out.mono ?_
  rintro e w1 ⟨rfl, b1⟩
  go_wp2
  go_ret
  exact ⟨rfl, b1⟩

set_option maxRecDepth 100000 in
set_option maxHeartbeats 2000000 in
theorem refMkCompare_any (va vb : Value) (l m : List Mk) (S : Nat → Prop) (w : World) (hl : Mks w S va l) (hm : Mks w S vb m) :
    Calls Tryz.prog 60 #[va, vb] w fun e w' => e = .returned (.int .i64 (cmpMs l m)) ∧ Below w.heap.size w w' := by
  obtain ⟨A, ca, rfl⟩ := hl.form
  obtain ⟨B, cb, rfl⟩ := hm.form
  have hml := hl.max
  have hmm := hm.max
  unfold maxLen at hml hmm
  go_enter Tryz.func60, Tryz.ntmps60
  go_wp2
  go_loopg [5, 6] l.length (fun g s5 s6 wr => ∃ k : Nat, k ≤ l.length ∧ k ≤ m.length ∧ g = l.length - k ∧ s5 = .int .i64 k ∧ Hid (cmpMs l m = cmpMs (l.drop k) (m.drop k)) ∧ Below w.heap.size w wr)
  case atStart => exact ⟨0, Nat.zero_le _, Nat.zero_le _, by omega, rfl, rfl, Below.refl _ _⟩
  case round =>
    obtain ⟨k, hkl, hkm, hg, rfl, hq, hb⟩ := hrel
    have HG := Lib.hid hg
    clear hg
    have hsz := hb.size
    by_cases hlt : k < l.length ∧ k < m.length
    · obtain ⟨hlt, hlm⟩ := hlt
      obtain ⟨bl, offl, vx, rfl, hblS, hcl, hl0, hl1, rx⟩ := (hl.below hb).at hlt
      obtain ⟨Ax, cx, rfl⟩ := rx.form
      have hbl := hblS.2
      obtain ⟨bm, offm, vy, rfl, hbmS, hcm, hm0, hm1, ry⟩ := (hm.below hb).at hlm
      obtain ⟨Ay, cy, rfl⟩ := ry.form
      have hbm := hbmS.2
      have hi1 : (k : Int) < (l.length : Int) := by omega
      have hi2 : (k : Int) < (m.length : Int) := by omega
      have hi0 : (0 : Int) ≤ (k : Int) := by omega
      have hs : Hid (sgM l[k] m[k] = if cmpS l[k].t m[k].t = 0 then cmpG l[k].a m[k].a else cmpS l[k].t m[k].t) := rfl
      obtain ⟨x, hx⟩ : ∃ x, Hid (x = cmpS l[k].t m[k].t) := ⟨cmpS l[k].t m[k].t, Lib.hid rfl⟩
      obtain ⟨y, hy⟩ : ∃ y, Hid (y = cmpG l[k].a m[k].a) := ⟨cmpG l[k].a m[k].a, Lib.hid rfl⟩
      have HN : Hid (∀ W, Calls Tryz.prog 85 #[.string l[k].t, .string m[k].t] W fun e w' => e = .returned (.int .i64 x) ∧ w' = W) := fun W => (texts_any _ _ W).mono fun _ _ ⟨a, b⟩ => ⟨by rw [a, hx.out], b.symm⟩
      have HC : Hid (∀ w', Below wr.heap.size wr w' → Calls Tryz.prog 59 #[.slice Ax l[k].a.length cx, .slice Ay m[k].a.length cy] w' fun e w'' => e = .returned (.int .i64 y) ∧ Below wr.heap.size wr w'') := fun w' h =>
        (refCompare_any _ _ _ _ _ w' (rx.keep (.below h)).rd (ry.keep (.below h)).rd (Nat.le_refl _)).mono fun e w'' ⟨he, hb⟩ => ⟨by rw [he, hy.out], h.trans (hb.mono h.size)⟩
      have C0 : Hid (∀ n, Below wr.heap.size wr (wr.drewN n)) := fun n => blN (Below.refl _ _) n
      clear rx ry
      by_cases hx0 : x = 0
      · have hsx : Hid (sgM l[k] m[k] = y) := by show _ = _; rw [hs.out, ← hx.out, if_pos hx0, hy.out]
        subst hx0
        by_cases hy0 : y = 0
        · have hq' : Hid (cmpMs l m = cmpMs (l.drop (k + 1)) (m.drop (k + 1))) := cmpMs_step hlt hlm hq.out (hsx.out.trans hy0)
          subst hy0
          go_wp2
          go_quiet ((go_at_call 85; exact Calls.quiet_of_same (HN.out _)))
          go_wp2
          go_region_with (go_at_call 59; refine (HC.out _ (C0.out _).drew).mono ?_; rintro e w3 ⟨rfl, b3⟩; have B3 := Lib.hid (hb.trans (b3.mono hsz)); clear b3)
          all_goals
            go_wp2
            go_roundg (l.length - (k + 1))
            case measure => have := HG.out; omega
            case rel => exact ⟨k + 1, by omega, by omega, rfl, by go_num, hq', B3.out⟩
        · have hf : Hid (cmpMs l m = y) := (cmpMs_stop hlt hlm hq.out (by rw [hsx.out]; exact hy0)).trans hsx.out
          have hy1 : (y != 0) = true := by rw [bne_iff_ne]; exact hy0
          clear hy0
          go_wp2
          go_quiet ((go_at_call 85; exact Calls.quiet_of_same (HN.out _)))
          go_wp2
          go_region_with (go_at_call 59; refine (HC.out _ (C0.out _).drew).mono ?_; rintro e w3 ⟨rfl, b3⟩; have B3 := Lib.hid (hb.trans (b3.mono hsz)); clear b3)
          all_goals
            go_wp2
            go_ret
            exact ⟨ret_int hf.out.symm, B3.out⟩
      · have hsx : Hid (sgM l[k] m[k] = x) := by show _ = _; rw [hs.out, ← hx.out, if_neg hx0]
        have hf : Hid (cmpMs l m = x) := (cmpMs_stop hlt hlm hq.out (by rw [hsx.out]; exact hx0)).trans hsx.out
        have hx1 : (x != 0) = true := by rw [bne_iff_ne]; exact hx0
        have hx2 : (x == 0) = false := beq_eq_false_iff_ne.2 hx0
        clear hx0
        go_wp2
        go_quiet ((go_at_call 85; exact Calls.quiet_of_same (HN.out _)))
        go_wp2
        go_ret
        exact ⟨ret_int hf.out.symm, blN hb _⟩
    · have hf : Hid (cmpMs l m = cmpI l.length m.length) := hq.out.trans (cmpMs_end hkl hkm hlt)
      by_cases h1 : l.length < m.length
      · have hf2 : Hid (cmpI l.length m.length = -1) := by show _ = _; unfold cmpI; rw [if_pos (by omega)]
        have hk1 : ¬ k < l.length := by omega
        clear hlt
        go_wp2
        go_ret
        exact ⟨ret_int (by rw [hf.out, hf2.out]), hb⟩
      · by_cases h2 : m.length < l.length
        · have hf2 : Hid (cmpI l.length m.length = 1) := by show _ = _; unfold cmpI; rw [if_neg (by omega), if_pos (by omega)]
          by_cases hk1 : k < l.length
          · have hk2 : ¬ k < m.length := by omega
            clear hlt
            go_wp2
            go_ret
            exact ⟨ret_int (by rw [hf.out, hf2.out]), hb⟩
          · omega
        · have hf2 : Hid (cmpI l.length m.length = 0) := by show _ = _; unfold cmpI; rw [if_neg (by omega), if_neg (by omega)]
          have hk1 : ¬ k < l.length := by omega
          clear hlt
          go_wp2
          go_ret
          exact ⟨ret_int (by rw [hf.out, hf2.out]), hb⟩
end Go.Proofs.YtkeillekikbhoaaGreatDoor

/- tokens compared: by the program and by the reference. -/
namespace Go.Proofs.YtkeillekikbhoaaGreatDoor
open Go.RowKit

set_option maxRecDepth 100000 in
theorem marked_any (x y : Tk) (vx mx vy my : Value) (S : Nat → Prop) (w : World) (ax : Rq w S vx 2 x.a.length (atC x.a)) (hx : Mks w S mx x.m) (ay : Rq w S vy 2 y.a.length (atC y.a)) (hy : Mks w S my y.m) (gx : Hid (FineM x.m)) (gy : Hid (FineM y.m)) :
    Calls Tryz.prog 55 #[.agg #[.int .i64 x.k, .string x.t, vx, mx, .int .u8 x.c], .agg #[.int .i64 y.k, .string y.t, vy, my, .int .u8 y.c]] w fun e w' => e = .returned (.bool (cmpMs x.m y.m == 0)) ∧ Below w.heap.size w w' := by
  obtain ⟨A1, c1, rfl⟩ := ax.form
  obtain ⟨A2, c2, rfl⟩ := hx.form
  obtain ⟨A3, c3, rfl⟩ := ay.form
  obtain ⟨A4, c4, rfl⟩ := hy.form
  obtain ⟨xk, xt, xa, xm, xc⟩ := x
  obtain ⟨yk, yt, ya, ym, yc⟩ := y
  simp only at ax hx ay hy gx gy ⊢
  obtain ⟨z, hz⟩ : ∃ z, Hid (z = cmpMs xm ym) := ⟨cmpMs xm ym, Lib.hid rfl⟩
  have B1 : Below w.heap.size w ((w.alloc (.cells #[.int .i64 xk, .string xt, .slice A1 xa.length c1, .slice A2 xm.length c2, .int .u8 xc] 45)).alloc (.cells #[.int .i64 yk, .string yt, .slice A3 ya.length c3, .slice A4 ym.length c4, .int .u8 yc] 45)) := ((Below.refl _ _).alloc (Nat.le_refl _) _).alloc (by simp) _
  have HC : Hid (∀ w' : World, Below w.heap.size w w' → Calls Tryz.prog 80 #[.slice A2 xm.length c2, .slice A4 ym.length c4] w' fun e w'' => e = .returned (.int .i64 z) ∧ Below w.heap.size w w'') := fun w' h =>
    (mkCompare_any _ _ _ _ S w' (hx.keep (.below h)) (hy.keep (.below h)) gx gy).mono fun e w'' ⟨he, hb⟩ => ⟨by rw [he, hz.out], h.trans (hb.mono h.size)⟩
  rw [← hz.out]
  clear ax hx ay hy gx gy
  go_enter Tryz.func55, Tryz.ntmps55
  go_wp2_with fail
  refine (HC.out _ B1).mono ?_
  rintro e w1 ⟨rfl, b1⟩
  go_wp2
  go_ret
  exact ⟨rfl, b1⟩

theorem FineT1 : True := trivial
theorem five_cells {w : World} {b : Nat} {x0 x1 x2 x3 x4 : Value} {t : TypeId} {fr : Nat × Nat} (h : w.heap[b]? = some (.cells #[x0, x1, x2, x3, x4] t fr)) :
    w.cell? ⟨b, 0, none⟩ = some x0 ∧ w.cell? ⟨b, 1, none⟩ = some x1 ∧ w.cell? ⟨b, 2, none⟩ = some x2 ∧ w.cell? ⟨b, 3, none⟩ = some x3 ∧ w.cell? ⟨b, 4, none⟩ = some x4 :=
  ⟨cell_of_row w b 0 _ t fr h, cell_of_row w b 1 _ t fr h, cell_of_row w b 2 _ t fr h, cell_of_row w b 3 _ t fr h, cell_of_row w b 4 _ t fr h⟩
set_option maxRecDepth 100000 in
set_option maxHeartbeats 2000000 in
theorem same_any (x y : Tk) (vx mx vy my : Value) (S : Nat → Prop) (w : World) (ax : Rq w S vx 2 x.a.length (atC x.a)) (hx : Mks w S mx x.m) (ay : Rq w S vy 2 y.a.length (atC y.a)) (hy : Mks w S my y.m) (gx : x.a.length ≤ 4398046511104 ∧ FineM x.m) (gy : y.a.length ≤ 4398046511104 ∧ FineM y.m) :
    Calls Tryz.prog 37 #[.agg #[.int .i64 x.k, .string x.t, vx, mx, .int .u8 x.c], .agg #[.int .i64 y.k, .string y.t, vy, my, .int .u8 y.c]] w fun e w' => e = .returned (.bool (oneB x y)) ∧ Below w.heap.size w w' := by
  obtain ⟨A1, c1, rfl⟩ := ax.form
  obtain ⟨A2, c2, rfl⟩ := hx.form
  obtain ⟨A3, c3, rfl⟩ := ay.form
  obtain ⟨A4, c4, rfl⟩ := hy.form
  obtain ⟨xk, xt, xa, xm, xc⟩ := x
  obtain ⟨yk, yt, ya, ym, yc⟩ := y
  simp only at ax hx ay hy gx gy ⊢
  have hone : Hid (oneB ⟨xk, xt, xa, xm, xc⟩ ⟨yk, yt, ya, ym, yc⟩ = ((xk == yk) && (xt.toList == yt.toList) && (xc == yc) && (cmpG xa ya == 0) && (cmpMs xm ym == 0))) := rfl
  obtain ⟨z4, hz4⟩ : ∃ z, Hid (z = cmpG xa ya) := ⟨cmpG xa ya, Lib.hid rfl⟩
  obtain ⟨z5, hz5⟩ : ∃ z, Hid (z = cmpMs xm ym) := ⟨cmpMs xm ym, Lib.hid rfl⟩
  have B1 : Below w.heap.size w ((w.alloc (.cells #[.int .i64 xk, .string xt, .slice A1 xa.length c1, .slice A2 xm.length c2, .int .u8 xc] 45)).alloc (.cells #[.int .i64 yk, .string yt, .slice A3 ya.length c3, .slice A4 ym.length c4, .int .u8 yc] 45)) := ((Below.refl _ _).alloc (Nat.le_refl _) _).alloc (by simp) _
  have C1 := Lib.hid (Below.refl ((w.alloc (.cells #[.int .i64 xk, .string xt, .slice A1 xa.length c1, .slice A2 xm.length c2, .int .u8 xc] 45)).alloc (.cells #[.int .i64 yk, .string yt, .slice A3 ya.length c3, .slice A4 ym.length c4, .int .u8 yc] 45)).heap.size ((w.alloc (.cells #[.int .i64 xk, .string xt, .slice A1 xa.length c1, .slice A2 xm.length c2, .int .u8 xc] 45)).alloc (.cells #[.int .i64 yk, .string yt, .slice A3 ya.length c3, .slice A4 ym.length c4, .int .u8 yc] 45)))
  have HX : Hid (∀ w', Below ((w.alloc (.cells #[.int .i64 xk, .string xt, .slice A1 xa.length c1, .slice A2 xm.length c2, .int .u8 xc] 45)).alloc (.cells #[.int .i64 yk, .string yt, .slice A3 ya.length c3, .slice A4 ym.length c4, .int .u8 yc] 45)).heap.size ((w.alloc (.cells #[.int .i64 xk, .string xt, .slice A1 xa.length c1, .slice A2 xm.length c2, .int .u8 xc] 45)).alloc (.cells #[.int .i64 yk, .string yt, .slice A3 ya.length c3, .slice A4 ym.length c4, .int .u8 yc] 45)) w' → w'.heap[w.heap.size]? = some (.cells #[.int .i64 xk, .string xt, .slice A1 xa.length c1, .slice A2 xm.length c2, .int .u8 xc] 45) ∧ w'.heap[w.heap.size + 1]? = some (.cells #[.int .i64 yk, .string yt, .slice A3 ya.length c3, .slice A4 ym.length c4, .int .u8 yc] 45)) := fun w' k =>
    ⟨(k.block _ (by simp <;> omega)).trans ((((Below.refl (w.heap.size + 1) (w.alloc (.cells #[.int .i64 xk, .string xt, .slice A1 xa.length c1, .slice A2 xm.length c2, .int .u8 xc] 45))).alloc (by simp) _).block _ (by omega)).trans (heap_alloc_new w _)), (k.block _ (by simp <;> omega)).trans (by have := heap_alloc_new (w.alloc (.cells #[.int .i64 xk, .string xt, .slice A1 xa.length c1, .slice A2 xm.length c2, .int .u8 xc] 45)) (.cells #[.int .i64 yk, .string yt, .slice A3 ya.length c3, .slice A4 ym.length c4, .int .u8 yc] 45); simpa using this)⟩
  have HC : Hid (∀ w' : World, Below ((w.alloc (.cells #[.int .i64 xk, .string xt, .slice A1 xa.length c1, .slice A2 xm.length c2, .int .u8 xc] 45)).alloc (.cells #[.int .i64 yk, .string yt, .slice A3 ya.length c3, .slice A4 ym.length c4, .int .u8 yc] 45)).heap.size ((w.alloc (.cells #[.int .i64 xk, .string xt, .slice A1 xa.length c1, .slice A2 xm.length c2, .int .u8 xc] 45)).alloc (.cells #[.int .i64 yk, .string yt, .slice A3 ya.length c3, .slice A4 ym.length c4, .int .u8 yc] 45)) w' → Calls Tryz.prog 58 #[.slice A1 xa.length c1, .slice A3 ya.length c3] w' fun e w'' => e = .returned (.int .i64 z4) ∧ Below ((w.alloc (.cells #[.int .i64 xk, .string xt, .slice A1 xa.length c1, .slice A2 xm.length c2, .int .u8 xc] 45)).alloc (.cells #[.int .i64 yk, .string yt, .slice A3 ya.length c3, .slice A4 ym.length c4, .int .u8 yc] 45)).heap.size ((w.alloc (.cells #[.int .i64 xk, .string xt, .slice A1 xa.length c1, .slice A2 xm.length c2, .int .u8 xc] 45)).alloc (.cells #[.int .i64 yk, .string yt, .slice A3 ya.length c3, .slice A4 ym.length c4, .int .u8 yc] 45)) w'') := fun w' h =>
    (compare_any _ _ _ _ _ _ (ax.keep (.below (B1.trans (h.mono B1.size)))).rd (ay.keep (.below (B1.trans (h.mono B1.size)))).rd (Nat.le_refl _) gx.1 gy.1).mono fun e w'' ⟨he, hb⟩ => ⟨by rw [he, hz4.out], h.trans (hb.mono h.size)⟩
  have HM : Hid (∀ w' : World, Below ((w.alloc (.cells #[.int .i64 xk, .string xt, .slice A1 xa.length c1, .slice A2 xm.length c2, .int .u8 xc] 45)).alloc (.cells #[.int .i64 yk, .string yt, .slice A3 ya.length c3, .slice A4 ym.length c4, .int .u8 yc] 45)).heap.size ((w.alloc (.cells #[.int .i64 xk, .string xt, .slice A1 xa.length c1, .slice A2 xm.length c2, .int .u8 xc] 45)).alloc (.cells #[.int .i64 yk, .string yt, .slice A3 ya.length c3, .slice A4 ym.length c4, .int .u8 yc] 45)) w' → Calls Tryz.prog 55 #[.agg #[.int .i64 xk, .string xt, .slice A1 xa.length c1, .slice A2 xm.length c2, .int .u8 xc], .agg #[.int .i64 yk, .string yt, .slice A3 ya.length c3, .slice A4 ym.length c4, .int .u8 yc]] w' fun e w'' => e = .returned (.bool (z5 == 0)) ∧ Below ((w.alloc (.cells #[.int .i64 xk, .string xt, .slice A1 xa.length c1, .slice A2 xm.length c2, .int .u8 xc] 45)).alloc (.cells #[.int .i64 yk, .string yt, .slice A3 ya.length c3, .slice A4 ym.length c4, .int .u8 yc] 45)).heap.size ((w.alloc (.cells #[.int .i64 xk, .string xt, .slice A1 xa.length c1, .slice A2 xm.length c2, .int .u8 xc] 45)).alloc (.cells #[.int .i64 yk, .string yt, .slice A3 ya.length c3, .slice A4 ym.length c4, .int .u8 yc] 45)) w'') := fun w' h =>
    (marked_any ⟨xk, xt, xa, xm, xc⟩ ⟨yk, yt, ya, ym, yc⟩ _ _ _ _ S w' (ax.keep (.below (B1.trans (h.mono B1.size)))) (hx.keep (.below (B1.trans (h.mono B1.size)))) (ay.keep (.below (B1.trans (h.mono B1.size)))) (hy.keep (.below (B1.trans (h.mono B1.size)))) gx.2 gy.2).mono fun e w'' ⟨he, hb⟩ => ⟨by rw [he, hz5.out], h.trans (hb.mono h.size)⟩
  rw [hone.out, ← hz4.out, ← hz5.out]
  clear ax hx ay hy gx gy hz4 hz5 hone
  cases h1 : (xk == yk)
  · go_enter Tryz.func37, Tryz.ntmps37
    go_wp2
    go_ret
    exact ⟨rfl, B1⟩
  cases h2 : (xt.toList == yt.toList)
  · go_enter Tryz.func37, Tryz.ntmps37
    go_wp2
    go_ret
    exact ⟨rfl, B1⟩
  cases h3 : (xc == yc)
  · go_enter Tryz.func37, Tryz.ntmps37
    go_wp2
    go_ret
    exact ⟨rfl, B1⟩
  by_cases h4 : z4 = 0
  · subst h4
    go_enter Tryz.func37, Tryz.ntmps37
    go_wp2_with fail
    refine (HC.out _ C1.out).mono ?_
    rintro e w3 ⟨rfl, b3⟩
    obtain ⟨k1, k2⟩ := HX.out _ b3
    obtain ⟨q0, q1, q2, q3, q4⟩ := five_cells k1
    obtain ⟨r0, r1, r2, r3, r4⟩ := five_cells k2
    clear k1 k2
    have B3 := B1.trans (b3.mono B1.size)
    have k3 := b3.size
    have k4 : w.heap.size + 1 < w3.heap.size := by simp at k3; omega
    have k5 : w.heap.size < w3.heap.size := by omega
    have Q3 := Lib.hid b3
    clear b3 k3
    by_cases h5 : z5 = 0
    · subst h5
      go_wp2_with fail
      refine (HM.out _ Q3.out).mono ?_
      rintro e w4 ⟨rfl, b4⟩
      have B4 := B1.trans (b4.mono B1.size)
      go_wp2
      go_ret
      exact ⟨by simp [*], B4⟩
    · have h5' : (z5 == 0) = false := beq_eq_false_iff_ne.2 h5
      clear h5
      go_wp2_with fail
      refine (HM.out _ Q3.out).mono ?_
      rintro e w4 ⟨rfl, b4⟩
      have B4 := B1.trans (b4.mono B1.size)
      go_wp2
      go_ret
      exact ⟨by simp [*], B4⟩
  · have h4' : (z4 == 0) = false := beq_eq_false_iff_ne.2 h4
    clear h4
    go_enter Tryz.func37, Tryz.ntmps37
    go_wp2_with fail
    refine (HC.out _ C1.out).mono ?_
    rintro e w3 ⟨rfl, b3⟩
    have B3 := B1.trans (b3.mono B1.size)
    clear b3
    go_wp2
    go_ret
    exact ⟨by simp [h4'], B3⟩

set_option maxRecDepth 100000 in
set_option maxHeartbeats 2000000 in
theorem refOne_any (x y : Tk) (vx mx vy my : Value) (S : Nat → Prop) (w : World) (ax : Rq w S vx 2 x.a.length (atC x.a)) (hx : Mks w S mx x.m) (ay : Rq w S vy 2 y.a.length (atC y.a)) (hy : Mks w S my y.m) :
    Calls Tryz.prog 38 #[.agg #[.int .i64 x.k, .string x.t, vx, mx, .int .u8 x.c], .agg #[.int .i64 y.k, .string y.t, vy, my, .int .u8 y.c]] w fun e w' => e = .returned (.bool (oneB x y)) ∧ Below w.heap.size w w' := by
  obtain ⟨A1, c1, rfl⟩ := ax.form
  obtain ⟨A2, c2, rfl⟩ := hx.form
  obtain ⟨A3, c3, rfl⟩ := ay.form
  obtain ⟨A4, c4, rfl⟩ := hy.form
  obtain ⟨xk, xt, xa, xm, xc⟩ := x
  obtain ⟨yk, yt, ya, ym, yc⟩ := y
  simp only at ax hx ay hy ⊢
  have hone : Hid (oneB ⟨xk, xt, xa, xm, xc⟩ ⟨yk, yt, ya, ym, yc⟩ = ((xk == yk) && (xt.toList == yt.toList) && (xc == yc) && (cmpG xa ya == 0) && (cmpMs xm ym == 0))) := rfl
  obtain ⟨z4, hz4⟩ : ∃ z, Hid (z = cmpG xa ya) := ⟨cmpG xa ya, Lib.hid rfl⟩
  obtain ⟨z5, hz5⟩ : ∃ z, Hid (z = cmpMs xm ym) := ⟨cmpMs xm ym, Lib.hid rfl⟩
  have B1 : Below w.heap.size w ((w.alloc (.cells #[.int .i64 xk, .string xt, .slice A1 xa.length c1, .slice A2 xm.length c2, .int .u8 xc] 45)).alloc (.cells #[.int .i64 yk, .string yt, .slice A3 ya.length c3, .slice A4 ym.length c4, .int .u8 yc] 45)) := ((Below.refl _ _).alloc (Nat.le_refl _) _).alloc (by simp) _
  have C1 := Lib.hid (Below.refl ((w.alloc (.cells #[.int .i64 xk, .string xt, .slice A1 xa.length c1, .slice A2 xm.length c2, .int .u8 xc] 45)).alloc (.cells #[.int .i64 yk, .string yt, .slice A3 ya.length c3, .slice A4 ym.length c4, .int .u8 yc] 45)).heap.size ((w.alloc (.cells #[.int .i64 xk, .string xt, .slice A1 xa.length c1, .slice A2 xm.length c2, .int .u8 xc] 45)).alloc (.cells #[.int .i64 yk, .string yt, .slice A3 ya.length c3, .slice A4 ym.length c4, .int .u8 yc] 45)))
  have HX : Hid (∀ w', Below ((w.alloc (.cells #[.int .i64 xk, .string xt, .slice A1 xa.length c1, .slice A2 xm.length c2, .int .u8 xc] 45)).alloc (.cells #[.int .i64 yk, .string yt, .slice A3 ya.length c3, .slice A4 ym.length c4, .int .u8 yc] 45)).heap.size ((w.alloc (.cells #[.int .i64 xk, .string xt, .slice A1 xa.length c1, .slice A2 xm.length c2, .int .u8 xc] 45)).alloc (.cells #[.int .i64 yk, .string yt, .slice A3 ya.length c3, .slice A4 ym.length c4, .int .u8 yc] 45)) w' → w'.heap[w.heap.size]? = some (.cells #[.int .i64 xk, .string xt, .slice A1 xa.length c1, .slice A2 xm.length c2, .int .u8 xc] 45) ∧ w'.heap[w.heap.size + 1]? = some (.cells #[.int .i64 yk, .string yt, .slice A3 ya.length c3, .slice A4 ym.length c4, .int .u8 yc] 45)) := fun w' k =>
    ⟨(k.block _ (by simp <;> omega)).trans ((((Below.refl (w.heap.size + 1) (w.alloc (.cells #[.int .i64 xk, .string xt, .slice A1 xa.length c1, .slice A2 xm.length c2, .int .u8 xc] 45))).alloc (by simp) _).block _ (by omega)).trans (heap_alloc_new w _)), (k.block _ (by simp <;> omega)).trans (by have := heap_alloc_new (w.alloc (.cells #[.int .i64 xk, .string xt, .slice A1 xa.length c1, .slice A2 xm.length c2, .int .u8 xc] 45)) (.cells #[.int .i64 yk, .string yt, .slice A3 ya.length c3, .slice A4 ym.length c4, .int .u8 yc] 45); simpa using this)⟩
  have HC : Hid (∀ w' : World, Below ((w.alloc (.cells #[.int .i64 xk, .string xt, .slice A1 xa.length c1, .slice A2 xm.length c2, .int .u8 xc] 45)).alloc (.cells #[.int .i64 yk, .string yt, .slice A3 ya.length c3, .slice A4 ym.length c4, .int .u8 yc] 45)).heap.size ((w.alloc (.cells #[.int .i64 xk, .string xt, .slice A1 xa.length c1, .slice A2 xm.length c2, .int .u8 xc] 45)).alloc (.cells #[.int .i64 yk, .string yt, .slice A3 ya.length c3, .slice A4 ym.length c4, .int .u8 yc] 45)) w' → Calls Tryz.prog 59 #[.slice A1 xa.length c1, .slice A3 ya.length c3] w' fun e w'' => e = .returned (.int .i64 z4) ∧ Below ((w.alloc (.cells #[.int .i64 xk, .string xt, .slice A1 xa.length c1, .slice A2 xm.length c2, .int .u8 xc] 45)).alloc (.cells #[.int .i64 yk, .string yt, .slice A3 ya.length c3, .slice A4 ym.length c4, .int .u8 yc] 45)).heap.size ((w.alloc (.cells #[.int .i64 xk, .string xt, .slice A1 xa.length c1, .slice A2 xm.length c2, .int .u8 xc] 45)).alloc (.cells #[.int .i64 yk, .string yt, .slice A3 ya.length c3, .slice A4 ym.length c4, .int .u8 yc] 45)) w'') := fun w' h =>
    (refCompare_any _ _ _ _ _ _ (ax.keep (.below (B1.trans (h.mono B1.size)))).rd (ay.keep (.below (B1.trans (h.mono B1.size)))).rd (Nat.le_refl _)).mono fun e w'' ⟨he, hb⟩ => ⟨by rw [he, hz4.out], h.trans (hb.mono h.size)⟩
  have HM : Hid (∀ w' : World, Below ((w.alloc (.cells #[.int .i64 xk, .string xt, .slice A1 xa.length c1, .slice A2 xm.length c2, .int .u8 xc] 45)).alloc (.cells #[.int .i64 yk, .string yt, .slice A3 ya.length c3, .slice A4 ym.length c4, .int .u8 yc] 45)).heap.size ((w.alloc (.cells #[.int .i64 xk, .string xt, .slice A1 xa.length c1, .slice A2 xm.length c2, .int .u8 xc] 45)).alloc (.cells #[.int .i64 yk, .string yt, .slice A3 ya.length c3, .slice A4 ym.length c4, .int .u8 yc] 45)) w' → Calls Tryz.prog 60 #[.slice A2 xm.length c2, .slice A4 ym.length c4] w' fun e w'' => e = .returned (.int .i64 z5) ∧ Below ((w.alloc (.cells #[.int .i64 xk, .string xt, .slice A1 xa.length c1, .slice A2 xm.length c2, .int .u8 xc] 45)).alloc (.cells #[.int .i64 yk, .string yt, .slice A3 ya.length c3, .slice A4 ym.length c4, .int .u8 yc] 45)).heap.size ((w.alloc (.cells #[.int .i64 xk, .string xt, .slice A1 xa.length c1, .slice A2 xm.length c2, .int .u8 xc] 45)).alloc (.cells #[.int .i64 yk, .string yt, .slice A3 ya.length c3, .slice A4 ym.length c4, .int .u8 yc] 45)) w'') := fun w' h =>
    (refMkCompare_any _ _ _ _ S w' (hx.keep (.below (B1.trans (h.mono B1.size)))) (hy.keep (.below (B1.trans (h.mono B1.size))))).mono fun e w'' ⟨he, hb⟩ => ⟨by rw [he, hz5.out], h.trans (hb.mono h.size)⟩
  rw [hone.out, ← hz4.out, ← hz5.out]
  clear ax hx ay hy hz4 hz5 hone
  cases h1 : (xk == yk)
  · go_enter Tryz.func38, Tryz.ntmps38
    go_wp2
    go_ret
    exact ⟨rfl, B1⟩
  cases h2 : (xt.toList == yt.toList)
  · go_enter Tryz.func38, Tryz.ntmps38
    go_wp2
    go_ret
    exact ⟨rfl, B1⟩
  cases h3 : (xc == yc)
  · go_enter Tryz.func38, Tryz.ntmps38
    go_wp2
    go_ret
    exact ⟨rfl, B1⟩
  by_cases h4 : z4 = 0
  · subst h4
    go_enter Tryz.func38, Tryz.ntmps38
    go_wp2_with fail
    refine (HC.out _ C1.out).mono ?_
    rintro e w3 ⟨rfl, b3⟩
    obtain ⟨k1, k2⟩ := HX.out _ b3
    obtain ⟨q0, q1, q2, q3, q4⟩ := five_cells k1
    obtain ⟨r0, r1, r2, r3, r4⟩ := five_cells k2
    clear k1 k2
    have B3 := B1.trans (b3.mono B1.size)
    have k3 := b3.size
    have k4 : w.heap.size + 1 < w3.heap.size := by simp at k3; omega
    have k5 : w.heap.size < w3.heap.size := by omega
    have Q3 := Lib.hid b3
    clear b3 k3
    by_cases h5 : z5 = 0
    · subst h5
      go_wp2_with fail
      refine (HM.out _ Q3.out).mono ?_
      rintro e w4 ⟨rfl, b4⟩
      have B4 := B1.trans (b4.mono B1.size)
      go_wp2
      go_ret
      exact ⟨by simp [*], B4⟩
    · have h5' : (z5 == 0) = false := beq_eq_false_iff_ne.2 h5
      clear h5
      go_wp2_with fail
      refine (HM.out _ Q3.out).mono ?_
      rintro e w4 ⟨rfl, b4⟩
      have B4 := B1.trans (b4.mono B1.size)
      go_wp2
      go_ret
      exact ⟨by simp [*], B4⟩
  · have h4' : (z4 == 0) = false := beq_eq_false_iff_ne.2 h4
    clear h4
    go_enter Tryz.func38, Tryz.ntmps38
    go_wp2_with fail
    refine (HC.out _ C1.out).mono ?_
    rintro e w3 ⟨rfl, b3⟩
    have B3 := B1.trans (b3.mono B1.size)
    clear b3
    go_wp2
    go_ret
    exact ⟨by simp [h4'], B3⟩
end Go.Proofs.YtkeillekikbhoaaGreatDoor

/- rows that are the same: by the program and by the reference. -/
namespace Go.Proofs.YtkeillekikbhoaaGreatDoor
open Go.RowKit

theorem FineT.at {l : List Tk} (h : FineT l) {k : Nat} (hk : k < l.length) : l[k].a.length ≤ 4398046511104 ∧ FineM l[k].m := h _ (List.getElem_mem hk)
theorem sameK_get {l m : List Tk} {k : Nat} (hl : k < l.length) (hm : k < m.length) : sameK l m k = oneB l[k] m[k] := by unfold sameK; rw [gT_get l k hl, gT_get m k hm]

set_option maxRecDepth 100000 in
theorem equalTks_any (va vb : Value) (l m : List Tk) (S : Nat → Prop) (w : World) (hl : Tks w S va l) (hm : Tks w S vb m) (gl : Hid (FineT l)) (gm : Hid (FineT m)) :
    Calls Tryz.prog 41 #[va, vb, .func (.func 37) #[] #[]] w fun e w' => e = .returned (.bool (sameT l m)) ∧ Below w.heap.size w w' := by
  obtain ⟨A, ca, rfl⟩ := hl.form
  obtain ⟨B, cb, rfl⟩ := hm.form
  have hml := hl.max
  have hmm := hm.max
  unfold maxLen at hml hmm
  by_cases hlen : l.length = m.length
  · have hlen' : ((l.length : Int) != (m.length : Int)) = false := by simp; omega
    have HL := Lib.hid hlen
    clear hlen
    go_enter Tryz.func41, Tryz.ntmps41
    go_wp2
    go_loopg [7, 8, 9, 17] l.length (fun g s7 s8 s9 s17 wr => ∃ k : Nat, k ≤ l.length ∧ g = l.length - k ∧ s17 = .int .i64 k ∧ Hid (∀ j, j < k → sameK l m j = true) ∧ Below w.heap.size w wr)
    case atStart => exact ⟨0, Nat.zero_le _, by omega, rfl, fun j hj => by omega, Below.refl _ _⟩
    case round =>
      obtain ⟨k, hk, hg, rfl, hall, hb⟩ := hrel
      have HG := Lib.hid hg
      clear hg
      have hsz := hb.size
      by_cases hlt : k < l.length
      · have hlm : k < m.length := by have := HL.out; omega
        obtain ⟨bl, offl, v2, v3, rfl, hblS, hcl, a0, a1, a2, a3, a4, rx, mx⟩ := (hl.below hb).at hlt
        obtain ⟨A1, c1, rfl⟩ := rx.form
        obtain ⟨A2, c2, rfl⟩ := mx.form
        have hbl := hblS.2
        obtain ⟨bm, offm, u2, u3, rfl, hbmS, hcm, b0, b1, b2, b3, b4, ry, my⟩ := (hm.below hb).at hlm
        obtain ⟨A3, c3, rfl⟩ := ry.form
        obtain ⟨A4, c4, rfl⟩ := my.form
        have hbm := hbmS.2
        have hi2 : (k : Int) < (m.length : Int) := by omega
        have hs := Lib.hid (sameK_get hlt hlm)
        have HC : Hid (∀ w', Below wr.heap.size wr w' → Calls Tryz.prog 37 #[.agg #[.int .i64 l[k].k, .string l[k].t, .slice A1 l[k].a.length c1, .slice A2 l[k].m.length c2, .int .u8 l[k].c], .agg #[.int .i64 m[k].k, .string m[k].t, .slice A3 m[k].a.length c3, .slice A4 m[k].m.length c4, .int .u8 m[k].c]] w' fun e w'' => e = .returned (.bool (sameK l m k)) ∧ Below wr.heap.size wr w'') := fun w' h =>
          (same_any l[k] m[k] _ _ _ _ S w' (rx.keep (.below h)) (mx.keep (.below h)) (ry.keep (.below h)) (my.keep (.below h)) (gl.out.at hlt) (gm.out.at hlm)).mono fun e w'' ⟨he, hb⟩ => ⟨by rw [he, hs.out], h.trans (hb.mono h.size)⟩
        have C2 : Below wr.heap.size wr ((wr.alloc (.cells #[.int .i64 l[k].k, .string l[k].t, .slice A1 l[k].a.length c1, .slice A2 l[k].m.length c2, .int .u8 l[k].c] 45)).alloc (.cells #[.int .i64 m[k].k, .string m[k].t, .slice A3 m[k].a.length c3, .slice A4 m[k].m.length c4, .int .u8 m[k].c] 45)) := ((Below.refl _ _).alloc (Nat.le_refl _) _).alloc (by simp) _
        clear rx ry mx my
        cases hz : sameK l m k
        · have hf : Hid (sameT l m = false) := sameT_no hlt hz
          rw [hz] at HC
          go_wp2_with fail
          refine (HC.out _ C2).mono ?_
          rintro e w3 ⟨rfl, b3⟩
          have b4 := hb.trans (b3.mono hsz)
          clear b3 C2 HC
          go_wp2
          go_ret
          exact ⟨ret_bool hf.out.symm, b4⟩
        · have hall' : Hid (∀ j, j < k + 1 → sameK l m j = true) := by
            show ∀ j, _
            intro j hj
            by_cases e : j = k
            · subst e; exact hz
            · exact hall.out j (by omega)
          rw [hz] at HC
          go_wp2_with fail
          refine (HC.out _ C2).mono ?_
          rintro e w3 ⟨rfl, b3⟩
          have b4 := hb.trans (b3.mono hsz)
          clear b3 C2 HC
          go_wp2
          go_roundg (l.length - (k + 1))
          case measure => have := HG.out; omega
          case rel => exact ⟨k + 1, by omega, rfl, by go_num, hall', b4⟩
      · have hf : Hid (sameT l m = true) := sameT_yes HL.out fun j hj => hall.out j (by omega)
        go_wp2
        go_ret
        exact ⟨ret_bool hf.out.symm, hb⟩
  · have hf : Hid (sameT l m = false) := sameT_len hlen
    have hlen' : ((l.length : Int) != (m.length : Int)) = true := by rw [bne_iff_ne]; omega
    clear hlen
    go_enter Tryz.func41, Tryz.ntmps41
    go_wp2
    go_ret
    exact ⟨ret_bool hf.out.symm, Below.refl _ _⟩

set_option maxRecDepth 100000 in
theorem rowSame_any (va vb : Value) (l m : List Tk) (S : Nat → Prop) (w : World) (hl : Tks w S va l) (hm : Tks w S vb m) (gl : Hid (FineT l)) (gm : Hid (FineT m)) :
    Calls Tryz.prog 23 #[va, vb] w fun e w' => e = .returned (.bool (sameT l m)) ∧ Below w.heap.size w w' := by
  obtain ⟨A, ca, rfl⟩ := hl.form
  obtain ⟨B, cb, rfl⟩ := hm.form
  obtain ⟨z, hz⟩ : ∃ z, Hid (z = sameT l m) := ⟨sameT l m, Lib.hid rfl⟩
  have HC := Lib.hid (equalTks_any _ _ l m S w hl hm gl gm)
  rw [← hz.out] at HC ⊢
  go_enter Tryz.func23, Tryz.ntmps23
  go_wp2_with fail
  refine HC.out.mono ?_
  rintro e w1 ⟨rfl, b1⟩
  go_wp2
  go_ret
  exact ⟨rfl, b1⟩

set_option maxRecDepth 100000 in
set_option maxHeartbeats 2000000 in
theorem refSame_any (va vb : Value) (l m : List Tk) (S : Nat → Prop) (w : World) (hl : Tks w S va l) (hm : Tks w S vb m) :
    Calls Tryz.prog 24 #[va, vb] w fun e w' => e = .returned (.bool (sameT l m)) ∧ Below w.heap.size w w' := by
  obtain ⟨A, ca, rfl⟩ := hl.form
  obtain ⟨B, cb, rfl⟩ := hm.form
  have hml := hl.max
  have hmm := hm.max
  unfold maxLen at hml hmm
  by_cases hlen : l.length = m.length
  · have hlen' : ((l.length : Int) != (m.length : Int)) = false := by simp; omega
    have HL := Lib.hid hlen
    clear hlen
    go_enter Tryz.func24, Tryz.ntmps24
    go_wp2
    go_loopg [5] l.length (fun g s5 wr => ∃ k : Nat, k ≤ l.length ∧ g = l.length - k ∧ s5 = .int .i64 k ∧ Hid (∀ j, j < k → sameK l m j = true) ∧ Below w.heap.size w wr)
    case atStart => exact ⟨0, Nat.zero_le _, by omega, rfl, fun j hj => by omega, Below.refl _ _⟩
    case round =>
      obtain ⟨k, hk, hg, rfl, hall, hb⟩ := hrel
      have HG := Lib.hid hg
      clear hg
      have hsz := hb.size
      by_cases hlt : k < l.length
      · have hlm : k < m.length := by have := HL.out; omega
        obtain ⟨bl, offl, v2, v3, rfl, hblS, hcl, a0, a1, a2, a3, a4, rx, mx⟩ := (hl.below hb).at hlt
        obtain ⟨A1, c1, rfl⟩ := rx.form
        obtain ⟨A2, c2, rfl⟩ := mx.form
        have hbl := hblS.2
        obtain ⟨bm, offm, u2, u3, rfl, hbmS, hcm, b0, b1, b2, b3, b4, ry, my⟩ := (hm.below hb).at hlm
        obtain ⟨A3, c3, rfl⟩ := ry.form
        obtain ⟨A4, c4, rfl⟩ := my.form
        have hbm := hbmS.2
        have hi0 : (0 : Int) ≤ (k : Int) := by omega
        have hi1 : (k : Int) < (l.length : Int) := by omega
        have hi2 : (k : Int) < (m.length : Int) := by omega
        have hs := Lib.hid (sameK_get hlt hlm)
        have HC : Hid (∀ w', Below wr.heap.size wr w' → Calls Tryz.prog 38 #[.agg #[.int .i64 l[k].k, .string l[k].t, .slice A1 l[k].a.length c1, .slice A2 l[k].m.length c2, .int .u8 l[k].c], .agg #[.int .i64 m[k].k, .string m[k].t, .slice A3 m[k].a.length c3, .slice A4 m[k].m.length c4, .int .u8 m[k].c]] w' fun e w'' => e = .returned (.bool (sameK l m k)) ∧ Below wr.heap.size wr w'') := fun w' h =>
          (refOne_any l[k] m[k] _ _ _ _ S w' (rx.keep (.below h)) (mx.keep (.below h)) (ry.keep (.below h)) (my.keep (.below h))).mono fun e w'' ⟨he, hb⟩ => ⟨by rw [he, hs.out], h.trans (hb.mono h.size)⟩
        have C2 := Lib.hid ((Below.refl wr.heap.size wr).drew)
        clear rx ry mx my
        cases hz : sameK l m k
        · have hf : Hid (sameT l m = false) := sameT_no hlt hz
          rw [hz] at HC
          go_wp2
          go_region_with (go_at_call 38; refine (HC.out _ C2.out).mono ?_; rintro e w3 ⟨rfl, b3⟩; have B3 := Lib.hid (hb.trans (b3.mono hsz)); clear b3)
          all_goals
            go_wp2
            go_ret
            exact ⟨ret_bool hf.out.symm, B3.out⟩
        · have hall' : Hid (∀ j, j < k + 1 → sameK l m j = true) := by
            show ∀ j, _
            intro j hj
            by_cases e : j = k
            · subst e; exact hz
            · exact hall.out j (by omega)
          rw [hz] at HC
          go_wp2
          go_region_with (go_at_call 38; refine (HC.out _ C2.out).mono ?_; rintro e w3 ⟨rfl, b3⟩; have B3 := Lib.hid (hb.trans (b3.mono hsz)); clear b3)
          all_goals
            go_wp2
            go_roundg (l.length - (k + 1))
            case measure => have := HG.out; omega
            case rel => exact ⟨k + 1, by omega, rfl, by go_num, hall', B3.out⟩
      · have hf : Hid (sameT l m = true) := sameT_yes HL.out fun j hj => hall.out j (by omega)
        go_wp2
        go_ret
        exact ⟨ret_bool hf.out.symm, hb⟩
  · have hf : Hid (sameT l m = false) := sameT_len hlen
    have hlen' : ((l.length : Int) != (m.length : Int)) = true := by rw [bne_iff_ne]; omega
    clear hlen
    go_enter Tryz.func24, Tryz.ntmps24
    go_wp2
    go_ret
    exact ⟨ret_bool hf.out.symm, Below.refl _ _⟩
end Go.Proofs.YtkeillekikbhoaaGreatDoor
