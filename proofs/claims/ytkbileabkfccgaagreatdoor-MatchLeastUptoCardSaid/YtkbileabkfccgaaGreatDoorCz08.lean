/- MaC, MaD, MaE, MaF, merged. -/
import Derived.Test.YtkbileabkfccgaaGreatDoorCz07
import Derived.Test.YtkbileabkfccgaaGreatDoorCz06
import Derived.Sort.OwnSorted
import Derived.Laws.MakeOwn
import Derived.OwnWalk
import Derived.Laws.StructEq

/- match: texts that a call owns, sorted and compacted; twice; CheckGroups. -/
namespace Go.Proofs.YtkbileabkfccgaaGreatDoor
open Go.RowKit Go.Sort

theorem infoTx : (Tryz.prog.info? 9).map (fun i => (i.zero, i.size, i.bytes)) = some (some (.string .empty), 1, 16) := by kernel_rfl
def unS (l : List ByteArray) : List (List UInt8) := l.map fun s => s.data.toList
def reS (l : List (List UInt8)) : List ByteArray := l.map fun s => (⟨s.toArray⟩ : ByteArray)
theorem re_un (l : List ByteArray) : reS (unS l) = l := by
  unfold reS unS
  rw [List.map_map]
  have : ((fun s : List UInt8 => (⟨s.toArray⟩ : ByteArray)) ∘ fun s : ByteArray => s.data.toList) = id := by funext s; simp
  rw [this, List.map_id]
theorem un_re (l : List (List UInt8)) : unS (reS l) = l := by
  unfold reS unS
  rw [List.map_map]
  have : ((fun s : ByteArray => s.data.toList) ∘ fun s : List UInt8 => (⟨s.toArray⟩ : ByteArray)) = id := by funext s; simp
  rw [this, List.map_id]
theorem un_len (l : List ByteArray) : (unS l).length = l.length := by simp [unS]
theorem re_len (l : List (List UInt8)) : (reS l).length = l.length := by simp [reS]
theorem txC_re (l : List (List UInt8)) : txC (reS l) = l.map encStr := by simp [txC, reS]
theorem txC_un (l : List ByteArray) : txC l = (unS l).map encStr := by rw [← txC_re, re_un]
/-- texts, sorted -/
def sortTx (l : List ByteArray) : List ByteArray := reS ((unS l).mergeSort fun x y => decide (x ≤ y))
theorem sortTx_len (l : List ByteArray) : (sortTx l).length = l.length := by unfold sortTx; rw [re_len, List.length_mergeSort, un_len]
/-- texts, each run of one as one -/
def compTx (l : List ByteArray) : List ByteArray := reS (Lib.compact (unS l))

/-- nothing is handed back; row v holds l now; nothing else that was there is another -/
def Turns (w : World) (base : Nat) (v : Value) (l : List ByteArray) (x : Ending) (w' : World) : Prop :=
  x = .returned (.tuple #[]) ∧ w'.ownsRow base 9 1 v l.length (txC l) ∧ w.grownBy w' v.ownBlock

theorem sort_any (base : Nat) (v : Value) (l : List ByteArray) (w : World) (h : w.ownsRow base 9 1 v l.length (txC l)) (hl : l.length ≤ 100000000000000) :
    Calls Tryz.prog 73 #[v] w (Turns w base v (sortTx l)) := by
  have h0 := h
  rcases h.2 with ⟨rfl, hz⟩ | ⟨g, cap, cur, rfl, hbase, hgb, r1, r2, r3, r4⟩
  · obtain rfl : l = [] := List.eq_nil_of_length_eq_zero hz
    refine (Tryz.slices_Sort_string_none none 0 w).mono ?_
    rintro e w' ⟨rfl, rfl⟩
    refine ⟨rfl, ?_, World.grownBy.refl _ _⟩
    simpa [sortTx, reS, unS, txC] using h0
  · have hH : Holds encStr w g 0 (unS l).toArray := holds_of_block hgb (by rw [un_len, ← txC_un]; simpa using r4)
    have hgl : g < w.heap.size := (Array.getElem?_eq_some_iff.1 hgb).1
    have := Tryz.slices_Sort_string g 0 cap (unS l) w hH hgl (by rw [un_len]; omega)
    rw [un_len] at this
    refine this.mono ?_
    rintro e w' ⟨rfl, n, os, rfl⟩
    refine ⟨rfl, ?_, grownBy_sorted _⟩
    have hs := ownsRow_sorted (n := n) (os := os) (ss := unS l) (ts := (unS l).mergeSort fun x y => decide (x ≤ y)) (cap := cap) (by simp) hbase hgb (by rw [un_len]; exact r1) r2 r3
    rw [un_len] at hs
    rw [sortTx_len]
    unfold sortTx
    rw [txC_re]
    exact hs

/-- row v holds l now, and is handed back as v'; nothing else that was there is another -/
def Turned (w : World) (base : Nat) (v : Value) (l : List ByteArray) (x : Ending) (w' : World) : Prop :=
  ∃ v', x = .returned v' ∧ w'.ownsRow base 9 1 v' l.length (txC l) ∧ v'.ownBlock = v.ownBlock ∧ w.grownBy w' v.ownBlock

theorem compact_le (l : List (List UInt8)) : (Lib.compact l).length ≤ l.length := by
  unfold Lib.compact Lib.compactUpTo
  rw [List.length_map]
  exact Nat.le_trans (List.length_filter_le _ _) (by simp)

theorem compact_any (base : Nat) (v : Value) (l : List ByteArray) (w : World) (h : w.ownsRow base 9 1 v l.length (txC l)) (hl : l.length ≤ 100000000000000) :
    Calls Tryz.prog 104 #[v] w (Turned w base v (compTx l)) := by
  have h0 := h
  rcases h.2 with ⟨rfl, hz⟩ | ⟨g, cap, cur, rfl, hbase, hgb, r1, r2, r3, r4⟩
  · obtain rfl : l = [] := List.eq_nil_of_length_eq_zero hz
    refine (Tryz.slices_Compact_string_empty none 0 w).mono ?_
    rintro e w' ⟨rfl, rfl⟩
    refine ⟨_, rfl, ?_, rfl, World.grownBy.refl _ _⟩
    have : compTx [] = [] := rfl
    rw [this]; exact h0
  · have hH : Holds encStr w g 0 (unS l).toArray := holds_of_block hgb (by rw [un_len, ← txC_un]; simpa using r4)
    have := Tryz.slices_Compact_string g 0 cap (unS l) w hH (by rw [un_len]; omega) (by rw [un_len]; exact r1)
    rw [un_len] at this
    refine this.mono ?_
    rintro e w' ⟨rfl, q, rfl⟩
    have hle := compact_le (unS l)
    rw [un_len] at hle
    have hs := ownsRow_sorted (n := q) (os := #[]) (ss := unS l) (ts := Lib.compact (unS l) ++ List.replicate (l.length - (Lib.compact (unS l)).length) []) (cap := cap) (by rw [List.length_append, List.length_replicate, un_len]; omega) hbase hgb (by rw [un_len]; exact r1) r2 r3
    rw [grow_empty] at hs
    have hgr := grownBy_sorted (w := w) (g := g) (n := q) (os := #[]) (Lib.compact (unS l) ++ List.replicate (l.length - (Lib.compact (unS l)).length) []).toArray
    rw [grow_empty] at hgr
    refine ⟨_, rfl, ?_, rfl, hgr⟩
    have hlen : (compTx l).length = (Lib.compact (unS l)).length := by unfold compTx; rw [re_len]
    rw [hlen]
    rcases hs.2 with ⟨h1, _⟩ | ⟨g', cap', cur', hv, hb', hg', h1, h2, h3, h4⟩
    · cases h1
    · simp only [Value.slice.injEq, Option.some.injEq, Addr.mk.injEq, and_true] at hv
      obtain ⟨rfl, _, rfl⟩ := hv
      refine ⟨?_, .inr ⟨g, cap, cur', rfl, hb', hg', by omega, h2, h3, ?_⟩⟩
      · unfold compTx; rw [txC_re]; simp
      · have h5 : (cur'.toList.take ((unS l).length * 1)).take (Lib.compact (unS l)).length = ((Lib.compact (unS l) ++ List.replicate (l.length - (Lib.compact (unS l)).length) []).map encStr).take (Lib.compact (unS l)).length := by rw [h4]
        rw [List.take_take, List.map_append, List.take_append_of_le_length (by simp), List.take_of_length_le (l := List.map encStr (Lib.compact (unS l))) (by simp), un_len, Nat.mul_one, Nat.min_eq_left hle] at h5
        unfold compTx
        rw [Nat.mul_one, txC_re]
        exact h5
end Go.Proofs.YtkbileabkfccgaaGreatDoor

/- match: twice, CheckGroups. -/
namespace Go.Proofs.YtkbileabkfccgaaGreatDoor
open Go.RowKit

def namesG (l : List Gr) : List ByteArray := l.map Gr.n
def twiceG (l : List Gr) : Bool := decide ((compTx (sortTx (namesG l))).length < l.length)
theorem namesG_succ {l : List Gr} {k : Nat} (h : k < l.length) : namesG (l.take (k + 1)) = namesG (l.take k) ++ [l[k].n] := by
  unfold namesG; rw [List.take_succ_eq_append_getElem h, List.map_append]; rfl

set_option maxRecDepth 100000 in
set_option maxHeartbeats 800000 in
theorem twice_any (v : Value) (l : List Gr) (B : Nat) (w : World) (hv : Grs w B v l) (hB : B ≤ w.heap.size) (hl : l.length ≤ 1000000000000) :
    Calls Tryz.prog 59 #[v] w (RetB (twiceG l) w) := by
  obtain ⟨A, cap, rfl⟩ := hv.form
  obtain ⟨i0, hi, hz0, hz1, hz2⟩ := info_parts infoTx
  obtain ⟨c, HC⟩ : ∃ c, Hid (c = twiceG l) := ⟨_, rfl⟩
  rw [← HC.out]
  go_enter Tryz.func59, Tryz.ntmps59
  go_wp2_with (at_make; refine wpList_make_own _ rfl _ _ 41 rfl w.heap.size 9 i0 _ 1 Tryz.underlying41 hi hz0 hz1 _ _ _ l.length rfl rfl ?_ ?_ ?_ ?_ ?_)
  · rfl
  · rw [hz2]; omega
  · unfold maxLen; omega
  · exact Nat.le_refl _
  intro w1 hown hg1
  have B1 : Below w.heap.size w w1 := (Below.refl _ _).grown hg1 (Nat.le_refl _) (by simp)
  have hown := Lib.hid hown
  clear hz0 hz1 hz2 hi hg1
  go_wp2
  go_loopw [3, 5, 11] (fun s _ i wr => ∃ k : Nat, k ≤ l.length ∧ i = .int .i64 k ∧ Hid (wr.ownsRow w.heap.size 9 1 s k (txC (namesG (l.take k)))) ∧ Below w.heap.size w wr) (fun _ _ i _ => l.length - (intOf i).toNat)
  case atStart => exact ⟨0, Nat.zero_le _, rfl, hown, B1⟩
  case round =>
    obtain ⟨k, hk, rfl, ho, hb⟩ := hrel
    have hsz := hb.size
    by_cases hlt : k < l.length
    · obtain ⟨b, off, s, rfl, hbB, hcap, hks, hc0, hc1⟩ := (hv.below (hb.mono hB)).at hlt
      obtain ⟨A2, c2, rfl⟩ := hks.form
      have hrd := Rd.lit (wr.alloc (.cells #[.string l[k].n, .slice A2 l[k].ts.length c2] 88)) 9 1 1 #[.string l[k].n] (0, 0) rfl (by omega)
      rw [World.size_alloc] at hrd
      have HR := Lib.hid hrd
      clear hrd
      go_wp2_with (at_builtin; refine wpList_appR _ rfl (.tmp 15) (.tmp 18) 41 9 rfl _ 1 16 Tryz.underlying41 infoTx rfl (by decide) w.heap.size rfl rfl (World.ownsRow.alloc (World.ownsRow.alloc ho.out _) _) HR.out ?_ ?_ ?_ ?_ ?_)
      · rfl
      · unfold maxLen; omega
      · omega
      · omega
      intro v' w2 ho2 hg2 hat
      have hb2 : Below w.heap.size w w2 := ((hb.alloc hsz _).alloc (by simp; omega) _).grown hg2 (by simp; omega) fun j hj => (ho.out.lt j hj).1
      have ho3 : Hid (w2.ownsRow w.heap.size 9 1 v' (k + 1) (txC (namesG (l.take (k + 1))))) := by
        show World.ownsRow _ _ _ _ _ _ _
        rw [namesG_succ hlt, txC_app]; exact ho2
      clear ho2 hg2 hat ho
      go_wp2
      go_roundw
      case rel => exact ⟨k + 1, by omega, by go_num, ho3, hb2⟩
      case measure => simp [intOf]; omega
    · obtain rfl : k = l.length := by omega
      have hnl : (namesG l).length = l.length := by simp [namesG]
      have ho2 := ho.out
      have hown0 := ho2.lt
      rw [List.take_of_length_le (Nat.le_refl _)] at ho2
      rw [← hnl] at ho2
      have hC1 := Lib.hid (sort_any _ _ _ _ ho2 (by omega))
      have hle : Hid ((sortTx (namesG l)).length = l.length) := by show _ = _; rw [sortTx_len, hnl]
      have hown0 := Lib.hid hown0
      clear ho2 ho hnl
      go_wp2_with fail
      refine hC1.out.mono ?_
      rintro e w2 ⟨rfl, ho3, hg3⟩
      have hb2 : Below w.heap.size w w2 := hb.grown hg3 hsz fun j hj => (hown0.out j hj).1
      have hC2 := Lib.hid (compact_any _ _ _ _ ho3 (by rw [hle.out]; omega))
      clear hC1 ho3 hg3 hb
      go_wp2_with fail
      refine hC2.out.mono ?_
      rintro e w3 ⟨v', rfl, ho4, hob, hg4⟩
      obtain ⟨A', cap', rfl⟩ := own_form ho4
      have hb3 : Below w.heap.size w w3 := hb2.grown hg4 hb2.size fun j hj => (hown0.out j hj).1
      have hfin : Hid (c = decide ((compTx (sortTx (namesG l))).length < l.length)) := HC.out
      clear hC2 ho4 hob hg4 hb2 hown0 HC
      generalize (compTx (sortTx (namesG l))).length = m at hfin ⊢
      go_wp2
      go_ret
      exact retB hfin.out.symm hb3

theorem entLg : Enters Tryz.prog 57 := enters Tryz.func57 (by kernel_rfl) (by kernel_rfl)
theorem entWr : Enters Tryz.prog 58 := enters Tryz.func58 (by kernel_rfl) (by kernel_rfl)

set_option maxRecDepth 100000 in
set_option maxHeartbeats 800000 in
theorem checkGroups_any (v : Value) (l : List Gr) (B : Nat) (w : World) (hv : Grs w B v l) (hB : B ≤ w.heap.size) (hl : l.length ≤ 1000000000000) :
    Calls Tryz.prog 28 #[v] w fun e w' => e = .returned (.int .i64 (if l.any longG then 3 else if l.any wrongG || twiceG l then 2 else 0)) ∧ Below w.heap.size w w' := by
  have C1 := Lib.hid fun w' (hb : Below w.heap.size w w') => contGr_any longG 57 #[] v l B w' (hv.below (hb.mono hB)) (Nat.le_trans hB hb.size) ⟨entLg, fun g _ s w2 hb2 hs => by
    rw [one_arg]; exact longGr_any g s B w2 hs (Nat.le_trans hB (Nat.le_trans hb.size hb2.size))⟩
  have C2 := Lib.hid fun w' (hb : Below w.heap.size w w') => contGr_any wrongG 58 #[] v l B w' (hv.below (hb.mono hB)) (Nat.le_trans hB hb.size) ⟨entWr, fun g _ s w2 hb2 hs => by
    rw [one_arg]; exact wrongGr_any g.n g.ts s B w2 hs (Nat.le_trans hB (Nat.le_trans hb.size hb2.size))⟩
  have C3 := Lib.hid fun w' (hb : Below w.heap.size w w') => twice_any v l B w' (hv.below (hb.mono hB)) (Nat.le_trans hB hb.size) hl
  obtain ⟨x, HX⟩ : ∃ x, Hid (x = l.any longG) := ⟨_, rfl⟩
  obtain ⟨y, HY⟩ : ∃ y, Hid (y = l.any wrongG) := ⟨_, rfl⟩
  obtain ⟨z, HZ⟩ : ∃ z, Hid (z = twiceG l) := ⟨_, rfl⟩
  rw [← HX.out, ← HY.out, ← HZ.out]
  rw [← HX.out] at C1
  rw [← HY.out] at C2
  rw [← HZ.out] at C3
  obtain ⟨A, cap, rfl⟩ := hv.form
  clear hv HX HY HZ
  obtain ⟨w0, rfl⟩ : ∃ w0 : World, w0 = w := ⟨_, rfl⟩
  cases x
  case true =>
    go_enter Tryz.func28, Tryz.ntmps28
    go_wp2_with fail
    refine (C1.out _ (Below.refl _ _)).mono ?_
    rintro e w1 ⟨rfl, hb1⟩
    clear C1 C2 C3
    go_wp2
    go_ret
    exact ⟨rfl, hb1⟩
  case false =>
    cases y
    case true =>
      go_enter Tryz.func28, Tryz.ntmps28
      go_wp2_with fail
      refine (C1.out _ (Below.refl _ _)).mono ?_
      rintro e w1 ⟨rfl, hb1⟩
      clear C1 C3
      go_wp2_with fail
      refine (C2.out _ hb1).mono ?_
      rintro e w2 ⟨rfl, hb2⟩
      have hb3 := hb1.trans (hb2.mono hb1.size)
      clear C2 hb1 hb2
      go_wp2
      go_ret
      exact ⟨rfl, hb3⟩
    case false =>
      cases z
      all_goals
        go_enter Tryz.func28, Tryz.ntmps28
        go_wp2_with fail
        refine (C1.out _ (Below.refl _ _)).mono ?_
        rintro e w1 ⟨rfl, hb1⟩
        clear C1
        go_wp2_with fail
        refine (C2.out _ hb1).mono ?_
        rintro e w2 ⟨rfl, hb2⟩
        have hb3 := hb1.trans (hb2.mono hb1.size)
        clear C2 hb1 hb2
        go_wp2_with fail
        refine (C3.out _ hb3).mono ?_
        rintro e w3 ⟨rfl, hb4⟩
        have hb5 := hb3.trans (hb4.mono hb3.size)
        clear C3 hb3 hb4
        go_wp2
        go_ret
        exact ⟨rfl, hb5⟩
end Go.Proofs.YtkbileabkfccgaaGreatDoor

/- match: machines are asked: there, run, Next, Run, fits, Fits. -/
namespace Go.Proofs.YtkbileabkfccgaaGreatDoor
open Go.RowKit

def thereB (n : Nat) (s : Int) : Bool := decide (0 ≤ s) && decide (s < n)
def stZ : St := ⟨false, []⟩
def stAt (a : List St) (s : Int) : St := a.getD s.toNat stZ
def hasT (t : ByteArray) (e : Ed) : Bool := decide (e.t = t)
/-- the state behind types; -1, if there is none -/
def runM (a : List St) (s : Int) : List ByteArray → Int
  | [] => if thereB a.length s then s else -1
  | t :: ts => if thereB a.length s then (match (stAt a s).es.find? (hasT t) with | none => -1 | some e => runM a e.n ts) else -1
def fitsM (a : List St) (s : Int) (ts : List ByteArray) : Bool := decide (0 ≤ runM a s ts) && (stAt a (runM a s ts)).b
/-- a machine's value -/
def auV (s : Value) : Value := .agg #[s]
theorem runM_ge (a : List St) (ts : List ByteArray) : ∀ s, runM a s ts = -1 ∨ thereB a.length (runM a s ts) = true := by
  induction ts with
  | nil => intro s; unfold runM; split <;> simp [*]
  | cons t ts ih =>
    intro s
    unfold runM
    split
    · split
      · exact .inl rfl
      · exact ih _
    · exact .inl rfl

set_option maxRecDepth 100000 in
theorem there_any (A : Option Addr) (n cap : Nat) (s : Int) (w : World) : Calls Tryz.prog 41 #[.agg #[.slice A n cap], .int .i64 s] w (RetB (thereB n s) w) := by
  have B1 : Below w.heap.size w (w.alloc (.cells #[.slice A n cap] 29)) := (Below.refl _ _).alloc (Nat.le_refl _) _
  obtain ⟨c, HF⟩ : ∃ c, Hid (c = thereB n s) := ⟨_, rfl⟩
  rw [← HF.out]
  go_enter Tryz.func41, Tryz.ntmps41
  go_wp2
  all_goals
    go_ret
    exact retB (by rw [HF.out]; unfold thereB; rw [Bool.eq_iff_iff]; simp <;> omega) B1

set_option maxRecDepth 100000 in
theorem run1_any (e : Ed) (p : Addr) (t : ByteArray) (w : World) (hp : w.cell? p = some (.string t)) (hpb : p.block < w.heap.size) :
    Calls Tryz.prog 86 #[edV e, .pointer (some p)] w (RetB (hasT t e) w) := by
  have B1 : Below w.heap.size w (w.alloc (.cells #[.string e.t, .int .i64 e.n] 53)) := (Below.refl _ _).alloc (Nat.le_refl _) _
  obtain ⟨c, HF⟩ : ∃ c, Hid (c = hasT t e) := ⟨_, rfl⟩
  obtain ⟨d, HD⟩ : ∃ d, (e.t.toList == t.toList) = d := ⟨_, rfl⟩
  rw [← HF.out]
  show Calls Tryz.prog 86 #[.agg #[.string e.t, .int .i64 e.n], .pointer (some p)] w (RetB c w)
  have hfin : Hid (c = d) := by show _ = _; rw [HF.out, ← HD]; unfold hasT; rw [Bool.eq_iff_iff, eqS_iff]; simp
  clear HF
  go_enter Tryz.func86, Tryz.ntmps86
  go_wp2
  go_ret
  exact retB hfin.out.symm B1

theorem entR1 : Enters Tryz.prog 86 := enters Tryz.func86 (by kernel_rfl) (by kernel_rfl)
theorem askR1 (p : Addr) (t : ByteArray) (w : World) (l : List Ed) (hp : w.cell? p = some (.string t)) (hpb : p.block < w.heap.size) : AsksEd Tryz.prog (hasT t) 86 #[.pointer (some p)] w l :=
  ⟨entR1, fun e _ w' hb => by
    rw [two_args]
    exact run1_any e p t w' ((hb.cell hpb).trans hp) (Nat.lt_of_lt_of_le hpb hb.size)⟩

theorem runM_stop {a : List St} {s : Int} (ts : List ByteArray) (h : thereB a.length s = false) : runM a s ts = -1 := by
  cases ts <;> simp [runM, h]
theorem runM_none {a : List St} {s : Int} {t : ByteArray} (ts : List ByteArray) (h : (stAt a s).es.find? (hasT t) = none) : runM a s (t :: ts) = -1 := by
  unfold runM; rw [h]; simp
theorem runM_some {a : List St} {s : Int} {t : ByteArray} (ts : List ByteArray) (e : Ed) (h0 : thereB a.length s = true) (h : (stAt a s).es.find? (hasT t) = some e) : runM a s (t :: ts) = runM a e.n ts := by
  rw [runM, h0, h]; simp
theorem idx_find {T : Type} (p : T → Bool) (l : List T) : (idx p l = -1 ∧ l.find? p = none) ∨ ∃ (k : Nat) (h : k < l.length), idx p l = k ∧ l.find? p = some l[k] := by
  unfold idx
  cases hq : l.any p
  · refine .inl ⟨rfl, ?_⟩
    rw [List.find?_eq_none]
    intro x hx hp
    rw [List.any_eq_false] at hq
    exact hq x hx hp
  · have hlt := List.findIdx_lt_length_of_exists (xs := l) (p := p) (by simpa [List.any_eq_true] using hq)
    refine .inr ⟨l.findIdx p, hlt, by simp, ?_⟩
    rw [List.find?_eq_some_iff_getElem]
    exact ⟨List.findIdx_getElem, _, hlt, rfl, fun j hj => by simpa using List.not_of_lt_findIdx hj⟩
theorem thereB_iff {n : Nat} {s : Int} : thereB n s = true ↔ ∃ k : Nat, s = k ∧ k < n := by
  unfold thereB
  rw [Bool.and_eq_true, decide_eq_true_iff, decide_eq_true_iff]
  exact ⟨fun ⟨h1, h2⟩ => ⟨s.toNat, by omega, by omega⟩, fun ⟨k, h1, h2⟩ => by omega⟩
theorem stAt_get (a : List St) (k : Nat) (hk : k < a.length) : stAt a (k : Int) = a[k] := by unfold stAt; rw [Int.toNat_natCast, List.getD_eq_getElem?_getD, List.getElem?_eq_getElem hk]; rfl

set_option maxRecDepth 100000 in
set_option maxHeartbeats 1600000 in
/-- run -/
theorem mrun_any (a : List St) (s : Int) (ts : List ByteArray) (va vt : Value) (B : Nat) (w : World) (ha : Sts w B va a) (ht : Tx w B vt ts) (hB : B ≤ w.heap.size) :
    Calls Tryz.prog 49 #[auV va, .int .i64 s, vt] w fun e w' => e = .returned (.int .i64 (runM a s ts)) ∧ Below w.heap.size w w' := by
  obtain ⟨A, cap, rfl⟩ := ha.form
  obtain ⟨A2, cap2, rfl⟩ := ht.form
  have hm := ht.max
  have hm2 := ha.max
  unfold maxLen at hm hm2
  obtain ⟨r, HR⟩ : ∃ r, Hid (r = runM a s ts) := ⟨_, rfl⟩
  rw [← HR.out]
  have HB1 : Hid (Below w.heap.size w (w.alloc (.cells #[.slice A a.length cap] 29))) := (Below.refl _ _).alloc (Nat.le_refl _) _
  obtain ⟨w0, rfl⟩ : ∃ w0 : World, w0 = w := ⟨_, rfl⟩
  show Calls Tryz.prog 49 #[.agg #[.slice A a.length cap], .int .i64 s, .slice A2 ts.length cap2] w0 _
  go_enter Tryz.func49, Tryz.ntmps49
  go_wp2_with fail
  go_loopw [1, 8, 9, 10, 13] (fun st _ _ _ i wr => ∃ (k : Nat) (q : Int), k ≤ ts.length ∧ i = .int .i64 k ∧ st = .int .i64 q ∧ Hid (Below (w0.heap.size + 1) (w0.alloc (.cells #[.slice A a.length cap] 29)) wr) ∧ Hid (r = runM a q (ts.drop k))) (fun _ _ _ _ i _ => ts.length - (intOf i).toNat)
  case atStart => exact ⟨0, s, Nat.zero_le _, rfl, rfl, Below.refl _ _, HR.out⟩
  case round =>
    obtain ⟨k, q, hk, rfl, rfl, hb0, hq⟩ := hrel
    have hbw : Hid (Below w0.heap.size w0 wr) := HB1.out.trans (hb0.out.mono (by omega))
    have hgc0 : wr.cell? ⟨w0.heap.size, 0, none⟩ = some (.slice A a.length cap) := by rw [hb0.out.cell (p := ⟨w0.heap.size, 0, none⟩) (by show w0.heap.size < _; omega)]; go_simp
    have hsz := hb0.out.size
    replace hsz : w0.heap.size + 1 ≤ wr.heap.size := by simpa using hsz
    have hlt0 : w0.heap.size < wr.heap.size := by omega
    have CT := fun w => there_any A a.length cap q w
    obtain ⟨x, HX⟩ : ∃ x, Hid (x = thereB a.length q) := ⟨_, rfl⟩
    rw [← HX.out] at CT
    by_cases hlt : k < ts.length
    · obtain ⟨b, off, rfl, hbB, hcap, hc0⟩ := (ht.below (hbw.out.mono hB)).at hlt
      have hdrop : ts.drop k = ts[k] :: ts.drop (k + 1) := List.drop_eq_getElem_cons hlt
      cases x
      · have hfin : Hid (r = -1) := by show _ = _; rw [hq.out]; exact runM_stop _ HX.out.symm
        go_wp2_with fail
        refine (CT _).mono ?_
        rintro e w1 ⟨rfl, hb1⟩
        have hb : Below w0.heap.size w0 w1 := ((hbw.out.alloc hbw.out.size _)).trans (hb1.mono (by simp; omega))
        clear hb1 CT
        go_wp2
        go_ret
        exact ⟨ret_int hfin.out.symm, hb⟩
      · obtain ⟨j, rfl, hj⟩ := thereB_iff.1 HX.out.symm
        obtain ⟨b2, off2, s2, rfl, hb2B, hcap2, hes, hd0, hd1⟩ := (ha.below (hbw.out.mono hB)).at hj
        obtain ⟨A3, c3, rfl⟩ := hes.form
        have hlt3 : wr.heap.size < (wr.alloc (.cells #[.string ts[k]] 9)).heap.size := by simp
        have HP : Hid ((wr.alloc (.cells #[.string ts[k]] 9)).cell? ⟨wr.heap.size, 0, none⟩ = some (.string ts[k])) := by show _ = _; go_simp
        have HES := Lib.hid hes
        have HTF := Lib.hid (idx_find (hasT ts[k]) a[j].es)
        have HTA := Lib.hid (stAt_get a j hj)
        have HDR := Lib.hid hdrop
        have hb2wr : b2 < wr.heap.size := by omega
        have hjn : ((j : Int) < (a.length : Int)) := by omega
        clear hes hdrop
        go_wp2_with fail
        refine (CT _).mono ?_
        rintro e w1 ⟨rfl, hb1⟩
        have hb10 : Hid (Below (w0.heap.size + 1) (w0.alloc (.cells #[.slice (some ⟨b2, off2, none⟩) a.length cap] 29)) w1) := (hb0.out.alloc hsz _).trans (hb1.mono (by simp; omega))
        have hbw1 : Hid (Below w0.heap.size w0 w1) := (hbw.out.alloc (by omega) _).trans (hb1.mono (by simp; omega))
        have HS1 : Hid (Below B wr w1) := ((Below.refl _ _).alloc (by omega) _).trans (hb1.mono (by simp; omega))
        have HP1 : Hid (w1.cell? ⟨wr.heap.size, 0, none⟩ = some (.string ts[k])) := (hb1.cell (p := ⟨wr.heap.size, 0, none⟩) hlt3).trans HP.out
        have hs1 : wr.heap.size + 1 ≤ w1.heap.size := by have := hb1.size; simpa using this
        obtain ⟨hcc, hcf⟩ := bcell hb1
        have hc0' := hc0
        clear hc0 hc0' HP
        have e0 : w1.cell? ⟨w0.heap.size, 0, none⟩ = some (.slice (some ⟨b2, off2, none⟩) a.length cap) := by rw [hcc _ _ (by simp; omega)]; go_simp
        have e1 : w1.cell? ⟨b2, off2 + j * 2 + 1, none⟩ = some (.slice A3 a[j].es.length c3) := by rw [hcc _ _ (by simp; omega)]; go_simp
        have CI := Lib.hid (idxEd_any (hasT ts[k]) 86 #[.pointer (some ⟨wr.heap.size, 0, none⟩)] (.slice A3 a[j].es.length c3) a[j].es B w1 (HES.out.below HS1.out) (by omega) (askR1 _ _ w1 _ HP1.out hs1))
        clear hcc hcf hb1 CT hgc0 hd0 hd1
        go_wp2_with fail
        refine CI.out.mono ?_
        rintro e w2 ⟨rfl, hb2⟩
        have hb20 := Lib.hid (hb10.out.trans (hb2.mono (by omega)))
        have hbw2 := Lib.hid (hbw1.out.trans (hb2.mono (by omega)))
        have HS2 := Lib.hid (HS1.out.trans (hb2.mono (by omega)))
        obtain ⟨hcc, hcf⟩ := bcell hb2
        clear CI hb2 HP1 e0 e1 hbw1 hb10
        rcases HTF.out with ⟨h1, h2⟩ | ⟨m, hml, h1, h2⟩
        · have hfin : Hid (r = -1) := by show _ = _; rw [hq.out, HDR.out]; exact runM_none _ (by rw [HTA.out]; exact h2)
          rw [h1]
          clear h2 HTF HDR hcc hcf h1
          go_wp2
          go_ret
          exact ⟨ret_int hfin.out.symm, hbw2.out⟩
        · obtain ⟨b3, off3, rfl, hb3B, hcap3, hf0, hf1⟩ := (HES.out.below HS2.out).at hml
          have hnext : Hid (r = runM a a[j].es[m].n (ts.drop (k + 1))) := by show _ = _; rw [hq.out, HDR.out]; exact runM_some _ _ HX.out.symm (by rw [HTA.out]; exact h2)
          rw [h1]
          have hmn : ((m : Int) < (a[j].es.length : Int)) := by omega
          clear h2 HTF HDR hcc hcf h1
          go_wp2
          go_roundw
          case rel => exact ⟨k + 1, _, by omega, by go_num, rfl, hb20, hnext⟩
          case measure => simp [intOf]; omega
    · have hk2 : ts.drop k = [] := List.drop_eq_nil_of_le (by omega)
      cases x
      · have hfin : Hid (r = -1) := by show _ = _; rw [hq.out]; exact runM_stop _ HX.out.symm
        clear hk2
        go_wp2_with fail
        refine (CT _).mono ?_
        rintro e w1 ⟨rfl, hb1⟩
        have hb : Below w0.heap.size w0 w1 := hbw.out.trans (hb1.mono (by omega))
        clear hb1 CT
        go_wp2
        go_ret
        exact ⟨ret_int hfin.out.symm, hb⟩
      · have hfin : Hid (r = q) := by show _ = _; rw [hq.out, hk2, runM, ← HX.out]; simp
        clear hk2
        go_wp2_with fail
        refine (CT _).mono ?_
        rintro e w1 ⟨rfl, hb1⟩
        have hb : Below w0.heap.size w0 w1 := hbw.out.trans (hb1.mono (by omega))
        clear hb1 CT
        go_wp2
        go_ret
        exact ⟨ret_int hfin.out.symm, hb⟩

def RetI (c : Int) (w : World) (e : Ending) (w' : World) : Prop := e = .returned (.int .i64 c) ∧ Below w.heap.size w w'
theorem retI {c d : Int} {w w' : World} (h : c = d) (hb : Below w.heap.size w w') : RetI d w (.returned (.int .i64 c)) w' := ⟨by rw [h], hb⟩

set_option maxRecDepth 100000 in
theorem Run_any (a : List St) (s : Int) (ts : List ByteArray) (va vt : Value) (B : Nat) (w : World) (ha : Sts w B va a) (ht : Tx w B vt ts) (hB : B ≤ w.heap.size) :
    Calls Tryz.prog 15 #[auV va, .int .i64 s, vt] w (RetI (runM a s ts) w) := by
  obtain ⟨A, cap, rfl⟩ := ha.form
  have B1 : Below w.heap.size w (w.alloc (.cells #[.slice A a.length cap] 29)) := (Below.refl _ _).alloc (Nat.le_refl _) _
  have C := Lib.hid (mrun_any a s ts _ vt B _ (ha.below (B1.mono hB)) (ht.below (B1.mono hB)) (Nat.le_trans hB B1.size))
  obtain ⟨r, HR⟩ : ∃ r, Hid (r = runM a s ts) := ⟨_, rfl⟩
  rw [← HR.out] at C ⊢
  clear ha ht
  unfold auV at C ⊢
  go_enter Tryz.func15, Tryz.ntmps15
  go_wp2_with fail
  refine C.out.mono ?_
  rintro e w1 ⟨rfl, hb1⟩
  have hb := B1.trans (hb1.mono B1.size)
  clear C hb1 B1
  go_wp2
  go_ret
  exact retI rfl hb

set_option maxRecDepth 100000 in
theorem Next_any (a : List St) (s : Int) (t : ByteArray) (va : Value) (B : Nat) (w : World) (ha : Sts w B va a) (hB : B ≤ w.heap.size) :
    Calls Tryz.prog 13 #[auV va, .int .i64 s, .string t] w (RetI (runM a s [t]) w) := by
  obtain ⟨A, cap, rfl⟩ := ha.form
  have B2 := box2 w (.cells #[.slice A a.length cap] 29) (.cells #[.string t] 9)
  have ht : Tx ((w.alloc (.cells #[.slice A a.length cap] 29)).alloc (.cells #[.string t] 9)) (w.heap.size + 1 + 1) (.slice (some ⟨w.heap.size + 1, 0, none⟩) 1 1) [t] := by
    have := Rd.lit (w.alloc (.cells #[.slice A a.length cap] 29)) 9 1 1 #[.string t] (0, 0) rfl (by omega)
    rw [World.size_alloc] at this
    exact this
  have C := Lib.hid (mrun_any a s [t] _ _ (w.heap.size + 1 + 1) _ ((ha.below (B2.mono hB)).mono (by omega)) ht (by simp))
  obtain ⟨r, HR⟩ : ∃ r, Hid (r = runM a s [t]) := ⟨_, rfl⟩
  rw [← HR.out] at C ⊢
  clear ha ht
  unfold auV at C ⊢
  go_enter Tryz.func13, Tryz.ntmps13
  go_wp2_with fail
  refine C.out.mono ?_
  rintro e w1 ⟨rfl, hb1⟩
  have hb := B2.trans (hb1.mono B2.size)
  clear C hb1 B2
  go_wp2
  go_ret
  exact retI rfl hb

theorem fitsM_lt {a : List St} {s : Int} {ts : List ByteArray} : (runM a s ts = -1 ∧ fitsM a s ts = false) ∨ ∃ (k : Nat) (h : k < a.length), runM a s ts = k ∧ fitsM a s ts = a[k].b := by
  rcases runM_ge a ts s with h | h
  · exact .inl ⟨h, by unfold fitsM; rw [h]; rfl⟩
  · obtain ⟨k, hk, hl⟩ := thereB_iff.1 h
    refine .inr ⟨k, hl, hk, ?_⟩
    unfold fitsM
    rw [hk, stAt_get a k hl]
    simp

set_option maxRecDepth 100000 in
theorem mfits_any (a : List St) (s : Int) (ts : List ByteArray) (va vt : Value) (B : Nat) (w : World) (ha : Sts w B va a) (ht : Tx w B vt ts) (hB : B ≤ w.heap.size) :
    Calls Tryz.prog 44 #[auV va, .int .i64 s, vt] w (RetB (fitsM a s ts) w) := by
  obtain ⟨A, cap, rfl⟩ := ha.form
  have hm2 := ha.max
  unfold maxLen at hm2
  have B1 : Below w.heap.size w (w.alloc (.cells #[.slice A a.length cap] 29)) := (Below.refl _ _).alloc (Nat.le_refl _) _
  have C := Lib.hid (mrun_any a s ts _ vt B _ (ha.below (B1.mono hB)) (ht.below (B1.mono hB)) (Nat.le_trans hB B1.size))
  have HF := Lib.hid (@fitsM_lt a s ts)
  obtain ⟨r, HR⟩ : ∃ r, Hid (r = runM a s ts) := ⟨_, rfl⟩
  obtain ⟨c, HC⟩ : ∃ c, Hid (c = fitsM a s ts) := ⟨_, rfl⟩
  rw [← HR.out] at C HF
  rw [← HC.out] at HF ⊢
  unfold auV at C ⊢
  go_enter Tryz.func44, Tryz.ntmps44
  go_wp2_with fail
  refine C.out.mono ?_
  rintro e w1 ⟨rfl, hb1⟩
  have hb := B1.trans (hb1.mono B1.size)
  have hs1 : w.heap.size + 1 ≤ w1.heap.size := by have := hb1.size; simpa using this
  have e0 : w1.cell? ⟨w.heap.size, 0, none⟩ = some (.slice A a.length cap) := by rw [hb1.cell (p := ⟨w.heap.size, 0, none⟩) (by simp)]; go_simp
  rcases HF.out with ⟨rfl, rfl⟩ | ⟨k, hk, rfl, rfl⟩
  · clear C hb1 B1 HF HC HR
    go_wp2
    go_ret
    exact retB rfl hb
  · obtain ⟨b2, off2, s2, rfl, hb2B, hcap2, hes, hd0, hd1⟩ := (ha.below (hb.mono hB)).at hk
    have hjn : ((k : Int) < (a.length : Int)) := by omega
    clear C hb1 B1 HF HC HR hd1
    go_wp2
    go_ret
    exact retB rfl hb

set_option maxRecDepth 100000 in
theorem Fits_any (a : List St) (ts : List ByteArray) (va vt : Value) (B : Nat) (w : World) (ha : Sts w B va a) (ht : Tx w B vt ts) (hB : B ≤ w.heap.size) :
    Calls Tryz.prog 17 #[auV va, vt] w (RetB (fitsM a 0 ts) w) := by
  obtain ⟨A, cap, rfl⟩ := ha.form
  have B1 : Below w.heap.size w (w.alloc (.cells #[.slice A a.length cap] 29)) := (Below.refl _ _).alloc (Nat.le_refl _) _
  have C := Lib.hid (mfits_any a 0 ts _ vt B _ (ha.below (B1.mono hB)) (ht.below (B1.mono hB)) (Nat.le_trans hB B1.size))
  obtain ⟨r, HR⟩ : ∃ r, Hid (r = fitsM a 0 ts) := ⟨_, rfl⟩
  rw [← HR.out] at C ⊢
  clear ha ht
  unfold auV at C ⊢
  go_enter Tryz.func17, Tryz.ntmps17
  go_wp2_with fail
  refine C.out.mono ?_
  rintro e w1 ⟨rfl, hb1⟩
  have hb := B1.trans (hb1.mono B1.size)
  clear C hb1 B1
  go_wp2
  go_ret
  exact retB rfl hb
end Go.Proofs.YtkbileabkfccgaaGreatDoor

/- match: Same. -/
namespace Go.Proofs.YtkbileabkfccgaaGreatDoor
open Go.RowKit

theorem beN {B : Nat} {w w' : World} (h : Below B w w') (n : Nat) : Below B w (w'.drewN n) := ⟨h.os, h.tape, h.output, h.size, h.block⟩
instance : DecidableEq St := fun a b => if h : a.b = b.b ∧ a.es = b.es then .isTrue (by cases a; cases b; simp_all) else .isFalse fun e => h ⟨by rw [e], by rw [e]⟩
def eqEd (a b : Ed) : Bool := (a.t.toList == b.t.toList) && (a.n == b.n)
theorem eqEd_iff (a b : Ed) : eqEd a b = true ↔ a = b := by
  unfold eqEd
  rw [Bool.and_eq_true, eqS_iff, beq_iff_eq]
  exact ⟨fun ⟨h1, h2⟩ => Ed.ext' h1 h2, fun h => by rw [h]; exact ⟨rfl, rfl⟩⟩
theorem eqEdge_run (a c : ByteArray) (b d : Int) (w : World) : (Op.equalIn 10000 53 (.agg #[.string a, .int .i64 b]) (.agg #[.string c, .int .i64 d])).run Tryz.prog w = .ok ((a.toList == c.toList) && (b == d)) w := by
  have u3 := Tryz.underlying9
  have a3 := Tryz.isAgg9
  have z3 := Tryz.sizeOf9
  have u4 := Tryz.underlying3
  have a4 := Tryz.isAgg3
  have z4 := Tryz.sizeOf3
  have hS : Tryz.prog.underlying 53 = some (.struct (Tryz.prog.fieldsOf 53)) := by kernel_rfl
  have hp : Tryz.prog.stoodInHeld 53 = false := by kernel_rfl
  rw [show (10000 : Nat) = 9999 + 1 from rfl, run_equalIn_agg w 9999 53 _ _ hS hp]
  simp only [Program.fieldsOf, Tryz.underlying53]
  go_simp
  cases h1 : (a.toList == c.toList) <;> cases h2 : (b == d) <;> simp_all
theorem neqEdge_run (a c : ByteArray) (b d : Int) (w : World) : (binOp .neq 53 (.agg #[.string a, .int .i64 b]) (.agg #[.string c, .int .i64 d])).run Tryz.prog w = .ok (.bool (!((a.toList == c.toList) && (b == d)))) w := by
  rw [run_neq_struct, eqEdge_run]; rfl
theorem eqL_len {α : Type} [DecidableEq α] {l m : List α} (h : ¬ l.length = m.length) : decide (l = m) = false := by simp; rintro rfl; exact h rfl
theorem eqL_no {α : Type} [DecidableEq α] {l m : List α} (k : Nat) (h1 : k < l.length) (h2 : k < m.length) (h : l[k] ≠ m[k]) : decide (l = m) = false := by simp; rintro rfl; exact h rfl
theorem eqL_yes {α : Type} [DecidableEq α] {l m : List α} (h : l.length = m.length) (hk : ∀ k (h1 : k < l.length) (h2 : k < m.length), l[k] = m[k]) : decide (l = m) = true := by
  rw [decide_eq_true_iff]; exact List.ext_getElem h fun k h1 h2 => hk k h1 h2

set_option maxRecDepth 100000 in
set_option maxHeartbeats 800000 in
theorem equalEd_any (va vb : Value) (l m : List Ed) (B : Nat) (w : World) (hl : Eds w B va l) (hm : Eds w B vb m) (hB : B ≤ w.heap.size) :
    Calls Tryz.prog 40 #[va, vb] w (RetB (decide (l = m)) w) := by
  obtain ⟨Al, cl, rfl⟩ := hl.form
  obtain ⟨Am, cm, rfl⟩ := hm.form
  have hml := hl.max
  have hmm := hm.max
  unfold maxLen at hml hmm
  by_cases hlen : l.length = m.length
  · have hlen' : ((l.length : Int) != (m.length : Int)) = false := by simp; omega
    have HL := Lib.hid hlen
    obtain ⟨c, HC⟩ : ∃ c, Hid (c = decide (l = m)) := ⟨_, rfl⟩
    rw [← HC.out]
    clear hlen
    go_enter Tryz.func40, Tryz.ntmps40
    go_wp2
    go_loopw [5, 13] (fun _ i wr => ∃ k : Nat, k ≤ l.length ∧ i = .int .i64 k ∧ Below w.heap.size w wr ∧ Hid (∀ j (h1 : j < l.length) (h2 : j < m.length), j < k → l[j] = m[j])) (fun _ i _ => l.length - (intOf i).toNat)
    case atStart => exact ⟨0, Nat.zero_le _, rfl, Below.refl _ _, fun j _ _ hj => by omega⟩
    case round =>
      obtain ⟨k, hk, rfl, hb, hall⟩ := hrel
      by_cases hlt : k < l.length
      · have hltm : k < m.length := by have := HL.out; omega
        obtain ⟨bl, offl, rfl, hblB, hcll, hl0, hl1⟩ := (hl.below (hb.mono hB)).at hlt
        obtain ⟨bm, offm, rfl, hbmB, hcmm, hm0, hm1⟩ := (hm.below (hb.mono hB)).at hltm
        have hs := Lib.hid (eqEd_iff l[k] m[k])
        have hi1 : (k : Int) < (l.length : Int) := by omega
        have hi2 : (k : Int) < (m.length : Int) := by omega
        have hi0 : (0 : Int) ≤ (k : Int) := by omega
        have hq := neqEdge_run l[k].t m[k].t l[k].n m[k].n
        have hgd : Tryz.prog.eqGuardType Tryz.prog.depth 53 = false := by kernel_rfl
        cases he : ((l[k].t.toList == m[k].t.toList) && (l[k].n == m[k].n))
        · have hf : Hid (c = false) := by
            show _ = _; rw [HC.out]; exact eqL_no k hlt hltm fun e => by
              have h2 := hs.out.2 e; unfold eqEd at h2; rw [he] at h2; cases h2
          rw [he] at hq
          clear he
          go_wp2
          go_quiet (fail)
          go_wp2
          go_ret
          exact retB hf.out.symm (beN hb _)
        · have hall' : Hid (∀ j (h1 : j < l.length) (h2 : j < m.length), j < k + 1 → l[j] = m[j]) := by
            show ∀ j, _
            intro j h1 h2 hj
            by_cases e : j = k
            · subst e; exact hs.out.1 he
            · exact hall.out j h1 h2 (by omega)
          rw [he] at hq
          clear he
          go_wp2
          go_quiet (fail)
          go_wp2
          go_roundw
          case rel => exact ⟨k + 1, by omega, by go_num, beN hb _, hall'⟩
          case measure => simp [intOf]; omega
      · have hf : Hid (c = true) := by show _ = _; rw [HC.out]; exact eqL_yes HL.out fun k h1 h2 => hall.out k h1 h2 (by omega)
        go_wp2
        go_ret
        exact retB hf.out.symm hb
  · have hf : Hid (decide (l = m) = false) := eqL_len hlen
    rw [hf.out]
    have hlen' : ((l.length : Int) != (m.length : Int)) = true := by rw [bne_iff_ne]; omega
    clear hlen
    go_enter Tryz.func40, Tryz.ntmps40
    go_wp2
    go_ret
    exact retB rfl (Below.refl _ _)

set_option maxRecDepth 100000 in
set_option maxHeartbeats 800000 in
theorem same1S_any (x y : St) (s t : Value) (B : Nat) (w : World) (hs : Eds w B s x.es) (ht : Eds w B t y.es) (hB : B ≤ w.heap.size) :
    Calls Tryz.prog 39 #[stV x s, stV y t] w (RetB (decide (x = y)) w) := by
  obtain ⟨a, l⟩ := x
  obtain ⟨b, m⟩ := y
  obtain ⟨A, cap, rfl⟩ := hs.form
  obtain ⟨A2, cap2, rfl⟩ := ht.form
  have B2 := box2 w (.cells #[.bool a, .slice A l.length cap] 38) (.cells #[.bool b, .slice A2 m.length cap2] 38)
  obtain ⟨c, HC⟩ : ∃ c, Hid (c = decide (l = m)) := ⟨decide (l = m), Lib.hid rfl⟩
  have C := Lib.hid (equalEd_any _ _ l m B _ (hs.below (B2.mono hB)) (ht.below (B2.mono hB)) (Nat.le_trans hB B2.size))
  rw [← HC.out] at C
  have hall : Hid (decide ((⟨a, l⟩ : St) = ⟨b, m⟩) = (a == b && c)) := by
    show _ = _; rw [HC.out, Bool.eq_iff_iff]; simp
  rw [hall.out]
  clear hs ht hall
  show Calls Tryz.prog 39 #[.agg #[.bool a, .slice A l.length cap], .agg #[.bool b, .slice A2 m.length cap2]] w (RetB (a == b && c) w)
  cases h : (a == b)
  · clear C
    go_enter Tryz.func39, Tryz.ntmps39
    go_wp2_with fail
    go_ret
    exact retB rfl B2
  · go_enter Tryz.func39, Tryz.ntmps39
    go_wp2_with fail
    refine C.out.mono ?_
    rintro e w1 ⟨rfl, hb1⟩
    have hb := B2.trans (hb1.mono B2.size)
    clear C hb1 B2
    go_wp2
    go_ret
    exact retB rfl hb

theorem entSm1 : Enters Tryz.prog 39 := enters Tryz.func39 (by kernel_rfl) (by kernel_rfl)

set_option maxRecDepth 100000 in
set_option maxHeartbeats 800000 in
theorem eqFS_any (v v2 : Value) (l m : List St) (B : Nat) (w : World) (hv : Sts w B v l) (hv2 : Sts w B v2 m) (hB : B ≤ w.heap.size) :
    Calls Tryz.prog 38 #[v, v2, .func (.func 39) #[] #[]] w (RetB (decide (l = m)) w) := by
  obtain ⟨A, cap, rfl⟩ := hv.form
  obtain ⟨A2, cap2, rfl⟩ := hv2.form
  by_cases hl : l.length = m.length
  case neg =>
    rw [eqL_len hl]
    have h1 : (((l.length : Nat) : Int) != ((m.length : Nat) : Int)) = true := by simp; omega
    clear hl
    go_enter Tryz.func38, Tryz.ntmps38
    go_wp2_with fail
    go_ret
    exact retB rfl (Below.refl _ _)
  have hm := hv.max
  unfold maxLen at hm
  obtain ⟨c, HC⟩ : ∃ c, Hid (c = decide (l = m)) := ⟨decide (l = m), Lib.hid rfl⟩
  rw [← HC.out]
  rw [← hl]
  rw [← hl] at hv2
  have HL := Lib.hid hl
  clear hl
  go_enter Tryz.func38, Tryz.ntmps38
  go_wp2_with fail
  go_loopw [7, 8, 9, 17] (fun _ _ _ i wr => ∃ k : Nat, k ≤ l.length ∧ i = .int .i64 k ∧ Hid (Below w.heap.size w wr) ∧ Hid (∀ j (h1 : j < l.length) (h2 : j < m.length), j < k → l[j] = m[j])) (fun _ _ _ i _ => l.length - (intOf i).toNat)
  case atStart => exact ⟨0, Nat.zero_le _, rfl, Below.refl _ _, fun j _ _ hj => by omega⟩
  case round =>
    obtain ⟨k, hk, rfl, hb, hall⟩ := hrel
    by_cases hlt : k < l.length
    · have hlt2 : k < m.length := by have := HL.out; omega
      have hsz := hb.out.size
      obtain ⟨b, off, s, rfl, hbB, hcap, hks, hc0, hc1⟩ := (hv.below (hb.out.mono hB)).at hlt
      have hv2' : Sts wr B (.slice A2 m.length cap2) m := by have := hv2.below (hb.out.mono hB); rw [HL.out] at this; exact this
      obtain ⟨b2, off2, s2, rfl, hbB2, hcap2, hks2, hd0, hd1⟩ := hv2'.at hlt2
      have hcapl : l.length ≤ cap2 := by have := HL.out; omega
      have hbw : b < wr.heap.size := by omega
      have hbw2 : b2 < wr.heap.size := by omega
      obtain ⟨x, HX⟩ : ∃ x, Hid (x = l[k]) := ⟨l[k], Lib.hid rfl⟩
      obtain ⟨y, HY⟩ : ∃ y, Hid (y = m[k]) := ⟨m[k], Lib.hid rfl⟩
      rw [← HX.out] at hks hc0
      rw [← HY.out] at hks2 hd0
      obtain ⟨A3, cap3, rfl⟩ := hks.form
      obtain ⟨A4, cap4, rfl⟩ := hks2.form
      have BB := box2 wr (.cells #[.bool x.b, .slice A3 x.es.length cap3] 38) (.cells #[.bool y.b, .slice A4 y.es.length cap4] 38)
      have hcall := same1S_any x y _ _ B _ (hks.below (BB.mono (by omega))) (hks2.below (BB.mono (by omega))) (by simp; omega)
      obtain ⟨d, HD⟩ : ∃ d, Hid (d = decide (x = y)) := ⟨decide (x = y), Lib.hid rfl⟩
      rw [← HD.out] at hcall
      have hcall := Lib.hid hcall
      have hent := entSm1 #[stV x (.slice A3 x.es.length cap3), stV y (.slice A4 y.es.length cap4)]
      unfold stV at hent
      have HB2 := Lib.hid (hb.out.trans (BB.mono hsz))
      clear BB hks hks2 hv2'
      go_wp2_with fail
      refine (hcall.out).mono ?_
      rintro e w1 ⟨rfl, hb1⟩
      clear hcall hent
      have HB3 := Lib.hid (HB2.out.trans (hb1.mono HB2.out.size))
      clear hb1 HB2 hb
      cases d
      · have hfin : Hid (c = false) := by show _ = _; rw [HC.out]; exact eqL_no k hlt hlt2 (by rw [← HX.out, ← HY.out]; have := HD.out; intro e; rw [decide_eq_true e] at this; cases this)
        go_wp2_with fail
        go_ret
        exact retB hfin.out.symm HB3.out
      · have hall' : Hid (∀ j (h1 : j < l.length) (h2 : j < m.length), j < k + 1 → l[j] = m[j]) := by
          intro j h1 h2 hj
          by_cases e : j = k
          · subst e; rw [← HX.out, ← HY.out]; exact of_decide_eq_true HD.out.symm
          · exact hall.out j h1 h2 (by omega)
        clear hall
        go_wp2_with fail
        go_roundw
        case rel => exact ⟨k + 1, by omega, by go_num, HB3, hall'⟩
        case measure => simp [intOf]; omega
    · have hfin : Hid (c = true) := by show _ = _; rw [HC.out]; exact eqL_yes HL.out fun j h1 h2 => hall.out j h1 h2 (by omega)
      go_wp2_with fail
      go_ret
      exact retB hfin.out.symm hb.out

set_option maxRecDepth 100000 in
theorem SameA_any (a b : List St) (va vb : Value) (B : Nat) (w : World) (ha : Sts w B va a) (hb : Sts w B vb b) (hB : B ≤ w.heap.size) :
    Calls Tryz.prog 9 #[auV va, auV vb] w (RetB (decide (a = b)) w) := by
  obtain ⟨A, cap, rfl⟩ := ha.form
  obtain ⟨A2, cap2, rfl⟩ := hb.form
  have B2 := box2 w (.cells #[.slice A a.length cap] 29) (.cells #[.slice A2 b.length cap2] 29)
  have C := Lib.hid (eqFS_any _ _ a b B _ (ha.below (B2.mono hB)) (hb.below (B2.mono hB)) (Nat.le_trans hB B2.size))
  obtain ⟨r, HR⟩ : ∃ r, Hid (r = decide (a = b)) := ⟨decide (a = b), Lib.hid rfl⟩
  rw [← HR.out] at C ⊢
  clear ha hb
  unfold auV
  go_enter Tryz.func9, Tryz.ntmps9
  go_wp2_with fail
  refine C.out.mono ?_
  rintro e w1 ⟨rfl, hb1⟩
  have hb := B2.trans (hb1.mono B2.size)
  clear C hb1 B2
  go_wp2
  go_ret
  exact retB rfl hb
end Go.Proofs.YtkbileabkfccgaaGreatDoor
