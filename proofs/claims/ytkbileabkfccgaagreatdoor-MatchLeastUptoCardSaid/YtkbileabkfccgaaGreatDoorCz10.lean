/- MaI, MaJ, MaK, merged. -/
import Derived.Test.YtkbileabkfccgaaGreatDoorCz09
import Derived.Laws.OwnMore
import Derived.Deep.AppendLies
import Derived.Test.YtkbileabkfccgaaGreatDoorCz03
import Derived.Deep.LoopGhost

/- match: link, next, join: of a frame. -/
namespace Go.Proofs.YtkbileabkfccgaaGreatDoor
open Go.RowKit

/-- to comes behind each spot of from -/
def orAt (to : Nat) (b : List Nat) (i : Nat) : List Nat := b.set i (b.getD i 0 ||| to)
def linkM (f : Fm) (from_ to : Nat) : Fm := ⟨f.ns, (bitsN from_).foldl (orAt to) f.bh⟩
theorem orAt_len (to : Nat) (b : List Nat) (i : Nat) : (orAt to b i).length = b.length := by simp [orAt]
theorem orAts_len (to : Nat) (l : List Nat) (b : List Nat) : (l.foldl (orAt to) b).length = b.length := by
  induction l generalizing b with
  | nil => rfl
  | cons i l ih => rw [List.foldl_cons, ih, orAt_len]
theorem or_lt {x y : Nat} (hx : x < 33554432) (hy : y < 33554432) : x ||| y < 33554432 := Nat.or_lt_two_pow (n := 25) (by omega) (by omega)
theorem orAt_lt {to : Nat} {b : List Nat} (i : Nat) (ht : to < 33554432) (hb : ∀ x ∈ b, x < 33554432) : ∀ x ∈ orAt to b i, x < 33554432 := by
  intro x hx
  rcases List.mem_or_eq_of_mem_set hx with h | rfl
  · exact hb x h
  · refine or_lt ?_ ht
    by_cases hi : i < b.length
    · rw [List.getD_eq_getElem?_getD, List.getElem?_eq_getElem hi]; exact hb _ (List.getElem_mem hi)
    · rw [List.getD_eq_getElem?_getD, List.getElem?_eq_none (by omega)]; decide
theorem orAts_lt {to : Nat} (l : List Nat) {b : List Nat} (ht : to < 33554432) (hb : ∀ x ∈ b, x < 33554432) : ∀ x ∈ l.foldl (orAt to) b, x < 33554432 := by
  induction l generalizing b with
  | nil => exact hb
  | cons i l ih => rw [List.foldl_cons]; exact ih (orAt_lt i ht hb)

section
variable {w w' : World} {S : Nat → Prop} {g : Nat} {vn vb : Value} {f : Fm} {ends : Nat}
/-- where the sets lie -/
theorem FrV.atB (h : FrV w S g vn vb f ends) {i : Nat} (hi : i < f.bh.length) :
    ∃ gb c, vb = .slice (some ⟨gb, 0, none⟩) f.bh.length c ∧ f.bh.length ≤ c ∧ gb < w.heap.size ∧ ¬ S gb ∧ w.cell? ⟨gb, i, none⟩ = some (.int .u64 (f.bh[i] : Int)) ∧ w.frozen? ⟨gb, i, none⟩ = false ∧
      ∀ x : Nat, FrV (w.setCell ⟨gb, i, none⟩ (.int .u64 (x : Int))) S g vn vb ⟨f.ns, f.bh.set i x⟩ ends := by
  obtain ⟨hk, hb, o1, o2, s1, s2, d, n1, n2⟩ := h
  have h0 := o2
  rcases o2.2 with ⟨_, hn⟩ | ⟨gb, c, cur, rfl, _, hgb, r1, r2, r3, r4⟩
  · omega
  · have hlt : gb < w.heap.size := (Array.getElem?_eq_some_iff.1 hgb).1
    refine ⟨gb, c, rfl, r1, hlt, s2 gb rfl, ?_, h0.frozenAt i, fun x => ?_⟩
    · rw [h0.cellAt i (by omega), seC_get _ _ hi]
    · have hg : gb ≠ g := fun e => n2 (by rw [e]; rfl)
      refine ⟨hk.far (p := ⟨gb, i, none⟩) (Ne.symm hg) _, hb, own_cell o1 _ (fun e => ?_), ?_, s1, s2, d, n1, n2⟩
      · rcases d with h | h
        · rw [e] at h; cases h
        · exact h e
      · have hs := h0.stored i (.int .u64 (x : Int))
        simpa [seC, List.map_set] using hs.1
end
theorem foldl_take_succ {α β : Type} (h : β → α → β) (b : β) (l : List α) (k : Nat) (hk : k < l.length) : (l.take (k + 1)).foldl h b = h ((l.take k).foldl h b) l[k] := by
  rw [List.take_succ_eq_append_getElem hk, List.foldl_append]; rfl

/-- a method of a frame hands back nothing, and leaves frame f -/
def LnR (w : World) (S : Nat → Prop) (g : Nat) (ends : Nat) (f : Fm) (x : Ending) (w' : World) : Prop := x = .returned (.tuple #[]) ∧ Fr w' S g f ends ∧ Kp S w w'

set_option maxRecDepth 100000 in
set_option maxHeartbeats 1600000 in
theorem link_any (g : Nat) (f : Fm) (ends : Nat) (a t : Nat) (S : Nat → Prop) (w : World) (h : Fr w S g f ends) (hS : In S w) (ha : a < 33554432) (ht : t < 33554432) (hin : ∀ i ∈ bitsN a, i < f.bh.length) (hbh : ∀ x ∈ f.bh, x < 33554432) (hT : Tab w) :
    Calls Tryz.prog 105 #[.pointer (some ⟨g, 0, none⟩), .int .u64 a, .int .u64 t] w (LnR w S g ends (linkM f a t)) := by
  obtain ⟨vn, vb, h⟩ := h
  have hg := h.k.lt
  have HF0 := Lib.hid h
  obtain ⟨r, HR⟩ : ∃ r, Hid (r = linkM f a t) := ⟨_, rfl⟩
  obtain ⟨l, HL⟩ : ∃ l, Hid (l = bitsN a) := ⟨_, rfl⟩
  have C := Lib.hid (spots_any a w ha hT)
  have hin := Lib.hid hin
  rw [← HL.out] at C hin
  rw [← HR.out]
  have HBH := Lib.hid hbh
  have hl25 : l.length ≤ 25 := by rw [HL.out]; exact bits_len a
  have H25 : Hid (∀ i ∈ l, i < 25) := by show ∀ i ∈ l, _; intro i hi; rw [HL.out] at hi; exact bits_lt hi
  clear h hbh
  go_enter Tryz.func105, Tryz.ntmps105
  go_wp2_with fail
  refine C.out.mono ?_
  rintro e w1 ⟨vs, rfl, hos, hb1⟩
  have HF1 := Lib.hid (HF0.out.all hb1)
  have HN1 : Hid (∀ k, vs.ownBlock = some k → w.heap.size ≤ k) := fun k hk => (hos.lt k hk).1
  have HS1 := Lib.hid hos
  have HB1 : Hid (Kp S w w1) := Kp.of hb1 hS
  have hsz := hb1.size
  obtain ⟨A, c, rfl⟩ := own_form hos
  obtain ⟨A0, cap0, rfl⟩ := own_form HF0.out.o2
  have HL2 := Lib.hid HF0.out.o2.lt
  clear C hos hb1 HF0
  go_wp2
  go_loopw [7, 11] (fun _ i wr => ∃ k : Nat, k ≤ l.length ∧ i = .int .i64 k ∧ Hid (FrV wr S g vn (.slice A0 f.bh.length cap0) ⟨f.ns, (l.take k).foldl (orAt t) f.bh⟩ ends) ∧ Hid (wr.ownsRow w.heap.size 5 1 (.slice A l.length c) l.length (byC l)) ∧ Hid (Kp S w wr)) (fun _ i _ => l.length - (intOf i).toNat)
  case atStart => exact ⟨0, Nat.zero_le _, rfl, HF1, HS1, HB1⟩
  case round =>
    obtain ⟨k, hk, rfl, HF, HS, HB⟩ := hrel
    by_cases hlt : k < l.length
    · obtain ⟨gs, cs, hvs, hgs, hgs2⟩ := HS.out.form (by omega)
      simp only [Value.slice.injEq, true_and] at hvs
      obtain ⟨rfl, rfl⟩ := hvs
      have s0 : wr.cell? ⟨gs, k, none⟩ = some (.int .u8 (l[k] : Int)) := by rw [HS.out.cellAt k (by omega), byC_get l k hlt]
      have hcs : l.length ≤ c := by
        rcases HS.out.2 with ⟨h, _⟩ | ⟨_, _, _, hv, _, _, hc, _⟩
        · cases h
        · simp at hv; omega
      have hil : l[k] < f.bh.length := hin.out _ (List.getElem_mem hlt)
      have hi25 : l[k] < 25 := H25.out _ (List.getElem_mem hlt)
      obtain ⟨b, HBB⟩ : ∃ b, Hid (b = (l.take k).foldl (orAt t) f.bh) := ⟨_, rfl⟩
      have hbl : b.length = f.bh.length := by rw [HBB.out, orAts_len]
      have hil2 : l[k] < b.length := by omega
      have HF' := HF.out
      rw [← HBB.out] at HF'
      obtain ⟨gb, cb, hvb, hcb, hgb, hgbB, b0, fb0, hset⟩ := HF'.atB hil2
      rw [hbl] at hvb
      simp only [Value.slice.injEq, true_and] at hvb
      obtain ⟨rfl, rfl⟩ := hvb
      have k1 := (Bk.three HF'.k).1.2.1
      have hxl : b[l[k]] < 33554432 := orAts_lt (l.take k) ht HBH.out _ (by rw [← HBB.out]; exact List.getElem_mem hil2)
      have hor := bits_or_u64_nat b[l[k]] t (by omega) (by omega)
      obtain ⟨y, HY⟩ : ∃ y, Hid (y = b[l[k]] ||| t) := ⟨_, Lib.hid rfl⟩
      obtain ⟨i, HI⟩ : ∃ i, Hid (i = l[k]) := ⟨_, Lib.hid rfl⟩
      obtain ⟨x, HX⟩ : ∃ x, Hid (x = b[l[k]]) := ⟨_, Lib.hid rfl⟩
      rw [← HY.out, ← HX.out] at hor
      rw [← HI.out] at s0 hil2 hil hi25
      have b0' : wr.cell? ⟨gb, i, none⟩ = some (.int .u64 (x : Int)) := by rw [HI.out, HX.out]; exact b0
      have fb0' : wr.frozen? ⟨gb, i, none⟩ = false := by rw [HI.out]; exact fb0
      have HF2 : Hid (FrV (wr.setCell ⟨gb, i, none⟩ (.int .u64 (y : Int))) S g vn (.slice (some ⟨gb, 0, none⟩) f.bh.length cap0) ⟨f.ns, (l.take (k + 1)).foldl (orAt t) f.bh⟩ ends) := by
        have h1 := hset y
        have e : b.set l[k] y = (l.take (k + 1)).foldl (orAt t) f.bh := by
          rw [foldl_take_succ _ _ _ _ hlt, ← HBB.out]
          unfold orAt
          rw [HY.out, List.getD_eq_getElem?_getD, List.getElem?_eq_getElem (by omega)]; rfl
        rw [HI.out, ← e]
        exact h1
      have hgb2 : gb < w.heap.size := (HL2.out gb rfl).2
      have HS2 : Hid ((wr.setCell ⟨gb, i, none⟩ (.int .u64 (y : Int))).ownsRow w.heap.size 5 1 (.slice (some ⟨gs, 0, none⟩) l.length c) l.length (byC l)) := own_cell HS.out _ (fun e => by
        have := HN1.out _ e; simp at this; omega)
      have HB2 : Hid (Kp S w (wr.setCell ⟨gb, i, none⟩ (.int .u64 (y : Int)))) := HB.out.setCell hgbB _
      have hiI : (i : Int) < (f.bh.length : Int) := by omega
      have hcbI : f.bh.length ≤ cap0 := by have h : b.length ≤ cap0 := hcb; omega
      clear b0 fb0 hset HF HS HB HF' hxl hbl
      go_wp2
      go_roundw
      case rel => exact ⟨k + 1, by omega, by go_num, HF2, HS2, HB2⟩
      case measure => simp [intOf]; omega
    · have hfin : Hid (r = ⟨f.ns, (l.take k).foldl (orAt t) f.bh⟩) := by show _ = _; rw [HR.out, List.take_of_length_le (by omega), HL.out]; rfl
      go_wp2
      go_end0
      exact ⟨rfl, ⟨_, _, by rw [hfin.out]; exact HF.out⟩, HB.out⟩

/-- the spots that may come behind one of s -/
def nextM (bh : List Nat) (s : Nat) : Nat := (bitsN s).foldl (fun n i => n ||| bh.getD i 0) 0
def RetU (c : Nat) (w : World) (e : Ending) (w' : World) : Prop := e = .returned (.int .u64 (c : Int)) ∧ Below w.heap.size w w'
theorem ors_lt {bh : List Nat} (l : List Nat) {n : Nat} (hn : n < 33554432) (hb : ∀ x ∈ bh, x < 33554432) : l.foldl (fun n i => n ||| bh.getD i 0) n < 33554432 := by
  induction l generalizing n with
  | nil => exact hn
  | cons i l ih =>
    rw [List.foldl_cons]
    refine ih (or_lt hn ?_)
    by_cases hi : i < bh.length
    · rw [List.getD_eq_getElem?_getD, List.getElem?_eq_getElem hi]; exact hb _ (List.getElem_mem hi)
    · rw [List.getD_eq_getElem?_getD, List.getElem?_eq_none (by omega)]; decide

set_option maxRecDepth 100000 in
set_option maxHeartbeats 1600000 in
theorem fnext_any (g : Nat) (f : Fm) (ends : Nat) (a : Nat) (S : Nat → Prop) (w : World) (h : Fr w S g f ends) (ha : a < 33554432) (hin : ∀ i ∈ bitsN a, i < f.bh.length) (hbh : ∀ x ∈ f.bh, x < 33554432) (hT : Tab w) :
    Calls Tryz.prog 64 #[.pointer (some ⟨g, 0, none⟩), .int .u64 a] w (RetU (nextM f.bh a) w) := by
  obtain ⟨vn, vb, h⟩ := h
  have hg := h.k.lt
  have HF0 := Lib.hid h
  obtain ⟨r, HR⟩ : ∃ r, Hid (r = nextM f.bh a) := ⟨_, rfl⟩
  obtain ⟨l, HL⟩ : ∃ l, Hid (l = bitsN a) := ⟨_, rfl⟩
  have C := Lib.hid (spots_any a w ha hT)
  have hin := Lib.hid hin
  rw [← HL.out] at C hin
  rw [← HR.out]
  have HBH := Lib.hid hbh
  have hl25 : l.length ≤ 25 := by rw [HL.out]; exact bits_len a
  have H25 : Hid (∀ i ∈ l, i < 25) := by show ∀ i ∈ l, _; intro i hi; rw [HL.out] at hi; exact bits_lt hi
  clear h hbh
  go_enter Tryz.func64, Tryz.ntmps64
  go_wp2_with fail
  refine C.out.mono ?_
  rintro e w1 ⟨vs, rfl, hos, hb1⟩
  have HF1 := Lib.hid (HF0.out.all hb1)
  have HS1 := Lib.hid hos
  have hsz := hb1.size
  have HB1 := Lib.hid hb1
  obtain ⟨A, c, rfl⟩ := own_form hos
  obtain ⟨A0, cap0, rfl⟩ := own_form HF0.out.o2
  clear C hos HF0 hb1
  have k1 := (Bk.three HF1.out.k).1.2.1
  go_wp2
  go_loop [5, 7, 11] (fun n _ i => ∃ k : Nat, k ≤ l.length ∧ i = .int .i64 k ∧ n = .int .u64 (((l.take k).foldl (fun n i => n ||| f.bh.getD i 0) 0 : Nat) : Int)) (fun _ _ i => l.length - (intOf i).toNat)
  case atStart => exact ⟨0, Nat.zero_le _, rfl, rfl⟩
  case round =>
    obtain ⟨k, hk, rfl, rfl⟩ := hrel
    obtain ⟨n, HN⟩ : ∃ n, Hid (n = (l.take k).foldl (fun n i => n ||| f.bh.getD i 0) 0) := ⟨_, rfl⟩
    rw [← HN.out]
    by_cases hlt : k < l.length
    · obtain ⟨gs, cs, hvs, hgs, hgs2⟩ := HS1.out.form (by omega)
      simp only [Value.slice.injEq, true_and] at hvs
      obtain ⟨rfl, rfl⟩ := hvs
      have s0 : w1.cell? ⟨gs, k, none⟩ = some (.int .u8 (l[k] : Int)) := by rw [HS1.out.cellAt k (by omega), byC_get l k hlt]
      have hcs : l.length ≤ c := by
        rcases HS1.out.2 with ⟨h, _⟩ | ⟨_, _, _, hv, _, _, hc, _⟩
        · cases h
        · simp at hv; omega
      have hil : l[k] < f.bh.length := hin.out _ (List.getElem_mem hlt)
      have hi25 : l[k] < 25 := H25.out _ (List.getElem_mem hlt)
      obtain ⟨gb, cb, hvb, hcb, hgb, hgbB, b0, fb0, hset⟩ := HF1.out.atB hil
      simp only [Value.slice.injEq, true_and] at hvb
      obtain ⟨rfl, rfl⟩ := hvb
      have hxl : f.bh[l[k]] < 33554432 := HBH.out _ (List.getElem_mem hil)
      have hnl : n < 33554432 := by rw [HN.out]; exact ors_lt _ (by decide) HBH.out
      have hor := bits_or_u64_nat n f.bh[l[k]] (by omega) (by omega)
      obtain ⟨y, HY⟩ : ∃ y, Hid (y = n ||| f.bh[l[k]]) := ⟨_, Lib.hid rfl⟩
      obtain ⟨i, HI⟩ : ∃ i, Hid (i = l[k]) := ⟨_, Lib.hid rfl⟩
      obtain ⟨x, HX⟩ : ∃ x, Hid (x = f.bh[l[k]]) := ⟨_, Lib.hid rfl⟩
      rw [← HY.out, ← HX.out] at hor
      have b0' : w1.cell? ⟨gb, i, none⟩ = some (.int .u64 (x : Int)) := by rw [HI.out, HX.out]; exact b0
      rw [← HI.out] at s0 hil hi25
      have hnext : Hid (y = (l.take (k + 1)).foldl (fun n i => n ||| f.bh.getD i 0) 0) := by
        show _ = _
        rw [foldl_take_succ _ _ _ _ hlt, ← HN.out, HY.out, List.getD_eq_getElem?_getD, List.getElem?_eq_getElem (by rw [← HI.out]; exact hil)]; rfl
      have hiI : (i : Int) < (f.bh.length : Int) := by omega
      clear b0 fb0 hset hxl
      go_wp2
      go_round
      case rel => exact ⟨k + 1, by omega, by go_num, by rw [← hnext.out]⟩
      case measure => simp [intOf]; omega
    · have hfin : Hid (r = n) := by show _ = _; rw [HR.out, HN.out, List.take_of_length_le (by omega), HL.out]; rfl
      go_wp2
      go_ret
      exact ⟨ret_int (by rw [hfin.out]), HB1.out⟩

/-- b behind a -/
def joinM (f : Fm) (a b : Pa) : Fm × Pa := (linkM f a.l b.f, ⟨if a.e then a.f ||| b.f else a.f, if b.e then b.l ||| a.l else b.l, a.e && b.e⟩)

set_option maxRecDepth 100000 in
set_option maxHeartbeats 3200000 in
theorem fjoin_any (g : Nat) (f : Fm) (ends : Nat) (a b : Pa) (S : Nat → Prop) (w : World) (h : Fr w S g f ends) (hS : In S w) (ha : a.Ok) (hb : b.Ok) (hin : ∀ i ∈ bitsN a.l, i < f.bh.length) (hbh : ∀ x ∈ f.bh, x < 33554432) (hT : Tab w) :
    Calls Tryz.prog 61 #[.pointer (some ⟨g, 0, none⟩), paV a, paV b] w (PaR w S g ends (joinM f a b)) := by
  obtain ⟨af, al, ae⟩ := a
  obtain ⟨bf, bl, be⟩ := b
  obtain ⟨ha1, ha2⟩ := ha
  obtain ⟨hb1, hb2⟩ := hb
  obtain ⟨w0, rfl⟩ : ∃ w0 : World, w0 = w := ⟨_, rfl⟩
  simp only at ha1 ha2 hb1 hb2 hin
  have HBB := Lib.hid (box3 w0 (.cells #[.int .u64 (af : Int), .int .u64 (al : Int), .bool ae] 100) (.cells #[.int .u64 (bf : Int), .int .u64 (bl : Int), .bool be] 100) (.cells #[.int .u64 0, .int .u64 0, .bool false] 100))
  obtain ⟨vn, vb, hv⟩ := h
  have hv2 := (hv.also w0.heap.size (w0.heap.size + 3) (Nat.le_refl _)).all HBB.out
  have HS := Lib.hid hS
  have HIN := Lib.hid (hS.also (w' := ((w0.alloc (.cells #[.int .u64 (af : Int), .int .u64 (al : Int), .bool ae] 100)).alloc (.cells #[.int .u64 (bf : Int), .int .u64 (bl : Int), .bool be] 100)).alloc (.cells #[.int .u64 0, .int .u64 0, .bool false] 100)) w0.heap.size (w0.heap.size + 3) (by simp; omega) (by simp))
  have C := Lib.hid (link_any g f ends al bf (fun k => S k ∨ (w0.heap.size ≤ k ∧ k < w0.heap.size + 3)) _ ⟨vn, vb, hv2⟩ HIN.out ha2 hb1 hin hbh (hT.all HBB.out))
  have HSN : Hid (∀ k, w0.heap.size ≤ k → ¬ S k) := fun k hk h => by have := hS k h; omega
  have hor1 := bits_or_u64_nat af bf (by omega) (by omega)
  have hor2 := bits_or_u64_nat bl al (by omega) (by omega)
  obtain ⟨F, HFF⟩ : ∃ F, Hid (F = af ||| bf) := ⟨_, rfl⟩
  obtain ⟨L, HLL⟩ : ∃ L, Hid (L = bl ||| al) := ⟨_, rfl⟩
  rw [← HFF.out] at hor1
  rw [← HLL.out] at hor2
  have hm : joinM f ⟨af, al, ae⟩ ⟨bf, bl, be⟩ = (linkM f al bf, ⟨if ae then F else af, if be then L else bl, ae && be⟩) := by unfold joinM; rw [HFF.out, HLL.out]
  rw [hm]
  clear hv hv2 hm hbh hin
  show Calls Tryz.prog 61 #[.pointer (some ⟨g, 0, none⟩), .agg #[.int .u64 (af : Int), .int .u64 (al : Int), .bool ae], .agg #[.int .u64 (bf : Int), .int .u64 (bl : Int), .bool be]] w0 _
  cases ae
  all_goals cases be
  all_goals
    go_enter Tryz.func61, Tryz.ntmps61
    go_wp2_with fail
    refine C.out.mono ?_
    rintro e w1 ⟨rfl, hfr, hkp⟩
    clear C
    have hs1 : w0.heap.size + 3 ≤ w1.heap.size := by have := hkp.size; simpa using this
    have p1 := ((Bk.new w0 100 _).alloc _ |>.alloc _).kp hkp (.inr (by omega))
    have p2 := ((Bk.new _ 100 _).alloc _).kp hkp (.inr (by simp))
    have p3 := (Bk.new _ 100 _).kp hkp (.inr (by simp; omega))
    simp only [World.size_alloc] at p1 p2 p3
    obtain ⟨⟨x0, x1, x2⟩, -⟩ := Bk.three p1
    obtain ⟨⟨y0, y1, y2⟩, -⟩ := Bk.three p2
    obtain ⟨⟨z0, z1, z2⟩, u0, u1, u2⟩ := Bk.three p3
    have P3 := Lib.hid p3
    have HFR := Lib.hid hfr
    have HKP : Hid (Kp S w0 w1) := (Kp.of HBB.out HS.out).trans (hkp.mono fun k hk => .inl hk)
    have hlt1 : w0.heap.size + 1 + 1 < w1.heap.size := by omega
    have hlt2 : w0.heap.size + 1 < w1.heap.size := by omega
    have hlt3 : w0.heap.size < w1.heap.size := by omega
    clear hkp hfr p1 p2 p3
    go_wp2_with fail
    refine pa_ret 6 (w0.heap.size + 1 + 1) Tryz.results61 rfl rfl ?_ ?_ ?_
    · exact (Bk.set3 P3.out _ _ _).alloc _
    · obtain ⟨vn', vb', h⟩ := HFR.out
      refine ⟨vn', vb', ((h.far3 _ _ _ (fun e => h.b (.inr ?_)) (fun e => h.s1 _ e (.inr ?_)) (fun e => h.s2 _ e (.inr ?_))).alloc _).smono fun k hk => .inl hk⟩ <;> omega
    · exact (HKP.out.set3 (HSN.out _ (by omega)) _ _ _).alloc (HS.out.le (by have := HKP.out.size; simp; omega)) _
end Go.Proofs.YtkbileabkfccgaaGreatDoor

/- match: an expression written out: the mathematics. Of no program. -/
namespace Go.Proofs.YtkbileabkfccgaaGreatDoor
open Go.RowKit

/-- g so many times, one behind the other, from part all on -/
def repM (g : Fm → Fm × Pa) (opt : Bool) : Nat → Pa → Fm → Fm × Pa
  | 0, all, f => (f, all)
  | n + 1, all, f => repM g opt n (joinM (g f).1 all ⟨(g f).2.f, (g f).2.l, opt || (g f).2.e⟩).2 (joinM (g f).1 all ⟨(g f).2.f, (g f).2.l, opt || (g f).2.e⟩).1
mutual
def addM : Ex → Fm → Fm × Pa
  | .mk k n a b l, f => if k = 2 then rowM l ⟨0, 0, true⟩ f else if k = 3 then choM l ⟨0, 0, false⟩ f else if k = 4 then manM l a b f else spotM f n
def rowM : List Ex → Pa → Fm → Fm × Pa
  | [], all, f => (f, all)
  | e :: l, all, f => rowM l (joinM (addM e f).1 all (addM e f).2).2 (joinM (addM e f).1 all (addM e f).2).1
def choM : List Ex → Pa → Fm → Fm × Pa
  | [], all, f => (f, all)
  | e :: l, all, f => choM l ⟨all.f ||| (addM e f).2.f, all.l ||| (addM e f).2.l, all.e || (addM e f).2.e⟩ (addM e f).1
def manM : List Ex → Int → Int → Fm → Fm × Pa
  | [], _, _, f => (f, ⟨0, 0, true⟩)
  | e :: _, a, b, f =>
    let r := repM (addM e) false a.toNat ⟨0, 0, true⟩ f
    if b = -1 then
      let p := addM e r.1
      joinM (linkM p.1 p.2.l p.2.f) r.2 ⟨p.2.f, p.2.l, true⟩
    else repM (addM e) true (b - a).toNat r.2 r.1
end
/-! how many spots -/
mutual
def posE : Ex → Nat
  | .mk k _ a b l => if k = 2 ∨ k = 3 then posL l else if k = 4 then (if b = -1 then a.toNat + 1 else a.toNat + (b - a).toNat) * (match l with | [] => 0 | e :: _ => posE e) else 1
def posL : List Ex → Nat
  | [] => 0
  | e :: l => posE e + posL l
end

/-- a frame that may be: so many spots, each name's; what may come behind them are spots of it -/
def FOk (f : Fm) : Prop := f.bh.length = f.ns.length ∧ ∀ x ∈ f.bh, x < 2 ^ f.ns.length
def POk (n : Nat) (p : Pa) : Prop := p.f < 2 ^ n ∧ p.l < 2 ^ n
theorem pow_mono {x n m : Nat} (h : x < 2 ^ n) (hn : n ≤ m) : x < 2 ^ m := Nat.lt_of_lt_of_le h (Nat.pow_le_pow_right (by decide) hn)
theorem pow_25 {x n : Nat} (h : x < 2 ^ n) (hn : n ≤ 25) : x < 33554432 := pow_mono h hn
theorem bits_in {x n i : Nat} (h : x < 2 ^ n) (hi : i ∈ bitsN x) : i < n := by
  apply Nat.lt_of_not_le
  intro hle
  have := (bits_mem.1 hi).2
  rw [Nat.testBit_lt_two_pow (pow_mono h hle)] at this; cases this
theorem POk.mono {n m : Nat} {p : Pa} (h : POk n p) (hn : n ≤ m) : POk m p := ⟨pow_mono h.1 hn, pow_mono h.2 hn⟩
theorem POk.ok {n : Nat} {p : Pa} (h : POk n p) (hn : n ≤ 25) : p.Ok := ⟨pow_25 h.1 hn, pow_25 h.2 hn⟩
theorem POk.nil (n : Nat) (e : Bool) : POk n ⟨0, 0, e⟩ := ⟨Nat.pow_pos (by decide), Nat.pow_pos (by decide)⟩
theorem orAts_pow {n to : Nat} (l : List Nat) {b : List Nat} (ht : to < 2 ^ n) (hb : ∀ x ∈ b, x < 2 ^ n) : ∀ x ∈ l.foldl (orAt to) b, x < 2 ^ n := by
  induction l generalizing b with
  | nil => exact hb
  | cons i l ih =>
    rw [List.foldl_cons]
    refine ih fun x hx => ?_
    unfold orAt at hx
    rcases List.mem_or_eq_of_mem_set hx with h | rfl
    · exact hb x h
    · refine Nat.or_lt_two_pow ?_ ht
      by_cases hi : i < b.length
      · rw [List.getD_eq_getElem?_getD, List.getElem?_eq_getElem hi]; exact hb _ (List.getElem_mem hi)
      · rw [List.getD_eq_getElem?_getD, List.getElem?_eq_none (by omega)]; exact Nat.pow_pos (by decide)
theorem link_ok {f : Fm} {a t : Nat} (h : FOk f) (ht : t < 2 ^ f.ns.length) : FOk (linkM f a t) :=
  ⟨by unfold linkM; rw [orAts_len]; exact h.1, orAts_pow _ ht h.2⟩
theorem join_ok {f : Fm} {a b : Pa} (h : FOk f) (ha : POk f.ns.length a) (hb : POk f.ns.length b) : FOk (joinM f a b).1 ∧ (joinM f a b).1.ns = f.ns ∧ POk f.ns.length (joinM f a b).2 := by
  refine ⟨link_ok h hb.1, rfl, ?_, ?_⟩
  · show (if a.e then a.f ||| b.f else a.f) < _
    split
    · exact Nat.or_lt_two_pow ha.1 hb.1
    · exact ha.1
  · show (if b.e then b.l ||| a.l else b.l) < _
    split
    · exact Nat.or_lt_two_pow hb.2 ha.2
    · exact hb.2
theorem spot_ok {f : Fm} (n : ByteArray) (h : FOk f) : FOk (spotM f n).1 ∧ (spotM f n).1.ns.length = f.ns.length + 1 ∧ POk (f.ns.length + 1) (spotM f n).2 := by
  unfold spotM
  refine ⟨⟨by simp [h.1], fun x hx => ?_⟩, by simp, ?_, ?_⟩
  · simp only [List.length_append, List.length_cons, List.length_nil] at hx ⊢
    rcases List.mem_append.1 hx with h1 | h1
    · exact pow_mono (h.2 x h1) (by omega)
    · simp at h1; subst h1; exact Nat.pow_pos (by decide)
  · exact Nat.pow_lt_pow_right (by decide) (by omega)
  · exact Nat.pow_lt_pow_right (by decide) (by omega)
/-- what an expression's writing keeps -/
def GoodW (n : Nat) (f : Fm) (r : Fm × Pa) : Prop := FOk r.1 ∧ r.1.ns.length = f.ns.length + n ∧ POk (f.ns.length + n) r.2
theorem rep_ok {g : Fm → Fm × Pa} {d : Nat} (hg : ∀ f, FOk f → GoodW d f (g f)) (opt : Bool) : ∀ (n : Nat) (all : Pa) (f : Fm), FOk f → POk f.ns.length all → GoodW (n * d) f (repM g opt n all f)
  | 0, all, f, hf, ha => by rw [repM, Nat.zero_mul]; exact ⟨hf, rfl, ha⟩
  | n + 1, all, f, hf, ha => by
    obtain ⟨h1, h2, h3⟩ := hg f hf
    have hj := join_ok (f := (g f).1) (a := all) (b := ⟨(g f).2.f, (g f).2.l, opt || (g f).2.e⟩) h1 (ha.mono (by omega)) (by rw [h2]; exact ⟨h3.1, h3.2⟩)
    have hl : (joinM (g f).1 all ⟨(g f).2.f, (g f).2.l, opt || (g f).2.e⟩).1.ns.length = f.ns.length + d := by rw [hj.2.1, h2]
    have := rep_ok hg opt n _ _ hj.1 (by rw [hl, ← h2]; exact hj.2.2)
    rw [repM]
    obtain ⟨r1, r2, r3⟩ := this
    rw [hl] at r2 r3
    refine ⟨r1, ?_, ?_⟩
    · rw [r2, Nat.succ_mul]; omega
    · have e : f.ns.length + d + n * d = f.ns.length + (n + 1) * d := by rw [Nat.succ_mul]; omega
      rw [← e]; exact r3
theorem add_ok (e : Ex) : ∀ f, FOk f → GoodW (posE e) f (addM e f) := by
  induction e using Ex.ind with
  | h k n a b l ih =>
    have hrow : ∀ (l : List Ex), (∀ e ∈ l, ∀ f, FOk f → GoodW (posE e) f (addM e f)) → ∀ (all : Pa) (f : Fm), FOk f → POk f.ns.length all → GoodW (posL l) f (rowM l all f) := by
      intro l
      induction l with
      | nil => intro _ all f hf ha; rw [rowM, posL]; exact ⟨hf, rfl, ha⟩
      | cons e l ihl =>
        intro hh all f hf ha
        obtain ⟨h1, h2, h3⟩ := hh e (by simp) f hf
        have hj := join_ok (f := (addM e f).1) (a := all) (b := (addM e f).2) h1 (ha.mono (by omega)) (by rw [h2]; exact h3)
        have hl : (joinM (addM e f).1 all (addM e f).2).1.ns.length = f.ns.length + posE e := by rw [hj.2.1, h2]
        obtain ⟨r1, r2, r3⟩ := ihl (fun x hx => hh x (by simp [hx])) _ _ hj.1 (by rw [hl, ← h2]; exact hj.2.2)
        rw [hl] at r2 r3
        rw [rowM, posL]
        exact ⟨r1, by rw [r2]; omega, by rw [← Nat.add_assoc]; exact r3⟩
    have hcho : ∀ (l : List Ex), (∀ e ∈ l, ∀ f, FOk f → GoodW (posE e) f (addM e f)) → ∀ (all : Pa) (f : Fm), FOk f → POk f.ns.length all → GoodW (posL l) f (choM l all f) := by
      intro l
      induction l with
      | nil => intro _ all f hf ha; rw [choM, posL]; exact ⟨hf, rfl, ha⟩
      | cons e l ihl =>
        intro hh all f hf ha
        obtain ⟨h1, h2, h3⟩ := hh e (by simp) f hf
        have hp : POk (addM e f).1.ns.length ⟨all.f ||| (addM e f).2.f, all.l ||| (addM e f).2.l, all.e || (addM e f).2.e⟩ := by
          rw [h2]; exact ⟨Nat.or_lt_two_pow (pow_mono ha.1 (by omega)) h3.1, Nat.or_lt_two_pow (pow_mono ha.2 (by omega)) h3.2⟩
        obtain ⟨r1, r2, r3⟩ := ihl (fun x hx => hh x (by simp [hx])) _ _ h1 hp
        rw [h2] at r2 r3
        rw [choM, posL]
        exact ⟨r1, by rw [r2]; omega, by rw [← Nat.add_assoc]; exact r3⟩
    intro f hf
    rw [addM]; unfold posE
    by_cases h2 : k = 2
    · rw [if_pos h2, if_pos (.inl h2)]; exact hrow l ih _ f hf (POk.nil _ _)
    by_cases h3 : k = 3
    · rw [if_neg h2, if_pos h3, if_pos (.inr h3)]; exact hcho l ih _ f hf (POk.nil _ _)
    by_cases h4 : k = 4
    · rw [if_neg h2, if_neg h3, if_pos h4, if_neg (by omega), if_pos h4]
      cases l with
      | nil => rw [manM]; simp only [Nat.mul_zero]; exact ⟨hf, rfl, POk.nil _ _⟩
      | cons e l =>
        have hk := ih e (by simp)
        rw [manM]
        obtain ⟨r1, r2, r3⟩ := rep_ok hk false a.toNat ⟨0, 0, true⟩ f hf (POk.nil _ _)
        by_cases hb : b = -1
        · rw [if_pos hb]
          simp only [if_pos hb]
          obtain ⟨s1, s2, s3⟩ := hk _ r1
          have hlk : FOk (linkM (addM e (repM (addM e) false a.toNat ⟨0, 0, true⟩ f).1).1 (addM e (repM (addM e) false a.toNat ⟨0, 0, true⟩ f).1).2.l (addM e (repM (addM e) false a.toNat ⟨0, 0, true⟩ f).1).2.f) := link_ok s1 (by rw [s2]; exact s3.1)
          have hj := join_ok (f := linkM (addM e (repM (addM e) false a.toNat ⟨0, 0, true⟩ f).1).1 (addM e (repM (addM e) false a.toNat ⟨0, 0, true⟩ f).1).2.l (addM e (repM (addM e) false a.toNat ⟨0, 0, true⟩ f).1).2.f)
            (a := (repM (addM e) false a.toNat ⟨0, 0, true⟩ f).2) (b := ⟨(addM e (repM (addM e) false a.toNat ⟨0, 0, true⟩ f).1).2.f, (addM e (repM (addM e) false a.toNat ⟨0, 0, true⟩ f).1).2.l, true⟩) hlk
            (by show POk (addM e (repM (addM e) false a.toNat ⟨0, 0, true⟩ f).1).1.ns.length _; rw [s2, r2]; exact r3.mono (by omega))
            (by show POk (addM e (repM (addM e) false a.toNat ⟨0, 0, true⟩ f).1).1.ns.length _; rw [s2]; exact ⟨s3.1, s3.2⟩)
          have hl : f.ns.length + a.toNat * posE e + posE e = f.ns.length + (a.toNat + 1) * posE e := by rw [Nat.succ_mul]; omega
          refine ⟨hj.1, ?_, ?_⟩
          · rw [hj.2.1]; show (addM e (repM (addM e) false a.toNat ⟨0, 0, true⟩ f).1).1.ns.length = _; rw [s2, r2]; exact hl
          · have := hj.2.2
            change POk (addM e (repM (addM e) false a.toNat ⟨0, 0, true⟩ f).1).1.ns.length _ at this
            rw [s2, r2, hl] at this
            exact this
        · rw [if_neg hb]
          simp only [if_neg hb]
          obtain ⟨s1, s2, s3⟩ := rep_ok hk true (b - a).toNat _ _ r1 (by rw [r2]; exact r3)
          have hl : f.ns.length + a.toNat * posE e + (b - a).toNat * posE e = f.ns.length + (a.toNat + (b - a).toNat) * posE e := by rw [Nat.add_mul]; omega
          refine ⟨s1, by rw [s2, r2]; exact hl, ?_⟩
          rw [r2, hl] at s3
          exact s3
    · rw [if_neg h2, if_neg h3, if_neg h4, if_neg (by omega), if_neg h4]; exact spot_ok n hf
end Go.Proofs.YtkbileabkfccgaaGreatDoor

/- match: row, choice, many: of a frame. -/
namespace Go.Proofs.YtkbileabkfccgaaGreatDoor
open Go.RowKit

/-- add does what it should, at expression e -/
def AddOk (e : Ex) : Prop := ∀ (g ends : Nat) (f : Fm) (s : Value) (B : Nat) (S : Nat → Prop) (w : World), Kb w B s e.l → (∀ k, k < B → S k) → 0 < B → Fr w S g f ends → In S w → FOk f → f.ns.length + posE e ≤ 25 → Tab w →
  Calls Tryz.prog 62 #[.pointer (some ⟨g, 0, none⟩), exV e s] w (PaR w S g ends (addM e f))
theorem posL_drop {l : List Ex} {k : Nat} (h : k < l.length) : posL (l.drop k) = posE l[k] + posL (l.drop (k + 1)) := by rw [List.drop_eq_getElem_cons h, posL]
theorem rowM_drop {l : List Ex} {k : Nat} (h : k < l.length) (p : Pa) (f : Fm) : rowM (l.drop k) p f = rowM (l.drop (k + 1)) (joinM (addM l[k] f).1 p (addM l[k] f).2).2 (joinM (addM l[k] f).1 p (addM l[k] f).2).1 := by
  rw [List.drop_eq_getElem_cons h, rowM]
def paC (p : Pa) : Array Value := #[.int .u64 (p.f : Int), .int .u64 (p.l : Int), .bool p.e]

set_option maxRecDepth 100000 in
set_option maxHeartbeats 3200000 in
theorem row_any' (l : List Ex) (hl : ∀ e ∈ l, AddOk e) (g ends : Nat) (f : Fm) (s : Value) (B : Nat) (S : Nat → Prop) (w : World) (hs : Kb w B s l) (hBS : ∀ k, k < B → S k) (hB0 : 0 < B) (h : Fr w S g f ends) (hS : In S w) (hf : FOk f) (hsz : f.ns.length + posL l ≤ 25) (hT : Tab w) :
    Calls Tryz.prog 106 #[.pointer (some ⟨g, 0, none⟩), s] w (PaR w S g ends (rowM l ⟨0, 0, true⟩ f)) := by
  obtain ⟨A, cap, rfl⟩ := hs.form
  have hmx := hs.max
  unfold maxLen at hmx
  obtain ⟨w0, rfl⟩ : ∃ w0 : World, w0 = w := ⟨_, rfl⟩
  have hg := h.lt
  have hB : B ≤ w0.heap.size := by
    apply Nat.le_of_not_lt; intro hlt; have := hS _ (hBS _ hlt); omega
  have HBB := Lib.hid (box2 w0 (.cells #[.int .u64 0, .int .u64 0, .bool false] 100) (.cells #[.int .u64 0, .int .u64 0, .bool true] 100))
  obtain ⟨r, HR⟩ : ∃ r, Hid (r = rowM l ⟨0, 0, true⟩ f) := ⟨_, rfl⟩
  rw [← HR.out]
  have HS := Lib.hid hS
  have HBS := Lib.hid hBS
  have HL := Lib.hid hl
  have HF0 : Hid (Fr ((w0.alloc (.cells #[.int .u64 0, .int .u64 0, .bool false] 100)).alloc (.cells #[.int .u64 0, .int .u64 0, .bool true] 100)) (fun k => S k ∨ (w0.heap.size ≤ k ∧ k < w0.heap.size + 2)) g f ends) := by
    obtain ⟨vn, vb, hv⟩ := h
    exact ⟨vn, vb, (hv.also w0.heap.size (w0.heap.size + 2) (Nat.le_refl _)).all HBB.out⟩
  have HK0 : Hid (Kp S w0 ((w0.alloc (.cells #[.int .u64 0, .int .u64 0, .bool false] 100)).alloc (.cells #[.int .u64 0, .int .u64 0, .bool true] 100))) := Kp.of HBB.out hS
  have HA0 : Hid (Bk ((w0.alloc (.cells #[.int .u64 0, .int .u64 0, .bool false] 100)).alloc (.cells #[.int .u64 0, .int .u64 0, .bool true] 100)) (w0.heap.size + 1) 100 (paC ⟨0, 0, true⟩)) := by
    have := Bk.new (w0.alloc (.cells #[.int .u64 0, .int .u64 0, .bool false] 100)) 100 #[.int .u64 0, .int .u64 0, .bool true]
    rw [World.size_alloc] at this; exact this
  have HR0 : Hid (Bk ((w0.alloc (.cells #[.int .u64 0, .int .u64 0, .bool false] 100)).alloc (.cells #[.int .u64 0, .int .u64 0, .bool true] 100)) w0.heap.size 100 #[.int .u64 0, .int .u64 0, .bool false]) := (Bk.new _ _ _).alloc _
  have HZ0 : Hid (w0.heap.size + 2 ≤ ((w0.alloc (.cells #[.int .u64 0, .int .u64 0, .bool false] 100)).alloc (.cells #[.int .u64 0, .int .u64 0, .bool true] 100)).heap.size) := by show _ ≤ _; simp
  clear h hS hBS hl
  go_enter Tryz.func106, Tryz.ntmps106
  go_wp2_with fail
  go_loopw [7, 11] (fun _ i wr => ∃ (k : Nat) (p : Pa) (f' : Fm), k ≤ l.length ∧ i = .int .i64 k ∧ Hid (r = rowM (l.drop k) p f') ∧ Hid (Fr wr (fun k => S k ∨ (w0.heap.size ≤ k ∧ k < w0.heap.size + 2)) g f' ends) ∧ Hid (Kp S w0 wr) ∧
    Hid (Bk wr (w0.heap.size + 1) 100 (paC p)) ∧ Hid (Bk wr w0.heap.size 100 #[.int .u64 0, .int .u64 0, .bool false]) ∧ Hid (FOk f' ∧ f'.ns.length + posL (l.drop k) ≤ 25 ∧ POk f'.ns.length p) ∧ Hid (w0.heap.size + 2 ≤ wr.heap.size)) (fun _ i _ => l.length - (intOf i).toNat)
  case atStart => exact ⟨0, ⟨0, 0, true⟩, f, Nat.zero_le _, rfl, HR.out, HF0.out, HK0.out, HA0.out, HR0.out, ⟨hf, hsz, POk.nil _ _⟩, HZ0.out⟩
  case round =>
    obtain ⟨k, p, f', hk, rfl, hr, HF, HK, HA, HRR, HO, HZ⟩ := hrel
    have hz := HZ.out
    by_cases hlt : k < l.length
    · obtain ⟨b, off, s, rfl, hbB, hcap, hks, hc0, hc1, hc2, hc3, hc4⟩ := Kd.at (hs.below (HK.out.toBelow HBS.out)) hlt
      obtain ⟨x, HX⟩ : ∃ x, Hid (x = l[k]) := ⟨l[k], Lib.hid rfl⟩
      rw [← HX.out] at hks hc0 hc1 hc2 hc3
      obtain ⟨A3, cap3, rfl⟩ := hks.form
      have HX2 := Lib.hid (posL_drop hlt)
      have HX3 := Lib.hid (rowM_drop hlt p f')
      rw [← HX.out] at HX2 HX3
      have hx := Lib.hid (HL.out x (by rw [HX.out]; exact List.getElem_mem hlt))
      obtain ⟨o1, o2, o3⟩ := HO.out
      have hpx : f'.ns.length + posE x ≤ 25 := by rw [HX2.out] at o2; omega
      obtain ⟨S2, HS2⟩ : ∃ S2 : Nat → Prop, Hid (∀ k, S2 k ↔ ((S k ∨ (w0.heap.size ≤ k ∧ k < w0.heap.size + 2)) ∨ (wr.heap.size ≤ k ∧ k < wr.heap.size + 1))) := ⟨_, fun k => Iff.rfl⟩
      have HIN2 : Hid (In S2 (wr.alloc (.cells #[.int .i64 x.k, .string x.n, .int .i64 x.a, .int .i64 x.b, .slice A3 x.l.length cap3] 24))) := by
        intro k hk2
        rcases (HS2.out k).1 hk2 with (h | h) | h
        · have := HS.out k h; have := HK.out.size; simp; omega
        · simp; omega
        · simp; omega
      have HFR : Hid (Fr (wr.alloc (.cells #[.int .i64 x.k, .string x.n, .int .i64 x.a, .int .i64 x.b, .slice A3 x.l.length cap3] 24)).drew S2 g f' ends) := by
        obtain ⟨vn, vb, hv⟩ := HF.out
        exact ⟨vn, vb, (((hv.also wr.heap.size (wr.heap.size + 1) (Nat.le_refl _)).alloc _).drewN 1).smono fun k hk2 => (HS2.out k).1 hk2⟩
      have HKW : Hid (Kp S w0 (wr.alloc (.cells #[.int .i64 x.k, .string x.n, .int .i64 x.a, .int .i64 x.b, .slice A3 x.l.length cap3] 24)).drew) := (HK.out.alloc (HS.out.kp HK.out) _).drewN 1
      have HTW : Hid (Tab (wr.alloc (.cells #[.int .i64 x.k, .string x.n, .int .i64 x.a, .int .i64 x.b, .slice A3 x.l.length cap3] 24)).drew) := hT.below (HKW.out.toBelow HBS.out) hB0
      have CA := Lib.hid (hx.out g ends f' (.slice A3 x.l.length cap3) B S2 _ ((Kb.alloc hks (by have := HK.out.size; omega) (.cells #[.int .i64 x.k, .string x.n, .int .i64 x.a, .int .i64 x.b, .slice A3 x.l.length cap3] 24)).drew) (fun k hk2 => (HS2.out k).2 (.inl (.inl (HBS.out k hk2)))) hB0 HFR.out HIN2.out o1 hpx HTW.out)
      have hgood := add_ok x f' o1
      have CJ0 := Lib.hid fun (w1 : World) (hfr : Fr w1 S2 g (addM x f').1 ends) (hkp : Kp S2 (wr.alloc (.cells #[.int .i64 x.k, .string x.n, .int .i64 x.a, .int .i64 x.b, .slice A3 x.l.length cap3] 24)).drew w1) =>
        fjoin_any g (addM x f').1 ends p (addM x f').2 S2 w1 hfr (HIN2.out.le hkp.size) (o3.ok (by omega)) (hgood.2.2.ok (by omega)) (fun i hi => by rw [hgood.1.1, hgood.2.1]; have := bits_in o3.2 hi; omega) (fun y hy => by have := hgood.1.2 y hy; rw [hgood.2.1] at this; exact pow_25 this hpx)
          (HTW.out.below (hkp.toBelow fun k hk2 => (HS2.out k).2 (.inl (.inl (HBS.out k hk2)))) hB0)
      have HG := Lib.hid (join_ok (a := p) (b := (addM x f').2) hgood.1 (by rw [hgood.2.1]; exact o3.mono (by omega)) (by rw [hgood.2.1]; exact hgood.2.2))
      have HGL : Hid ((addM x f').1.ns.length = f'.ns.length + posE x) := hgood.2.1
      obtain ⟨⟨pf, pl, pe⟩, HP⟩ : ∃ q : Pa, Hid (q = p) := ⟨p, rfl⟩
      obtain rfl := HP.out
      obtain ⟨⟨jf, jl, je⟩, HJ⟩ : ∃ q : Pa, Hid (q = (joinM (addM x f').1 ⟨pf, pl, pe⟩ (addM x f').2).2) := ⟨_, rfl⟩
      have CJ : Hid (∀ (w1 : World) (hfr : Fr w1 S2 g (addM x f').1 ends) (hkp : Kp S2 (wr.alloc (.cells #[.int .i64 x.k, .string x.n, .int .i64 x.a, .int .i64 x.b, .slice A3 x.l.length cap3] 24)).drew w1),
          Calls Tryz.prog 61 #[.pointer (some ⟨g, 0, none⟩), .agg #[.int .u64 (pf : Int), .int .u64 (pl : Int), .bool pe], paV (addM x f').2] w1 fun y w2 => y = .returned (.agg #[.int .u64 (jf : Int), .int .u64 (jl : Int), .bool je]) ∧ Fr w2 S2 g (joinM (addM x f').1 ⟨pf, pl, pe⟩ (addM x f').2).1 ends ∧ Kp S2 w1 w2) := fun w1 hfr hkp =>
        (CJ0.out w1 hfr hkp).mono fun y w2 ⟨h1, h2, h3⟩ => ⟨by rw [h1, ← HJ.out]; rfl, h2, h3⟩
      clear CJ0
      have HC : Hid (∀ w', Kp S2 (wr.alloc (.cells #[.int .i64 x.k, .string x.n, .int .i64 x.a, .int .i64 x.b, .slice A3 x.l.length cap3] 24)).drew w' →
          (w'.cell? ⟨w0.heap.size + 1, 0, none⟩ = some (.int .u64 (pf : Int)) ∧ w'.cell? ⟨w0.heap.size + 1, 1, none⟩ = some (.int .u64 (pl : Int)) ∧ w'.cell? ⟨w0.heap.size + 1, 2, none⟩ = some (.bool pe)) ∧ (w'.frozen? ⟨w0.heap.size + 1, 0, none⟩ = false ∧ w'.frozen? ⟨w0.heap.size + 1, 1, none⟩ = false ∧ w'.frozen? ⟨w0.heap.size + 1, 2, none⟩ = false) ∧
          (w'.cell? ⟨wr.heap.size, 0, none⟩ = some (.int .i64 x.k) ∧ w'.cell? ⟨wr.heap.size, 1, none⟩ = some (.string x.n) ∧ w'.cell? ⟨wr.heap.size, 2, none⟩ = some (.int .i64 x.a) ∧ w'.cell? ⟨wr.heap.size, 3, none⟩ = some (.int .i64 x.b) ∧ w'.cell? ⟨wr.heap.size, 4, none⟩ = some (.slice A3 x.l.length cap3))) := by
        intro w' hkp
        have b1 := ((HA.out.alloc (.cells #[.int .i64 x.k, .string x.n, .int .i64 x.a, .int .i64 x.b, .slice A3 x.l.length cap3] 24)).drew).kp hkp ((HS2.out _).2 (.inl (.inr (by omega))))
        have b2 := ((Bk.new wr 24 #[.int .i64 x.k, .string x.n, .int .i64 x.a, .int .i64 x.b, .slice A3 x.l.length cap3]).drew).kp hkp ((HS2.out _).2 (.inr (by omega)))
        exact ⟨(Bk.three b1).1, (Bk.three b1).2, b2.cell 0, b2.cell 1, b2.cell 2, b2.cell 3, b2.cell 4⟩
      obtain ⟨⟨a0, a1, a2⟩, -⟩ := Bk.three (show Bk wr (w0.heap.size + 1) 100 #[.int .u64 (pf : Int), .int .u64 (pl : Int), .bool pe] from HA.out)
      have hlt1 : w0.heap.size + 1 < wr.heap.size := by omega
      go_wp2_with fail
      go_region_with (first
        | (go_at_call 62; refine (CA.out).mono ?_; rintro x9 w1 ⟨rfl, hfr1, hk1⟩; obtain ⟨⟨b0, b1, b2⟩, ⟨f0, f1, f2⟩, -⟩ := HC.out _ hk1; have Hfr1 := Lib.hid hfr1; have Hk1 := Lib.hid hk1; clear hfr1 hk1)
        | (go_at_call 61; refine (CJ.out _ Hfr1.out Hk1.out).mono ?_; rintro x9 w2 ⟨rfl, hfr2, hk2⟩; obtain ⟨⟨d0, d1, d2⟩, ⟨e0, e1, e2⟩, -⟩ := HC.out _ (Hk1.out.trans hk2); have Hfr2 := Lib.hid hfr2; have Hk2 := Lib.hid hk2; clear hfr2 hk2))
      all_goals
        have hk1 := Hk1.out
        have hk2 := Hk2.out
        have hfr2 := Hfr2.out
        have HR2 : Hid (r = rowM (l.drop (k + 1)) ⟨jf, jl, je⟩ (joinM (addM x f').1 ⟨pf, pl, pe⟩ (addM x f').2).1) := by show _ = _; rw [hr.out, HX3.out, HJ.out]
        have HKS : Hid (∀ {a b : World}, Kp S2 a b → Kp S a b) := fun h => h.mono fun k hk2 => (HS2.out k).2 (.inl (.inl hk2))
        have HSN : Hid (∀ k, w0.heap.size ≤ k → ¬ S k) := fun k hk2 h => by have := HS.out k h; omega
        have HFF : Hid (Fr (((w2.setCell ⟨w0.heap.size + 1, 0, none⟩ (.int .u64 (jf : Int))).setCell ⟨w0.heap.size + 1, 1, none⟩ (.int .u64 (jl : Int))).setCell ⟨w0.heap.size + 1, 2, none⟩ (.bool je)) (fun k => S k ∨ (w0.heap.size ≤ k ∧ k < w0.heap.size + 2)) g (joinM (addM x f').1 ⟨pf, pl, pe⟩ (addM x f').2).1 ends) := by
          obtain ⟨vn, vb, hv⟩ := hfr2
          have hin : S2 (w0.heap.size + 1) := (HS2.out _).2 (.inl (.inr (by omega)))
          exact ⟨vn, vb, (hv.far3 _ _ _ (fun e => hv.b (e ▸ hin)) (fun e => hv.s1 _ e hin) (fun e => hv.s2 _ e hin)).smono fun k hk2 => (HS2.out k).2 (.inl hk2)⟩
        have HKK : Hid (Kp S w0 (((w2.setCell ⟨w0.heap.size + 1, 0, none⟩ (.int .u64 (jf : Int))).setCell ⟨w0.heap.size + 1, 1, none⟩ (.int .u64 (jl : Int))).setCell ⟨w0.heap.size + 1, 2, none⟩ (.bool je))) :=
          ((HKW.out.trans (HKS.out hk1)).trans (HKS.out hk2)).set3 (HSN.out _ (by omega)) _ _ _
        have HAw : Bk w2 (w0.heap.size + 1) 100 #[.int .u64 (pf : Int), .int .u64 (pl : Int), .bool pe] := ((HA.out.alloc (.cells #[.int .i64 x.k, .string x.n, .int .i64 x.a, .int .i64 x.b, .slice A3 x.l.length cap3] 24)).drew).kp (hk1.trans hk2) ((HS2.out _).2 (.inl (.inr (by omega))))
        have HAA : Hid (Bk (((w2.setCell ⟨w0.heap.size + 1, 0, none⟩ (.int .u64 (jf : Int))).setCell ⟨w0.heap.size + 1, 1, none⟩ (.int .u64 (jl : Int))).setCell ⟨w0.heap.size + 1, 2, none⟩ (.bool je)) (w0.heap.size + 1) 100 (paC ⟨jf, jl, je⟩)) :=
          Bk.set3 HAw _ _ _
        have HRS : Hid (Bk (((w2.setCell ⟨w0.heap.size + 1, 0, none⟩ (.int .u64 (jf : Int))).setCell ⟨w0.heap.size + 1, 1, none⟩ (.int .u64 (jl : Int))).setCell ⟨w0.heap.size + 1, 2, none⟩ (.bool je)) w0.heap.size 100 #[.int .u64 0, .int .u64 0, .bool false]) :=
          (((HRR.out.alloc (.cells #[.int .i64 x.k, .string x.n, .int .i64 x.a, .int .i64 x.b, .slice A3 x.l.length cap3] 24)).drew).kp (hk1.trans hk2) ((HS2.out _).2 (.inl (.inr (by omega))))).far3 (by omega) _ _ _
        have HOO : Hid (FOk (joinM (addM x f').1 ⟨pf, pl, pe⟩ (addM x f').2).1 ∧ (joinM (addM x f').1 ⟨pf, pl, pe⟩ (addM x f').2).1.ns.length + posL (l.drop (k + 1)) ≤ 25 ∧ POk (joinM (addM x f').1 ⟨pf, pl, pe⟩ (addM x f').2).1.ns.length ⟨jf, jl, je⟩) := by
          obtain ⟨g1, g2, g3⟩ := HG.out
          refine ⟨g1, ?_, ?_⟩
          · rw [g2, HGL.out]; have := HX2.out; rw [this] at o2; omega
          · rw [g2, HJ.out]; exact g3
        have HZZ : Hid (w0.heap.size + 2 ≤ (((w2.setCell ⟨w0.heap.size + 1, 0, none⟩ (.int .u64 (jf : Int))).setCell ⟨w0.heap.size + 1, 1, none⟩ (.int .u64 (jl : Int))).setCell ⟨w0.heap.size + 1, 2, none⟩ (.bool je)).heap.size) := by
          have h1 := hk1.size
          have h2 := hk2.size
          show _ ≤ _
          simp only [World.size_setCell]
          have h3 : (wr.alloc (.cells #[.int .i64 x.k, .string x.n, .int .i64 x.a, .int .i64 x.b, .slice A3 x.l.length cap3] 24)).drew.heap.size = wr.heap.size + 1 := by simp
          omega
        clear HAw hk1 hk2 hfr2 Hk1 Hk2 Hfr1 Hfr2 HC CJ CA HA HRR HF HK a0 a1 a2 b0 b1 b2 f0 f1 f2 d0 d1 d2 e0 e1 e2
        go_wp2
        go_roundw
        case rel => exact ⟨k + 1, _, _, by omega, by go_num, HR2.out, HFF.out, HKK.out, HAA.out, HRS.out, HOO.out, HZZ.out⟩
        case measure => simp [intOf]; omega
    · obtain ⟨pf, pl, pe⟩ := p
      have hfin : Hid (r = (f', ⟨pf, pl, pe⟩)) := by show _ = _; rw [hr.out, List.drop_eq_nil_of_le (by omega), rowM]
      obtain ⟨⟨x0, x1, x2⟩, -⟩ := Bk.three (show Bk wr (w0.heap.size + 1) 100 #[.int .u64 (pf : Int), .int .u64 (pl : Int), .bool pe] from HA.out)
      obtain ⟨⟨y0, y1, y2⟩, z0, z1, z2⟩ := Bk.three HRR.out
      have hlt0 : w0.heap.size < wr.heap.size := by omega
      have hlt1 : w0.heap.size + 1 < wr.heap.size := by omega
      have HSN : Hid (¬ S w0.heap.size) := fun h => by have := HS.out _ h; omega
      clear HA0 HR0 HF0 HK0
      go_wp2_with fail
      refine pa_ret 4 w0.heap.size Tryz.results106 rfl rfl ?_ ?_ ?_
      · rw [hfin.out]; exact Bk.set3 HRR.out _ _ _
      · rw [hfin.out]
        obtain ⟨vn, vb, hv⟩ := HF.out
        exact ⟨vn, vb, (hv.far3 _ _ _ (fun e => hv.b (.inr (by omega))) (fun e => hv.s1 _ e (.inr (by omega))) (fun e => hv.s2 _ e (.inr (by omega)))).smono fun k hk2 => .inl hk2⟩
      · exact HK.out.set3 HSN.out _ _ _
end Go.Proofs.YtkbileabkfccgaaGreatDoor
