/- the kit's Attrs; the chapter's specs. -/
import Derived.Test.YtjoogocgklhgpaaAtT
import Derived.Laws.StructEq
namespace Go.Proofs.Ytjoogocgklhgpaa
open Go.RowKit

def eqK (l m : List At) (k : Nat) : Bool := ((gA l k).n.toList == (gA m k).n.toList) && ((gA l k).v.toList == (gA m k).v.toList)
def eqA (l m : List At) : Bool := decide (l.length = m.length) && (List.range l.length).all (eqK l m)
theorem At.ext {a b : At} (h : a.n = b.n) (k : a.v = b.v) : a = b := by cases a; cases b; cases h; cases k; rfl
theorem eqA_iff (l m : List At) : eqA l m = true ↔ l = m := by
  unfold eqA
  rw [Bool.and_eq_true, decide_eq_true_iff, List.all_eq_true]
  constructor
  · rintro ⟨h, ha⟩
    apply List.ext_getElem h
    intro k h1 h2
    have := ha k (List.mem_range.2 h1)
    unfold eqK at this
    rw [gA_get l k h1, gA_get m k h2, Bool.and_eq_true, eqS_iff, eqS_iff] at this
    exact At.ext this.1 this.2
  · rintro rfl
    exact ⟨rfl, fun k _ => by simp [eqK]⟩
theorem eqA_self (l : List At) : eqA l l = true := (eqA_iff l l).2 rfl
theorem eqA_yes {l m : List At} (h : l.length = m.length) (hk : ∀ k, k < l.length → eqK l m k = true) : eqA l m = true := by
  unfold eqA; simp only [h, decide_true, Bool.true_and, List.all_eq_true]; intro k hm; exact hk k (by rw [h]; exact List.mem_range.1 hm)
theorem eqA_no {l m : List At} {k : Nat} (hk : k < l.length) (h : eqK l m k = false) : eqA l m = false := by
  unfold eqA; rw [Bool.and_eq_false_iff]; right; rw [← Bool.not_eq_true, List.all_eq_true]; intro hall; rw [hall k (List.mem_range.2 hk)] at h; cases h
theorem eqA_len {l m : List At} (h : l.length ≠ m.length) : eqA l m = false := by unfold eqA; simp [h]

theorem eqAt_run (a b c d : ByteArray) (w : World) : (Op.equalIn 10000 29 (.agg #[.string a, .string b]) (.agg #[.string c, .string d])).run Try.prog w = .ok ((a.toList == c.toList) && (b.toList == d.toList)) w := by
  have u3 := Try.underlying9
  have a3 := Try.isAgg9
  have z3 := Try.sizeOf9
  have hS : Try.prog.underlying 29 = some (.struct (Try.prog.fieldsOf 29)) := by kernel_rfl
  have hp : Try.prog.stoodInHeld 29 = false := by kernel_rfl
  rw [show (10000 : Nat) = 9999 + 1 from rfl, run_equalIn_agg w 9999 29 _ _ hS hp]
  simp only [Program.fieldsOf, Try.underlying29]
  go_simp
  cases h1 : (a.toList == c.toList) <;> cases h2 : (b.toList == d.toList) <;> simp_all
theorem neqAt_run (a b c d : ByteArray) (w : World) : (binOp .neq 29 (.agg #[.string a, .string b]) (.agg #[.string c, .string d])).run Try.prog w = .ok (.bool (!((a.toList == c.toList) && (b.toList == d.toList)))) w := by
  rw [run_neq_struct, eqAt_run]; rfl

set_option maxRecDepth 100000 in
theorem attrs_any (va vb : Value) (l m : List At) (B : Nat) (w : World) (hl : Ats w B va l) (hm : Ats w B vb m) (hB : B ≤ w.heap.size) :
    Calls Try.prog 24 #[va, vb] w fun e w' => e = .returned (.bool (eqA l m)) ∧ Below w.heap.size w w' := by
  obtain ⟨Al, cl, rfl⟩ := hl.form
  obtain ⟨Am, cm, rfl⟩ := hm.form
  have hml := hl.max
  have hmm := hm.max
  unfold maxLen at hml hmm
  by_cases hlen : l.length = m.length
  · have hlen' : ((l.length : Int) != (m.length : Int)) = false := by simp; omega
    have HL := Lib.hid hlen
    clear hlen
    go_enter Try.func24, Try.ntmps24
    go_wp2
    go_loopw [5] (fun i wr => ∃ k : Nat, k ≤ l.length ∧ i = .int .i64 k ∧ Below w.heap.size w wr ∧ Hid (∀ j, j < k → eqK l m j = true)) (fun i _ => l.length - (intOf i).toNat)
    case atStart => exact ⟨0, Nat.zero_le _, rfl, Below.refl _ _, fun j hj => by omega⟩
    case round =>
      obtain ⟨k, hk, rfl, hb, hall⟩ := hrel
      by_cases hlt : k < l.length
      · have hltm : k < m.length := by have := HL.out; omega
        obtain ⟨bl, offl, rfl, hblB, hcll, hl0, hl1⟩ := (hl.below (hb.mono hB)).at hlt
        obtain ⟨bm, offm, rfl, hbmB, hcmm, hm0, hm1⟩ := (hm.below (hb.mono hB)).at hltm
        have hs := Lib.hid (show eqK l m k = ((l[k].n.toList == m[k].n.toList) && (l[k].v.toList == m[k].v.toList)) by unfold eqK; rw [gA_get l k hlt, gA_get m k hltm])
        have hi1 : (k : Int) < (l.length : Int) := by omega
        have hi2 : (k : Int) < (m.length : Int) := by omega
        have hi0 : (0 : Int) ≤ (k : Int) := by omega
        have hq := neqAt_run l[k].n l[k].v m[k].n m[k].v
        have hgd : Try.prog.eqGuardType Try.prog.depth 29 = false := by kernel_rfl
        cases he : ((l[k].n.toList == m[k].n.toList) && (l[k].v.toList == m[k].v.toList))
        · have hf : Hid (eqA l m = false) := eqA_no hlt (hs.out.trans he)
          rw [he] at hq
          clear he
          go_wp2
          go_quiet (fail)
          go_wp2
          go_ret
          exact ⟨ret_bool hf.out.symm, blN hb _⟩
        · have hall' : Hid (∀ j, j < k + 1 → eqK l m j = true) := by
            show ∀ j, _
            intro j hj
            by_cases e : j = k
            · subst e; exact hs.out.trans he
            · exact hall.out j (by omega)
          rw [he] at hq
          clear he
          go_wp2
          go_quiet (fail)
          go_wp2
          go_roundw
          case rel => exact ⟨k + 1, by omega, by go_num, blN hb _, hall'⟩
          case measure => simp [intOf]; omega
      · have hf : Hid (eqA l m = true) := eqA_yes HL.out fun k hk => hall.out k (by omega)
        go_wp2
        go_ret
        exact ⟨ret_bool hf.out.symm, hb⟩
  · have hf : Hid (eqA l m = false) := eqA_len hlen
    have hlen' : ((l.length : Int) != (m.length : Int)) = true := by rw [bne_iff_ne]; omega
    clear hlen
    go_enter Try.func24, Try.ntmps24
    go_wp2
    go_ret
    exact ⟨ret_bool hf.out.symm, Below.refl _ _⟩
end Go.Proofs.Ytjoogocgklhgpaa
