/- expr: slices.IndexFunc, ContainsFunc over expressions, at any function; deeper, holds. -/
import Derived.Test.YtfbcafapnagjfaaDoorExA
namespace Go.Proofs.YtfbcafapnagjfaaDoor
open Go.RowKit

def idx {T : Type} (p : T → Bool) (l : List T) : Int := if l.any p then (l.findIdx p : Int) else -1
theorem idx_no {T : Type} {p : T → Bool} {l : List T} (h : ∀ j (hj : j < l.length), p l[j] = false) : idx p l = -1 := by
  unfold idx
  rw [if_neg]
  rw [Bool.not_eq_true, List.any_eq_false]
  intro x hx
  obtain ⟨j, hj, rfl⟩ := List.mem_iff_getElem.1 hx
  rw [h j hj]; simp
theorem idx_at {T : Type} {p : T → Bool} {l : List T} {k : Nat} (hk : k < l.length) (hp : p l[k] = true) (h : ∀ j (hj : j < l.length), j < k → p l[j] = false) : idx p l = k := by
  unfold idx
  rw [if_pos (List.any_eq_true.2 ⟨_, List.getElem_mem hk, hp⟩)]
  congr 1
  rw [List.findIdx_eq hk]
  exact ⟨hp, fun j hj => by simpa using h j (by omega) hj⟩
theorem idx_ge {T : Type} (p : T → Bool) (l : List T) : decide (0 ≤ idx p l) = l.any p := by
  unfold idx
  cases h : l.any p <;> simp

/-- a call of a function that has a body enters it -/
def Enters (P : Program) (f : FuncId) : Prop := ∀ (args : Array Value) (w : World), (callFunc f args).run P w = .ok (.enter f args) w
theorem enters {P : Program} {f : FuncId} {fn : Func} (hf : P.funcs[f]? = some fn) (hname : (fn.name == "runtime.NumGoroutine") = false) (hb : fn.body.isNone = false) : Enters P f := by
  intro args w
  have h1 : fn.name ≠ "runtime.NumGoroutine" := by simpa using hname
  have h2 : ¬ fn.body = none := by
    intro h; rw [h] at hb; cases hb
  simp [callFunc, hf, h1, h2]

theorem two_args (a b : Value) : (#[a] ++ #[b] : Array Value) = #[a, b] := by simp
theorem one_arg (a : Value) : (#[a] ++ #[] : Array Value) = #[a] := by simp
/-- at each expression of l, and any later world, function value K at caps answers p -/
def Asks (P : Program) (p : Ex → Bool) (K : Nat) (caps : Array Value) (B : Nat) (w : World) (l : List Ex) : Prop :=
  Enters P K ∧ ∀ e, e ∈ l → ∀ s w', Below w.heap.size w w' → Kb w' B s e.l → Calls P K (#[exV e s] ++ caps) w' (RetB (p e) w')

set_option maxRecDepth 100000 in
theorem idxF_any (p : Ex → Bool) (K : Nat) (caps : Array Value) (v : Value) (l : List Ex) (B : Nat) (w : World) (hv : Kb w B v l) (hB : B ≤ w.heap.size) (hf : Asks Tryd.prog p K caps B w l) :
    Calls Tryd.prog 41 #[v, .func (.func K) #[] caps] w fun e w' => e = .returned (.int .i64 (idx p l)) ∧ Below w.heap.size w w' := by
  obtain ⟨A, cap, rfl⟩ := hv.form
  have hm := hv.max
  unfold maxLen at hm
  go_enter Tryd.func41, Tryd.ntmps41
  go_wp2
  go_loopw [8] (fun i wr => ∃ k : Nat, k ≤ l.length ∧ i = .int .i64 k ∧ Below w.heap.size w wr ∧ Hid (∀ j (hj : j < l.length), j < k → p l[j] = false)) (fun i _ => l.length - (intOf i).toNat)
  case atStart => exact ⟨0, Nat.zero_le _, rfl, Below.refl _ _, fun j _ hj => by omega⟩
  case round =>
    obtain ⟨k, hk, rfl, hb, hall⟩ := hrel
    by_cases hlt : k < l.length
    · obtain ⟨b, off, s, rfl, hbB, hcap, hks, hc0, hc1, hc2, hc3, hc4⟩ := Kd.at (hv.below (hb.mono hB)) hlt
      have hcall := Lib.hid (hf.2 l[k] (List.getElem_mem hlt) s wr hb hks)
      have hent := hf.1 (#[exV l[k] s] ++ caps) wr
      unfold exV at hent
      have hp0 := Lib.hid (rfl : p l[k] = p l[k])
      clear hf
      go_wp2_with fail
      refine (hcall.out).mono ?_
      rintro e w1 ⟨rfl, hb1⟩
      clear hcall
      have hb2 := hb.trans (hb1.mono hb.size)
      clear hb1
      by_cases hp : p l[k] = true
      · have hfin : Hid (idx p l = k) := idx_at hlt hp hall.out
        go_wp2
        go_ret
        exact ⟨ret_int hfin.out.symm, hb2⟩
      · have hp : p l[k] = false := by simpa using hp
        have hall' : Hid (∀ j (hj : j < l.length), j < k + 1 → p l[j] = false) := by
          show ∀ j, _
          intro j hj hjk
          by_cases e : j = k
          · subst e; exact hp
          · exact hall.out j hj (by omega)
        go_wp2
        go_roundw
        case rel => exact ⟨k + 1, by omega, by go_num, hb2, hall'⟩
        case measure => simp [intOf]; omega
    · have hfin : Hid (idx p l = -1) := idx_no fun j hj => hall.out j hj (by omega)
      go_wp2
      go_ret
      exact ⟨ret_int hfin.out.symm, hb⟩

set_option maxRecDepth 100000 in
theorem contF_any (p : Ex → Bool) (K : Nat) (caps : Array Value) (v : Value) (l : List Ex) (B : Nat) (w : World) (hv : Kb w B v l) (hB : B ≤ w.heap.size) (hf : Asks Tryd.prog p K caps B w l) :
    Calls Tryd.prog 24 #[v, .func (.func K) #[] caps] w (RetB (l.any p) w) := by
  obtain ⟨A, cap, rfl⟩ := hv.form
  have hi := Lib.hid (idxF_any p K caps _ l B w hv hB hf)
  have hfin := Lib.hid (idx_ge p l)
  clear hf
  go_enter Tryd.func24, Tryd.ntmps24
  go_wp2_with fail
  refine (hi.out).mono ?_
  rintro e w1 ⟨rfl, hb1⟩
  clear hi
  go_wp2
  go_ret
  exact retB hfin.out hb1

set_option maxRecDepth 100000 in
theorem deeper1_any (d : Bool) (n : Nat) (k : Int) (nm : ByteArray) (a b : Int) (s : Value) (p : Addr) (w : World) (hp : w.cell? p = some (.int .i64 ((n : Int) + 1))) (hpb : p.block < w.heap.size) (hn : n ≤ 1000000)
    (hq : ∀ w', Below w.heap.size w w' → Calls Tryd.prog 14 #[.agg #[.int .i64 k, .string nm, .int .i64 a, .int .i64 b, s], .int .i64 n] w' (RetB d w')) :
    Calls Tryd.prog 25 #[.agg #[.int .i64 k, .string nm, .int .i64 a, .int .i64 b, s], .pointer (some p)] w (RetB d w) := by
  have B2 : Below w.heap.size w (w.alloc (.cells #[.int .i64 k, .string nm, .int .i64 a, .int .i64 b, s] 24)) := (Below.refl _ _).alloc (Nat.le_refl _) _
  have HQ := Lib.hid (hq _ B2)
  clear hq
  have hi : (n : Int) + 1 - 1 = n := by omega
  go_enter Tryd.func25, Tryd.ntmps25
  go_wp2_with fail
  refine (HQ.out).mono ?_
  clear HQ
  rintro e w1 ⟨rfl, hb1⟩
  have B3 := B2.trans (hb1.mono (by simp))
  clear hb1 B2
  go_wp2
  go_ret
  exact retB rfl B3

theorem entD1 : Enters Tryd.prog 25 := enters Tryd.func25 (by kernel_rfl) (by kernel_rfl)

set_option maxRecDepth 100000 in
theorem deeper0_any (k : Int) (nm : ByteArray) (a b : Int) (s : Value) (w : World) :
    Calls Tryd.prog 14 #[.agg #[.int .i64 k, .string nm, .int .i64 a, .int .i64 b, s], .int .i64 0] w (RetB true w) := by
  go_enter Tryd.func14, Tryd.ntmps14
  go_wp2_with fail
  go_ret
  exact retB rfl (((Below.refl _ _).alloc (Nat.le_refl _) _).alloc (by simp) _)

set_option maxRecDepth 100000 in
theorem deeperS_any (c : Bool) (m : Int) (k : Int) (nm : ByteArray) (a b : Int) (s : Value) (w : World) (hm : 0 < m)
    (hc : ∀ w1, Below w.heap.size w w1 → w1.cell? ⟨w.heap.size + 1, 0, none⟩ = some (.int .i64 m) → w.heap.size + 2 ≤ w1.heap.size →
      Calls Tryd.prog 24 #[s, .func (.func 25) #[] #[.pointer (some ⟨w.heap.size + 1, 0, none⟩)]] w1 (RetB c w1)) :
    Calls Tryd.prog 14 #[.agg #[.int .i64 k, .string nm, .int .i64 a, .int .i64 b, s], .int .i64 m] w (RetB c w) := by
  have B1 : Below w.heap.size w ((w.alloc (.cells #[.int .i64 k, .string nm, .int .i64 a, .int .i64 b, s] 24)).alloc (.cells #[.int .i64 m] 3)) := ((Below.refl _ _).alloc (Nat.le_refl _) _).alloc (by simp) _
  have hcont := Lib.hid (hc _ B1 (by go_simp) (by simp))
  have hm0 : (m == 0) = false := by simp; omega
  clear hc
  go_enter Tryd.func14, Tryd.ntmps14
  go_wp2_with fail
  refine (hcont.out).mono ?_
  clear hcont
  rintro e w1 ⟨rfl, hb1⟩
  have B3 := B1.trans (hb1.mono B1.size)
  clear hb1 B1
  go_wp2
  go_ret
  exact retB rfl B3

/-- deeper -/
theorem deeper_any (n : Nat) : ∀ (e : Ex) (s : Value) (B : Nat) (w : World), Kb w B s e.l → B ≤ w.heap.size → n ≤ 1000 →
    Calls Tryd.prog 14 #[exV e s, .int .i64 n] w (RetB (deepN n e) w) := by
  induction n with
  | zero => intro e s B w _ _ _; exact deeper0_any _ _ _ _ _ _
  | succ n ih =>
    intro e s B w hs hB hn
    refine deeperS_any (e.l.any (deepN n)) _ _ _ _ _ _ _ (by omega) fun w1 hb1 hp hz => ?_
    refine contF_any (deepN n) _ _ s e.l B w1 (hs.below (hb1.mono hB)) (by omega) ⟨entD1, fun x _ s' w' hb hk => ?_⟩
    rw [two_args]
    have hp1 : w'.cell? ⟨w.heap.size + 1, 0, none⟩ = some (.int .i64 ((n : Int) + 1)) := (hb.cell (p := ⟨w.heap.size + 1, 0, none⟩) (by show w.heap.size + 1 < _; omega)).trans hp
    have hsz := hb.size
    exact deeper1_any _ n _ _ _ _ s' _ w' hp1 (by show w.heap.size + 1 < _; omega) (by omega) fun w2 hb2 => ih x s' B w2 (hk.below (hb2.mono (by omega))) (by have := hb2.size; omega) (by omega)

/-! ## holds -/
set_option maxRecDepth 100000 in
theorem holds1_any (d : Bool) (K : Nat) (k : Int) (nm : ByteArray) (a b : Int) (s : Value) (p : Addr) (w : World) (hp : w.cell? p = some (.func (.func K) #[] #[])) (hpb : p.block < w.heap.size)
    (hq : ∀ w', Below w.heap.size w w' → Calls Tryd.prog 15 #[.agg #[.int .i64 k, .string nm, .int .i64 a, .int .i64 b, s], .func (.func K) #[] #[]] w' (RetB d w')) :
    Calls Tryd.prog 26 #[.agg #[.int .i64 k, .string nm, .int .i64 a, .int .i64 b, s], .pointer (some p)] w (RetB d w) := by
  have B2 : Below w.heap.size w (w.alloc (.cells #[.int .i64 k, .string nm, .int .i64 a, .int .i64 b, s] 24)) := (Below.refl _ _).alloc (Nat.le_refl _) _
  have HQ := Lib.hid (hq _ B2)
  clear hq
  go_enter Tryd.func26, Tryd.ntmps26
  go_wp2_with fail
  refine (HQ.out).mono ?_
  clear HQ
  rintro e w1 ⟨rfl, hb1⟩
  have B3 := B2.trans (hb1.mono (by simp))
  clear hb1 B2
  go_wp2
  go_ret
  exact retB rfl B3

theorem entH1 : Enters Tryd.prog 26 := enters Tryd.func26 (by kernel_rfl) (by kernel_rfl)

set_option maxRecDepth 100000 in
theorem holds_any (p : Ex → Bool) (K : Nat) (hK : Enters Tryd.prog K) (hp : ∀ (e : Ex) (s : Value) (B : Nat) (w : World), Kb w B s e.l → B ≤ w.heap.size → Calls Tryd.prog K #[exV e s] w (RetB (p e) w)) (e : Ex) :
    ∀ (s : Value) (B : Nat) (w : World), Kb w B s e.l → B ≤ w.heap.size → Calls Tryd.prog 15 #[exV e s, .func (.func K) #[] #[]] w (RetB (e.anyE p) w) := by
  induction e using Ex.ind with
  | h k nm a b l ih =>
    intro s B w hs hB
    have B1 : Below w.heap.size w ((w.alloc (.cells #[.int .i64 k, .string nm, .int .i64 a, .int .i64 b, s] 24)).alloc (.cells #[.func (.func K) #[] #[]] 44)) := ((Below.refl _ _).alloc (Nat.le_refl _) _).alloc (by simp) _
    have hs1 : Kb _ B s l := Kb.below hs (B1.mono hB)
    have hcall := Lib.hid (hp (.mk k nm a b l) s B _ hs1 (Nat.le_trans hB B1.size))
    obtain ⟨c, HC⟩ : ∃ c, Hid (c = p (.mk k nm a b l)) := ⟨_, rfl⟩
    obtain ⟨d, HD⟩ : ∃ d, Hid (d = l.any (Ex.anyE p)) := ⟨_, rfl⟩
    rw [← HC.out] at hcall
    have hall : (Ex.mk k nm a b l).anyE p = (c || d) := by rw [anyE_eq, HC.out, HD.out]; rfl
    rw [hall]
    clear hall
    show Calls Tryd.prog 15 #[.agg #[.int .i64 k, .string nm, .int .i64 a, .int .i64 b, s], .func (.func K) #[] #[]] w (RetB (c || d) w)
    have hent : ∀ (args : Array Value) (w : World), (callFunc K args).run Tryd.prog w = .ok (.enter K args) w := hK
    have hcont : ∀ w1, Below (w.heap.size + 2) ((w.alloc (.cells #[.int .i64 k, .string nm, .int .i64 a, .int .i64 b, s] 24)).alloc (.cells #[.func (.func K) #[] #[]] 44)) w1 →
        Calls Tryd.prog 24 #[s, .func (.func 26) #[] #[.pointer (some ⟨w.heap.size + 1, 0, none⟩)]] w1 (RetB (l.any (Ex.anyE p)) w1) := fun w1 hb1 =>
      contF_any (Ex.anyE p) 26 #[.pointer (some ⟨w.heap.size + 1, 0, none⟩)] s l B _ (hs1.below (hb1.mono (by omega))) (by have := hb1.size; simp at this; omega) ⟨entH1, fun e he s' w' hb hk => by
        obtain ⟨k', nm', a', b', l'⟩ := e
        have hsz : w.heap.size + 2 ≤ w1.heap.size := by have := hb1.size; simpa using this
        have hsz2 := hb.size
        have hp1 : w'.cell? ⟨w.heap.size + 1, 0, none⟩ = some (.func (.func K) #[] #[]) := by
          have h1 := hb.cell (p := ⟨w.heap.size + 1, 0, none⟩) (by show w.heap.size + 1 < _; omega)
          have h2 := hb1.cell (p := ⟨w.heap.size + 1, 0, none⟩) (by show w.heap.size + 1 < _; omega)
          rw [h1, h2]; go_simp
        rw [two_args]
        exact holds1_any _ K k' nm' a' b' s' _ w' hp1 (by show w.heap.size + 1 < _; omega) fun w2 hb2 => ih _ he s' B w2 (Kb.below hk (hb2.mono (by omega))) (by have := hb2.size; omega)⟩
    rw [← HD.out] at hcont
    have HCT := Lib.hid hcont
    clear hcont ih hp hs hs1
    cases c
    · go_enter Tryd.func15, Tryd.ntmps15
      go_wp2_with fail
      refine (hcall.out).mono ?_
      rintro e w1 ⟨rfl, hb1⟩
      have HQ := Lib.hid (HCT.out w1 (by simpa using hb1))
      have B2 := B1.trans (hb1.mono B1.size)
      obtain ⟨hc, hf⟩ := bcell hb1
      have hz : w.heap.size + 2 ≤ w1.heap.size := by have := hb1.size; simpa using this
      clear hcall HCT hb1 B1 hent
      go_wp2_with fail
      refine (HQ.out).mono ?_
      rintro e w2 ⟨rfl, hb2⟩
      have B3 := B2.trans (hb2.mono B2.size)
      clear HQ hb2 B2 hc hf
      go_wp2
      go_ret
      exact retB rfl B3
    · clear HCT
      go_enter Tryd.func15, Tryd.ntmps15
      go_wp2_with fail
      refine (hcall.out).mono ?_
      rintro e w1 ⟨rfl, hb1⟩
      have B2 := B1.trans (hb1.mono B1.size)
      clear hcall hb1 B1 hent
      go_wp2
      go_ret
      exact retB rfl B2
end Go.Proofs.YtfbcafapnagjfaaDoor
