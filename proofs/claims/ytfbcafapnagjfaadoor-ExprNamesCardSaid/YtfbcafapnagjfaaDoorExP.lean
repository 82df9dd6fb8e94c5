/- expr: kids that are put together: with, list. -/
import Derived.Test.YtfbcafapnagjfaaDoorExN
import Derived.Test.YtfbcafapnagjfaaDoorApp
import Derived.Test.YtfbcafapnagjfaaDoorExE
namespace Go.Proofs.YtfbcafapnagjfaaDoor
open Go.RowKit

theorem infoEx : (Tryd.prog.info? 24).map (fun i => (i.zero, i.size, i.bytes)) = some (some (.agg #[.int .i64 0, .string ⟨#[]⟩, .int .i64 0, .int .i64 0, .slice none 0 0]), 5, 64) := by kernel_rfl

/-- slice v, of a call's own from block base on, holds the expressions ks; what they lead to lies from base on, and elsewhere -/
def Ks (w : World) (base : Nat) (v : Value) (ks : List Ex) : Prop :=
  ∃ (ss : List Value) (h : ss.length = ks.length), w.ownsRow base 24 5 v ks.length (exCs ks ss) ∧ ∀ i (hi : i < ks.length), Kd w (fun b => base ≤ b ∧ v.ownBlock ≠ some b) (ss[i]'(by omega)) ks[i].l
section
variable {w w' : World} {base g : Nat} {v : Value} {ks : List Ex}
theorem Ks.nil (w : World) (base : Nat) : Ks w base (.slice none 0 0) [] := ⟨[], rfl, World.ownsRow_nil w base _ 5, fun i hi => by simp at hi⟩
theorem Ks.form (h : Ks w base v ks) : ∃ A cap, v = .slice A ks.length cap := by obtain ⟨ss, _, ho, _⟩ := h; exact own_form ho
theorem Ks.bg (h : Ks w base v ks) (hb : Bg w.heap.size g w w') (hg : g < base) : Ks w' base v ks := by
  obtain ⟨ss, hl, ho, hk⟩ := h
  refine ⟨ss, hl, World.ownsRow.kept ho (row := some g) ⟨hb.os, hb.tape, hb.output, hb.size, fun k h1 h2 => hb.block k h1 (by simpa using h2)⟩ (.inr fun e => ?_), fun i hi => ?_⟩
  · have := (ho.lt g e).1; omega
  · refine ((hk i hi).inb.keep fun b o hb2 => ?_).mono fun b hb2 => hb2.1
    exact hb.cell (p := ⟨b, o, none⟩) hb2.2 (by show b ≠ g; omega)
theorem Ks.all (h : Ks w base v ks) (hb : Below w.heap.size w w') : Ks w' base v ks := by
  obtain ⟨ss, hl, ho, hk⟩ := h
  exact ⟨ss, hl, own_all ho hb, fun i hi => ((hk i hi).inb.keep fun b o hb2 => hb.cell (p := ⟨b, o, none⟩) hb2.2).mono fun b hb2 => hb2.1⟩
theorem get_app_left {α : Type} (a b : List α) (i : Nat) (h : i < a.length) (h2 : i < (a ++ b).length) : (a ++ b)[i]'h2 = a[i] := List.getElem_append_left h
theorem Ks.app {v' : Value} {ms : List Ex} {ts : List Value} (hl : ts.length = ms.length) (ss : List Value) (hs : ss.length = ks.length) (hk : ∀ i (hi : i < ks.length), Kd w (fun b => base ≤ b ∧ v.ownBlock ≠ some b) (ss[i]'(by omega)) ks[i].l) (ht : ∀ i (hi : i < ms.length), Kd w (fun b => base ≤ b ∧ v.ownBlock ≠ some b) (ts[i]'(by omega)) ms[i].l)
    (ho : w'.ownsRow base 24 5 v' (ks.length + ms.length) (exCs ks ss ++ exCs ms ts)) (hg : w.grownBy w' v.ownBlock)
    (hat : v'.ownBlock = v.ownBlock ∨ v'.ownBlock = some w.heap.size) : Ks w' base v' (ks ++ ms) := by
  have keep : ∀ {s : Value} {l : List Ex}, Kd w (fun b => base ≤ b ∧ v.ownBlock ≠ some b) s l → Kd w' (fun b => base ≤ b ∧ v'.ownBlock ≠ some b) s l := by
    intro s l hh
    refine (hh.inb.keep fun b o hb => ?_).mono fun b hb => ⟨hb.1.1, ?_⟩
    · exact hg.cell_far ⟨b, o, none⟩ hb.2 (fun e => hb.1.2 e.symm)
    · rcases hat with e | e
      · rw [e]; exact hb.1.2
      · rw [e]; intro e2; have := hb.2; simp at e2; omega
  refine ⟨ss ++ ts, by simp [hs, hl], ?_, fun i hi => ?_⟩
  · rw [List.length_append, exCs_app ks ss ms ts hs]; exact ho
  · by_cases hik : i < ks.length
    · have e1 : (ss ++ ts)[i]'(by simp [hs, hl] at hi ⊢; omega) = ss[i]'(by omega) := List.getElem_append_left _
      have e2 : (ks ++ ms)[i]'hi = ks[i] := List.getElem_append_left _
      rw [e1, e2]
      exact keep (hk i hik)
    · have hi2 : i - ks.length < ms.length := by simp at hi; omega
      have e1 : (ss ++ ts)[i]'(by simp [hs, hl] at hi ⊢; omega) = ts[i - ks.length]'(by omega) := by
        rw [List.getElem_append_right (by omega)]; congr 1; omega
      have e2 : (ks ++ ms)[i]'hi = ms[i - ks.length] := by rw [List.getElem_append_right (by omega)]
      rw [e1, e2]
      exact keep (ht _ hi2)
theorem Ks.lt (h : Ks w base v ks) : ∀ k, v.ownBlock = some k → base ≤ k ∧ k < w.heap.size := by obtain ⟨ss, _, ho, _⟩ := h; exact ho.lt
end

/-- with: what it leaves -/
def WithR (w : World) (base : Nat) (ks : List Ex) (x : Ending) (w' : World) : Prop := ∃ v', x = .returned v' ∧ Ks w' base v' ks ∧ Below base w w'

set_option maxRecDepth 100000 in
set_option maxHeartbeats 400000 in
theorem withSame_any (kind : Int) (v : Value) (ks : List Ex) (nm : ByteArray) (a b : Int) (l : List Ex) (s : Value) (base : Nat) (w : World) (hk : Ks w base v ks) (hs : Kd w (fun b => base ≤ b ∧ v.ownBlock ≠ some b) s l) (hB : base ≤ w.heap.size)
    (hsz : ks.length + l.length ≤ 1000000) :
    Calls Tryd.prog 36 #[v, .int .i64 kind, .agg #[.int .i64 kind, .string nm, .int .i64 a, .int .i64 b, s]] w (WithR w base (ks ++ l)) := by
  obtain ⟨A2, c2, rfl⟩ := hs.form
  obtain ⟨A1, c1, rfl⟩ := hk.form
  have hk1 := hk.all (box_below w (.cells #[.int .i64 kind, .string nm, .int .i64 a, .int .i64 b, .slice A2 l.length c2] 24))
  have hs1 := (hs.inb.keep (w' := w.alloc (.cells #[.int .i64 kind, .string nm, .int .i64 a, .int .i64 b, .slice A2 l.length c2] 24)) fun b o hb => (box_below w _).cell (p := ⟨b, o, none⟩) hb.2).mono fun b hb => hb.1
  obtain ⟨ss, hss, ho, hkk⟩ := hk1
  have hs2 := hs1
  cases hs2 with
  | mk _ _ tt htt hr htk =>
    have hrd := hr.inb (by omega) |>.rd (B := (w.alloc (.cells #[.int .i64 kind, .string nm, .int .i64 a, .int .i64 b, .slice A2 l.length c2] 24)).heap.size) fun b hb => hb.2
    have hone : ∀ u ∈ exCs l tt, u.oneCell' = true := exCs_one l tt fun x hx => by
      obtain ⟨i, hi, rfl⟩ := List.mem_iff_getElem.1 hx
      exact (htk i (by omega)).one
    have HK := Lib.hid hkk
    have HT := Lib.hid htk
    have HR := Lib.hid hrd
    have HO := Lib.hid ho
    clear hkk htk hrd hr hs1 hk hs ho
    go_enter Tryd.func36, Tryd.ntmps36
    go_wp2_with (at_builtin; refine wpList_appR _ rfl _ _ 22 24 rfl _ 5 64 Tryd.underlying22 infoEx (by rfl) (by decide) base rfl rfl HO.out HR.out hone ?_ ?_ ?_ ?_)
    · unfold maxLen; omega
    · omega
    · simp; omega
    intro v' w1 ho1 hg1 hat
    have hfin : Ks w1 base v' (ks ++ l) := Ks.app htt ss hss HK.out HT.out ho1 hg1 (by simpa using hat)
    have hb1 : Below base w w1 := ((Below.refl _ _).alloc hB _).grown hg1 (by simp; omega) fun k hk => (HO.out.lt k hk).1
    have HF := Lib.hid hfin
    clear hfin hg1 hat ho1
    go_wp2_with fail
    go_ret
    exact ⟨_, rfl, HF.out, hb1⟩

set_option maxRecDepth 100000 in
set_option maxHeartbeats 400000 in
theorem withOne_any (kind : Int) (v : Value) (ks : List Ex) (k : Int) (hkne : (k == kind) = false) (nm : ByteArray) (a b : Int) (l : List Ex) (s : Value) (base : Nat) (w : World) (hk : Ks w base v ks) (hs : Kd w (fun b => base ≤ b ∧ v.ownBlock ≠ some b) s l) (hB : base ≤ w.heap.size)
    (hsz : ks.length + 1 ≤ 1000000) :
    Calls Tryd.prog 36 #[v, .int .i64 kind, .agg #[.int .i64 k, .string nm, .int .i64 a, .int .i64 b, s]] w (WithR w base (ks ++ [.mk k nm a b l])) := by
  obtain ⟨A2, c2, rfl⟩ := hs.form
  obtain ⟨A1, c1, rfl⟩ := hk.form
  have B2 := two_boxes w (.cells #[.int .i64 k, .string nm, .int .i64 a, .int .i64 b, .slice A2 l.length c2] 24) (.cells #[.int .i64 k, .string nm, .int .i64 a, .int .i64 b, .slice A2 l.length c2] 24)
  have hk1 := hk.all B2
  have hs1 := (hs.inb.keep (w' := (w.alloc (.cells #[.int .i64 k, .string nm, .int .i64 a, .int .i64 b, .slice A2 l.length c2] 24)).alloc (.cells #[.int .i64 k, .string nm, .int .i64 a, .int .i64 b, .slice A2 l.length c2] 24)) fun b o hb => B2.cell (p := ⟨b, o, none⟩) hb.2).mono fun b hb => hb.1
  obtain ⟨ss, hss, ho, hkk⟩ := hk1
  have hrd := Rd.lit (w.alloc (.cells #[.int .i64 k, .string nm, .int .i64 a, .int .i64 b, .slice A2 l.length c2] 24)) 24 5 1 #[.int .i64 k, .string nm, .int .i64 a, .int .i64 b, .slice A2 l.length c2] (0, 0) rfl (by omega)
  rw [World.size_alloc] at hrd
  have HK := Lib.hid hkk
  have HT := Lib.hid hs1
  have HR := Lib.hid hrd
  have HO := Lib.hid ho
  have HB2 := Lib.hid B2
  clear hkk hrd hs1 hk hs ho B2
  go_enter Tryd.func36, Tryd.ntmps36
  go_wp2_with (at_builtin; refine wpList_appR _ rfl _ _ 22 24 rfl _ 5 64 Tryd.underlying22 infoEx (by rfl) (by decide) base rfl rfl HO.out HR.out ?_ ?_ ?_ ?_ ?_)
  · simp [Value.oneCell']
  · unfold maxLen; omega
  · omega
  · first | omega | (simp; omega)
  intro v' w1 ho1 hg1 hat
  have hfin : Ks w1 base v' (ks ++ [.mk k nm a b l]) := Ks.app (ms := [.mk k nm a b l]) (ts := [.slice A2 l.length c2]) rfl ss hss HK.out (fun i hi => by
    obtain rfl : i = 0 := by simpa using hi
    exact HT.out) ho1 hg1 (by simpa using hat)
  have hb1 : Below base w w1 := (HB2.out.mono hB).grown hg1 (by simp; omega) fun k hk => (HO.out.lt k hk).1
  have HF := Lib.hid hfin
  clear hfin hg1 hat ho1
  go_wp2_with fail
  go_ret
  exact ⟨_, rfl, HF.out, hb1⟩

/-- with -/
theorem with_any (kind : Int) (v : Value) (ks : List Ex) (e : Ex) (s : Value) (base : Nat) (w : World) (hk : Ks w base v ks) (hs : Kd w (fun b => base ≤ b ∧ v.ownBlock ≠ some b) s e.l) (hB : base ≤ w.heap.size)
    (hsz : ks.length + e.l.length + 1 ≤ 1000000) :
    Calls Tryd.prog 36 #[v, .int .i64 kind, exV e s] w (WithR w base (withE kind ks e)) := by
  obtain ⟨k, nm, a, b, l⟩ := e
  have hl : (Ex.mk k nm a b l).l.length = l.length := rfl
  unfold withE
  by_cases h : k = kind
  · subst h
    rw [if_pos (by rfl)]
    exact withSame_any k v ks nm a b l s base w hk hs hB (by omega)
  · rw [if_neg (by exact h)]
    exact withOne_any kind v ks k (by simpa using h) nm a b l s base w hk hs hB (by omega)

/-- an expression is handed back; what it leads to lies from base on -/
def ListR (w : World) (base : Nat) (e : Ex) (x : Ending) (w' : World) : Prop :=
  ∃ A c, x = .returned (.agg #[.int .i64 e.k, .string e.n, .int .i64 e.a, .int .i64 e.b, .slice A e.l.length c]) ∧ Kd w' (fun b => base ≤ b) (.slice A e.l.length c) e.l ∧ Below w.heap.size w w'

set_option maxRecDepth 100000 in
set_option maxHeartbeats 400000 in
theorem listOne_any (kind : Int) (v : Value) (e : Ex) (base : Nat) (w : World) (hk : Ks w base v [e]) :
    Calls Tryd.prog 38 #[.int .i64 kind, v] w (ListR w base e) := by
  obtain ⟨A1, c1, rfl⟩ := hk.form
  obtain ⟨ss, hss, ho, hkk⟩ := hk
  have hr := RdS.own ho
  have hkd := hkk 0 (by simp)
  obtain ⟨A', cap', hv, _, hcap, _, h3⟩ := hr
  simp only [Value.slice.injEq, true_and] at hv
  obtain ⟨rfl, rfl⟩ := hv
  have hss1 : ss.length = 1 := hss
  rcases h3 with h3 | ⟨b, off, rfl, hb, hc⟩
  · simp at h3
  have hg := fun j hj => exCs_get [e] ss hss 0 (by simp) j hj
  have c0 := hc 0 _ (by simpa [exC] using hg 0 (by omega))
  have c1' := hc 1 _ (by simpa [exC] using hg 1 (by omega))
  have c2 := hc 2 _ (by simpa [exC] using hg 2 (by omega))
  have c3 := hc 3 _ (by simpa [exC] using hg 3 (by omega))
  have c4 := hc 4 _ (by simpa [exC] using hg 4 (by omega))
  have hblt := World.block_lt_of_cell? w _ c0
  simp only at hblt
  have hkd2 : Kd w (fun b => base ≤ b) (ss[0]'(by omega)) e.l := hkd.mono fun b hb => hb.1
  obtain ⟨A2, n2, h2⟩ := hkd2.form
  rw [h2] at c4 hkd2
  have HKD := Lib.hid hkd2
  clear hg hc hkd hkd2 h2 ho hkk hss hss1 hb
  simp only [List.length_cons, List.length_nil, Nat.add_zero, Nat.zero_add] at c0 c1' c2 c3 c4 hcap ⊢
  have e1 : off + 1 + 1 = off + 2 := rfl
  go_enter Tryd.func38, Tryd.ntmps38
  go_wp2_with fail
  refine bodyPost_ret (v := .agg #[.int .i64 e.k, .string e.n, .int .i64 e.a, .int .i64 e.b, .slice A2 e.l.length n2]) (by simp [results, Tryd.results38, go_sem]) rfl ?_
  exact ⟨A2, n2, rfl, HKD.out.inb.keep (fun b o hb => (box_below w _).cell (p := ⟨b, o, none⟩) hb.2) |>.mono fun b hb => hb.1, box_below w _⟩

set_option maxRecDepth 100000 in
set_option maxHeartbeats 400000 in
theorem listMore_any (kind : Int) (v : Value) (ks : List Ex) (base : Nat) (w : World) (hk : Ks w base v ks) (hne : ¬ ks.length = 1) :
    Calls Tryd.prog 38 #[.int .i64 kind, v] w (ListR w base (.mk kind (baOf []) 0 0 ks)) := by
  obtain ⟨A1, c1, rfl⟩ := hk.form
  have hlt := hk.lt
  obtain ⟨ss, hss, ho, hkk⟩ := hk
  have hkd : Kd w (fun b => base ≤ b) (.slice A1 ks.length c1) ks :=
    .mk ks _ ss hss ((RdS.own ho).mono fun b hb => (hlt b hb).1) fun i hi => (hkk i hi).mono fun b hb => hb.1
  have HKD := Lib.hid hkd
  have h1 : (((ks.length : Nat) : Int) == 1) = false := by rw [beq_eq_false_iff_ne]; omega
  clear hkd ho hkk hss hlt hne
  go_enter Tryd.func38, Tryd.ntmps38
  go_wp2_with fail
  refine bodyPost_ret (v := .agg #[.int .i64 kind, .string ⟨#[]⟩, .int .i64 0, .int .i64 0, .slice A1 ks.length c1]) (by simp [results, Tryd.results38, go_sem]) rfl ?_
  exact ⟨A1, c1, rfl, HKD.out.inb.keep (fun b o hb => (box_below w _).cell (p := ⟨b, o, none⟩) hb.2) |>.mono fun b hb => hb.1, box_below w _⟩

/-- list -/
theorem list_any (kind : Int) (v : Value) (ks : List Ex) (base : Nat) (w : World) (hk : Ks w base v ks) :
    Calls Tryd.prog 38 #[.int .i64 kind, v] w (ListR w base (listE kind ks)) := by
  match ks, hk with
  | [], hk => exact listMore_any kind v [] base w hk (by simp)
  | [e], hk => exact listOne_any kind v e base w hk
  | x :: y :: r, hk => exact listMore_any kind v (x :: y :: r) base w hk (by simp)
end Go.Proofs.YtfbcafapnagjfaaDoor
