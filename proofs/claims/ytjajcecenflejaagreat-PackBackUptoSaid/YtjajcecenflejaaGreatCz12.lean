/- YtjajcecenflejaaGreatCz12 -/
import Derived.Test.YtjajcecenflejaaGreatCz11
import Derived.Test.YtjajcecenflejaaGreatCz06
import Derived.Deep.LoopGhost
import Derived.Deep.RegionLaw
namespace Go.Proofs.YtjajcecenflejaaGreat
open Go.RowKit
def Cs (w : World) (S : Nat → Prop) (cs : List Value) (ds : List Dt) : Prop := cs.length = ds.length ∧ ∀ (i : Nat) (c : Value) (e : Dt), cs[i]? = some c → ds[i]? = some e → Lies w S c e
section
variable {w w' : World} {S S' : Nat → Prop} {cs cs' : List Value} {ds ds' : List Dt}
theorem Cs.nil : Cs w S [] [] := ⟨rfl, fun i c e h _ => by simp at h⟩
theorem Cs.cons {c : Value} {e : Dt} (h : Lies w S c e) (k : Cs w S cs ds) : Cs w S (c :: cs) (e :: ds) := by
  refine ⟨by simp [k.1], fun i c' e' h1 h2 => ?_⟩
  cases i with
  | zero => simp at h1 h2; subst h1 h2; exact h
  | succ i => exact k.2 i c' e' (by simpa using h1) (by simpa using h2)
theorem Cs.app (h : Cs w S cs ds) (k : Cs w S cs' ds') : Cs w S (cs ++ cs') (ds ++ ds') := by
  refine ⟨by simp [h.1, k.1], fun i c e h1 h2 => ?_⟩
  have hl := h.1
  by_cases hi : i < cs.length
  · rw [List.getElem?_append_left hi] at h1
    rw [List.getElem?_append_left (by omega)] at h2
    exact h.2 i c e h1 h2
  · rw [List.getElem?_append_right (by omega)] at h1
    rw [List.getElem?_append_right (by omega), ← hl] at h2
    exact k.2 _ c e h1 h2
theorem Cs.keep (h : Cs w S cs ds) (hk : Kept2 S S' w w') : Cs w' S' cs ds := ⟨h.1, fun i c e h1 h2 => (h.2 i c e h1 h2).keep hk⟩
theorem Cs.one (h : Cs w S cs ds) : ∀ u ∈ cs, u.oneCell' = true := fun u hu => by
  obtain ⟨i, hi, rfl⟩ := List.mem_iff_getElem.1 hu
  exact (h.2 i _ _ (List.getElem?_eq_getElem hi) (List.getElem?_eq_getElem (by rw [← h.1]; exact hi))).one
end
theorem row_keep {w w' : World} {base e sz n : Nat} {v : Value} {cs : List Value} (h : w.ownsRow base e sz v n cs) (hk : ∀ k, v.ownBlock = some k → w'.heap[k]? = w.heap[k]?) : w'.ownsRow base e sz v n cs := by
  refine ⟨h.1, h.2.imp id ?_⟩
  rintro ⟨b, cap, cur, rfl, hb, hg, h1, h2, h3, h4⟩
  exact ⟨b, cap, cur, rfl, hb, (hk b rfl).trans hg, h1, h2, h3, h4⟩
theorem own_ls {T : Type} [Cl T] {w : World} {base e : Nat} {v : Value} {l : List T} {cs : List Value} {S : Nat → Prop} (h : w.ownsRow base e (Cl.sz T) v l.length cs) (hS : ∀ k, v.ownBlock = some k → S k) (hc : Cs w S cs (cD l)) : Ls w S v l := by
  rcases h.2 with ⟨rfl, hn⟩ | ⟨g, cap, cur, rfl, hb, hg, h1, h2, h3, h4⟩
  · obtain rfl := List.eq_nil_of_length_eq_zero hn
    exact Ls.nil _ _
  · have hcells := World.ownsRow.cells h (g := g) rfl
    refine Lies.l (some ⟨g, 0, none⟩) (Cl.sz T) l.length cap cs (cD l) hc.1 h.1 h1 h2 (.inr ⟨g, 0, rfl, ⟨hS g rfl, (Array.getElem?_eq_some_iff.1 hg).1⟩, fun j u hu => ?_⟩) fun i hi => ?_
    · have := hcells j u hu
      rwa [Addr.add_lit] at this
    · exact hc.2 i _ _ (List.getElem?_eq_getElem (by rw [hc.1]; exact hi)) (List.getElem?_eq_getElem hi)
structure Rw {T : Type} [Cl T] (w : World) (base e : Nat) (v : Value) (k : Nat) (acc : List T) : Prop where
  ex : ∃ cs, w.ownsRow base e (Cl.sz T) v k cs ∧ Cs w (fun x => base ≤ x ∧ v.ownBlock ≠ some x) cs (cD acc)
  len : acc.length = k
section
variable {T : Type} [Cl T] {w w' : World} {base e k : Nat} {v : Value} {acc : List T}
theorem Rw.none (w : World) (base e : Nat) : Rw w base e (.slice none 0 0) 0 ([] : List T) := ⟨⟨[], World.ownsRow_nil w _ _ _, Cs.nil⟩, rfl⟩
theorem Rw.ls (h : Rw w base e v k acc) : Ls w (fun x => base ≤ x) v acc := by
  obtain ⟨⟨cs, h1, h2⟩, rfl⟩ := h
  exact own_ls h1 (fun k hk => (World.ownsRow.lt h1 k hk).1) (h2.keep fun b h _ => ⟨h.1, by assumption, rfl⟩)
theorem Rw.fr (h : Rw w base e v k acc) {O O' : Nat → Prop} (hf : Fr O O' w w') (hO : ∀ x, O x → x < base) : Rw w' base e v k acc := by
  obtain ⟨⟨cs, h1, h2⟩, h3⟩ := h
  refine ⟨⟨cs, row_keep h1 fun x hx => hf.block x (World.ownsRow.lt h1 x hx).2 fun ho => ?_, h2.keep (hf.kept fun b hb ho => ?_)⟩, h3⟩
  · have := hO x ho; have := (World.ownsRow.lt h1 x hx).1; omega
  · have := hO b ho; have := hb.1; omega
theorem Rw.form (h : Rw w base e v k acc) : ∃ A cap, v = .slice A k cap := by
  obtain ⟨⟨cs, h1, _⟩, _⟩ := h
  exact own_form h1
theorem Rw.all (h : Rw w base e v k acc) (hb : Below w.heap.size w w') : Rw w' base e v k acc := by
  obtain ⟨⟨cs, h1, h2⟩, h3⟩ := h
  exact ⟨⟨cs, own_all h1 hb, h2.keep (.below hb)⟩, h3⟩
theorem Rw.more {y : T} {ce : List Value} {v' : Value} {N : Nat} (h : Rw w base e v k acc) (hy : Cs w (fun x => N ≤ x) ce (Cl.c y)) (hN : ∀ x, v.ownBlock = some x → x < N) (hbN : base ≤ N) {cs : List Value} (hcc : Cs w (fun x => base ≤ x ∧ v.ownBlock ≠ some x) cs (cD acc))
    (ho : w'.ownsRow base e (Cl.sz T) v' (k + 1) (cs ++ ce)) (hg : w.grownBy w' v.ownBlock) (hat : v'.ownBlock = v.ownBlock ∨ v'.ownBlock = some w.heap.size) : Rw w' base e v' (k + 1) (acc ++ [y]) := by
  have hne : ∀ b, b < w.heap.size → v.ownBlock ≠ some b → v'.ownBlock ≠ some b := fun b hb hn => by
    rcases hat with h | h
    · rw [h]; exact hn
    · rw [h]; intro e; simp at e; omega
  refine ⟨⟨cs ++ ce, ho, ?_⟩, by rw [List.length_append, h.len]; rfl⟩
  have e1 : cD (acc ++ [y]) = cD acc ++ Cl.c y := by unfold cD; rw [List.flatMap_append]; simp
  rw [e1]
  refine (hcc.keep (.grown hg fun b hb hl => ⟨fun e => hb.2 e.symm, hb.1, hne b hl hb.2⟩)).app (hy.keep (.grown hg fun b hb hl => ⟨fun e => ?_, Nat.le_trans hbN hb, hne b hl fun e => ?_⟩))
  · have := hN b e.symm; omega
  · have := hN b e; omega
end
theorem rU_le (most e : Nat) (s : RS) : (rU most e s).1 ≤ most := by
  unfold rU
  by_cases h : most < (rdNum s.l s.n).1
  · rw [if_pos h]; simp
  · rw [if_neg h]; omega
def RlT {T : Type} [Cl T] (B g q : Nat) (w : World) (r : List T × RS) (d : Int) (e : Ending) (w' : World) : Prop := ∃ v, e = .returned v ∧ Ls w' (fun k => w.heap.size ≤ k) v r.1 ∧ Rr w' B g q r.2 d ∧ Fr (gq g q) (gq g q) w w'
theorem cell_of {w : World} {x : Nat} {t : TypeId} {cs : Array Value} {v : Value} (h : Bk w x t cs) (i : Nat) (e : cs[i]? = some v) : w.cell? ⟨x, i, none⟩ = some v := (h.cell i).trans e
theorem rr_cell0 {w : World} {B g q : Nat} {s : RS} {d : Int} (h : Rr w B g q s d) : w.cell? ⟨g, 0, none⟩ = some (.pointer (some ⟨q, 0, none⟩)) := by have := h.1.cell 0; simpa using this
theorem rr_set {w : World} {B g q x : Nat} {s : RS} {d : Int} (h : Rr w B g q s d) (hx : B ≤ x) (i : Nat) (u : Value) : Rr (w.setCell ⟨x, i, none⟩ u) B g q s d := h.grown (grownBy_set i u) fun k e => by simp at e; omega
theorem ls_set {T : Type} [Cl T] {w : World} {S : Nat → Prop} {v : Value} {l : List T} {x : Nat} (h : Ls w S v l) (hx : ∀ k, S k → k ≠ x) (i : Nat) (u : Value) : Ls (w.setCell ⟨x, i, none⟩ u) S v l :=
  h.keep (.grown (grownBy_set i u) fun b hb _ => ⟨fun e => by simp at e; exact hx b hb e, hb⟩)
theorem bk_fr {w w' : World} {O O' : Nat → Prop} {x : Nat} {t : TypeId} {cs : Array Value} (h : Bk w x t cs) (hb : Fr O O' w w') (hn : ¬ O x) : Bk w' x t cs := (hb.block x h.lt hn).trans h
def RattrT (B g q : Nat) (w : World) (s : RS) (d : Int) (e : Ending) (w' : World) : Prop := e = .returned (.agg #[.string (rAt s).1.n, .string (rAt s).1.v]) ∧ Rr w' B g q (rAt s).2 d ∧ Fr (gq g q) (gq g q) w w'
set_option maxRecDepth 100000 in
set_option maxHeartbeats 4000000 in
theorem rattr_any (w : World) (B g q : Nat) (s : RS) (d : Int) (h : Rr w B g q s d) : Calls Tryz.prog 61 #[.pointer (some ⟨g, 0, none⟩)] w (RattrT B g q w s d) := by
  obtain ⟨⟨y1, s1⟩, e1⟩ : ∃ x, Hid (x = rT s) := ⟨_, Lib.hid rfl⟩
  obtain ⟨⟨y2, s2⟩, e2⟩ : ∃ x, Hid (x = rT s1) := ⟨_, Lib.hid rfl⟩
  have hR : Hid (rAt s = (At.mk y1 y2, s2)) := by show _ = _; simp only [rAt, rS2, ← e1.out, ← e2.out]
  have hlo := Lib.hid h.lo
  have hbs := h.base
  obtain ⟨x0, hx0⟩ : ∃ x0, Hid (x0 = w.heap.size) := ⟨_, Lib.hid rfl⟩
  obtain ⟨W0, hW0⟩ : ∃ x, Hid (x = w.alloc (.cells #[.string ⟨#[]⟩, .string ⟨#[]⟩] 118)) := ⟨_, Lib.hid rfl⟩
  have H0 : Hid (Rr W0.drew B g q s d) := by show Rr _ _ _ _ _ _; rw [hW0.out]; exact (h.alloc _).drew
  have B0 : Hid (Fr (gq g q) (gq g q) w W0.drew) := by show Fr _ _ _ _; rw [hW0.out]; exact ((Fr.refl h.own).alloc _).drewN 1
  have K0 : Hid (Bk W0.drew x0 118 #[.string ⟨#[]⟩, .string ⟨#[]⟩]) := by show Bk _ _ _ _; rw [hW0.out, hx0.out]; exact (Bk.new _ _ _).drew
  have hnx : ¬ gq g q x0 := fun hh => by have := hlo.out _ hh; have := hx0.out; omega
  have hxB : B ≤ x0 := by rw [hx0.out]; exact hbs
  have hxw : w.heap.size ≤ x0 := by rw [hx0.out]; exact Nat.le_refl _
  have hx1 : Hid (x0 + 1 ≤ W0.drew.heap.size) := by show x0 + 1 ≤ W0.heap.size; rw [hW0.out, hx0.out]; simp
  have pw := rr_cell0 h
  have hgl : g < w.heap.size := h.own g (.inl rfl)
  have p0 : W0.drew.cell? ⟨g, 0, none⟩ = some (.pointer (some ⟨q, 0, none⟩)) := rr_cell0 H0.out
  have hgq : ∀ k, x0 < k → ¬ gq g q k := fun k hk hh => by have := hlo.out _ hh; omega
  have HGQ := Lib.hid hgq
  clear h hgq
  go_enter Tryz.func61, Tryz.ntmps61
  go_wp2_with fail
  rw [← hW0.out, ← hx0.out]
  go_region_law (first
    | (go_simp; (try go_at_call 59); have KK := rpiece_any W0.drew B g q s d H0.out; rw [← e1.out] at KK; refine KK.mono ?_; clear KK; rintro e W1 ⟨rfl, h1, f1⟩; dsimp only at h1 ⊢; have z1 : Hid (W0.drew.heap.size ≤ W1.heap.size) := f1.size; have B1 := Lib.hid (B0.out.trans f1); have K1 := Lib.hid (bk_fr K0.out f1 hnx); have H1 := Lib.hid h1; have p1 := rr_cell0 h1; clear h1 f1)
    | (go_simp; (try go_at_call 59); have KK := rpiece_any W1 B g q s1 d H1.out; rw [← e2.out] at KK; refine KK.mono ?_; clear KK; rintro e W2 ⟨rfl, h2, f2⟩; dsimp only at h2 ⊢; have z2 : Hid (W0.drew.heap.size ≤ W2.heap.size) := Nat.le_trans z1.out f2.size; have B2 := Lib.hid (B1.out.trans f2); have K2 := Lib.hid (bk_fr K1.out f2 hnx); have H2 := Lib.hid h2; have p2 := rr_cell0 h2; clear h2 f2; have t0 : W2.cell? ⟨x0, 0, none⟩ = some (.string ⟨#[]⟩) := cell_of K2.out 0 rfl; have u0 := K2.out.frozen 0; have t1 : W2.cell? ⟨x0, 1, none⟩ = some (.string ⟨#[]⟩) := cell_of K2.out 1 rfl; have u1 := K2.out.frozen 1)
    | fail)
  all_goals
    obtain ⟨Wf, hWf⟩ : ∃ x, Hid (x = ((W2.setCell ⟨x0, 0, none⟩ (.string y1)).setCell ⟨x0, 1, none⟩ (.string y2))) := ⟨_, Lib.hid rfl⟩
    have BF : Hid (Fr (gq g q) (gq g q) w Wf) := by show Fr _ _ _ _; rw [hWf.out]; exact ((B2.out.set (p := ⟨x0, 0, none⟩) (.inr hxw) (.string y1)).set (p := ⟨x0, 1, none⟩) (.inr hxw) (.string y2))
    have HF : Hid (Rr Wf B g q s2 d) := by show Rr _ _ _ _ _ _; rw [hWf.out]; exact (rr_set (rr_set H2.out hxB 0 (.string y1)) hxB 1 (.string y2))
    have KF : Hid (Bk Wf x0 118 #[.string y1, .string y2]) := by show Bk _ _ _ _; rw [hWf.out]; simpa using ((K2.out.set 0 (.string y1)).set 1 (.string y2))
    have o0 : Wf.cell? ⟨x0, 0, none⟩ = some (.string y1) := by have := KF.out.cell 0; simpa using this
    have o1 : Wf.cell? ⟨x0, 1, none⟩ = some (.string y2) := by have := KF.out.cell 1; simpa using this
    clear B0 K0 H0 B1 K1 H1 B2 K2 H2 KF
    go_wp2
    try rw [← hWf.out]
    refine bodyPost_ret (v := .agg #[.string y1, .string y2]) (by simp [results, Tryz.results61, go_sem, o0, o1]) rfl ?_
    unfold RattrT
    rw [hR.out]
    exact ⟨rfl, HF.out, BF.out⟩
theorem info_at : (Tryz.prog.info? 118).map (fun i => (i.zero, i.size, i.bytes)) = some (some (.agg #[.string .empty, .string .empty]), 2, 32) := by kernel_rfl
set_option maxRecDepth 100000 in
set_option maxHeartbeats 2000000 in
theorem rl_at (w : World) (B g q : Nat) (s : RS) (d : Int) (h : Rr w B g q s d) :
    Calls Tryz.prog 60 #[.pointer (some ⟨g, 0, none⟩), .func (.func 61) #[] #[]] w (RlT B g q w (rL rAt s) d) := by
  have hN := rU_le 65536 3 s
  have HL : Hid (rL rAt s = rLoop rAt (rU 65536 3 s).1 [] (rU 65536 3 s).2) := rfl
  have HU := Lib.hid (upTo_any w B g q s d h 65536 3 (by decide))
  obtain ⟨⟨N, s1⟩, hr⟩ : ∃ x, x = rU 65536 3 s := ⟨_, rfl⟩
  rw [← hr] at hN HL HU
  clear hr
  simp only at hN
  obtain ⟨R, hR⟩ : ∃ x, Hid (x = rL rAt s) := ⟨_, Lib.hid rfl⟩
  rw [← hR.out]
  have HR : Hid (R = rLoop rAt N [] s1) := hR.out.trans HL.out
  have hlo := Lib.hid h.lo
  have hbs := h.base
  clear hR HL h
  go_enter Tryz.func60, Tryz.ntmps60
  go_wp2_with fail
  refine HU.out.mono ?_
  rintro e w1 ⟨rfl, h1, f1⟩
  have H1 := Lib.hid h1
  have F1 := Lib.hid f1
  clear h1 f1 HU
  go_wp2
  go_loopg [5, 8] N (fun n s5 s8 wk => ∃ (k : Nat) (v5 : Value) (acc : List At) (st : RS), k ≤ N ∧ n = N - k ∧ s5 = v5 ∧ s8 = .int .i64 k ∧ Hid (Rw wk w.heap.size 118 v5 k acc) ∧ Hid (Rr wk B g q st d) ∧ Hid (Fr (gq g q) (gq g q) w wk) ∧ Hid (R = rLoop rAt (N - k) acc st))
  case atStart => exact ⟨0, _, [], s1, Nat.zero_le _, by omega, rfl, rfl, Rw.none _ _ _, H1.out, F1.out, HR.out⟩
  case round =>
    obtain ⟨k, v5, acc, st, hk, hn, h5, rfl, hrw, hrr, hfr, hres⟩ := hrel
    have h5 := h5.symm
    subst h5
    have HG := Lib.hid hn
    clear hn HR H1 F1
    by_cases hlt : k < N
    · have hi1 : (k : Int) < (N : Int) := by omega
      obtain ⟨m, hm⟩ : ∃ m, Hid (N - k = m + 1) := ⟨N - k - 1, by show _ = _; omega⟩
      have hm2 : Hid (N - (k + 1) = m) := by show _ = _; have := hm.out; omega
      go_wp2_with fail
      refine (well_any wr B g q st d hrr.out).mono ?_
      rintro e w' ⟨rfl, rfl⟩
      by_cases hw : st.n = 0 ∧ st.f = 0
      · have hwt : decide (st.n = 0 ∧ st.f = 0) = true := by simpa using hw
        have hnext : Hid (R = rLoop rAt m (acc ++ [(rAt st).1]) (rAt st).2) := by show _ = _; rw [hres.out, hm.out, rLoop, if_pos hw]
        rw [hwt]
        clear hres hw hwt
        obtain ⟨⟨y, st2⟩, hy⟩ : ∃ x, x = rAt st := ⟨_, rfl⟩
        have HE := rattr_any wr B g q st d hrr.out
        unfold RattrT at HE; rw [← hy] at hnext HE
        have HE := Lib.hid HE
        clear hy
        go_wp2_with fail
        refine HE.out.mono ?_
        rintro e w2 ⟨rfl, hr1, hf1⟩
        try dsimp only at hr1 
        have hce : Hid (Cs w2 (fun x => wr.heap.size ≤ x) [.string y.n, .string y.v] (Cl.c y)) := by show Cs _ _ _ _; exact Cs.cons (.v _ rfl) (Cs.cons (.v _ rfl) (Cs.nil))
        have hrw2 := hrw.out.fr hf1 fun x hx => Nat.lt_of_lt_of_le (hlo.out x hx) hbs
        have hle : w.heap.size ≤ wr.heap.size := hfr.out.size
        have hle2 : wr.heap.size ≤ w2.heap.size := hf1.size
        have HR2 := Lib.hid hr1
        have HF2 := Lib.hid (hfr.out.trans hf1)
        obtain ⟨cs, ho, hcc⟩ := hrw2.ex
        have hvlt : ∀ x, v5.ownBlock = some x → x < wr.heap.size := fun x hx => by
          obtain ⟨cs', ho', _⟩ := hrw.out.ex
          exact (World.ownsRow.lt ho' x hx).2
        have HV := Lib.hid hvlt
        have HRW := Lib.hid hrw2
        have HCC := Lib.hid hcc
        have HO := Lib.hid ho
        clear hr1 hf1 hrr hfr hrw hrw2 hcc hvlt ho HE 
        go_wp2_with (at_builtin; refine wpList_appR _ rfl _ _ 22 118 rfl _ 2 32 Tryz.underlying22 info_at rfl (by decide) w.heap.size rfl rfl (World.ownsRow.alloc HO.out _) (Rd.lit w2 118 2 1 #[.string y.n, .string y.v] (0, 0) rfl (by omega)) (by simp [Value.oneCell']) ?_ ?_ ?_ ?_)
        · unfold maxLen; omega
        · omega
        · simp; omega
        intro v' w4 ho4 hg4 hat
        have hal : Below w2.heap.size w2 (w2.alloc (.cells #[.string y.n, .string y.v] 118)) := (Below.refl _ _).alloc (Nat.le_refl _) _
        have H4 : Hid (Rw w4 w.heap.size 118 v' (k + 1) (acc ++ [y])) := by
          refine Rw.more (w := w2.alloc (.cells #[.string y.n, .string y.v] 118)) (N := wr.heap.size) (HRW.out.all hal) (hce.out.keep (.below hal)) HV.out hle (HCC.out.keep (.below hal)) (by show World.ownsRow w4 w.heap.size _ 2 _ _ _; simpa using ho4) hg4 (by simpa using hat)
        have R4 : Hid (Rr w4 B g q st2 d) := (HR2.out.all hal).grown hg4 fun x hx => Nat.le_trans hbs (World.ownsRow.lt HO.out x hx).1
        have F4 : Hid (Fr (gq g q) (gq g q) w w4) := (HF2.out.alloc _).grown hg4 fun x hx => .inr (World.ownsRow.lt HO.out x hx).1
        clear ho4 hg4 hat HRW HCC HR2 HF2 HO hal HV hce
        go_wp2
        go_roundg (N - (k + 1))
        case measure => have := HG.out; omega
        case rel => exact ⟨k + 1, v', acc ++ [y], st2, by omega, rfl, rfl, by go_num, H4, R4, F4, by show _ = _; rw [hm2.out]; exact hnext.out⟩
      · have hwt : decide (st.n = 0 ∧ st.f = 0) = false := by simpa using hw
        have hend : Hid (R = ([], st)) := by show _ = _; rw [hres.out, hm.out, rLoop, if_neg hw]
        rw [hwt]
        clear hres hw hwt
        go_wp2
        go_ret
        exact ⟨_, rfl, by rw [hend.out]; exact Ls.nil _ _, by rw [hend.out]; exact hrr.out, hfr.out⟩
    · have hi1 : ¬ (k : Int) < (N : Int) := by omega
      have hend : Hid (R = (acc, st)) := by show _ = _; rw [hres.out, show N - k = 0 by omega, rLoop]
      go_wp2
      go_ret
      exact ⟨_, rfl, by rw [hend.out]; exact hrw.out.ls, by rw [hend.out]; exact hrr.out, hfr.out⟩
def RmarkT (B g q : Nat) (w : World) (s : RS) (d : Int) (e : Ending) (w' : World) : Prop := ∃ va : Value, e = .returned (.agg #[.string (rMk s).1.t, va]) ∧ Ls w' (fun k => w.heap.size ≤ k) va (rMk s).1.a ∧ Rr w' B g q (rMk s).2 d ∧ Fr (gq g q) (gq g q) w w'
set_option maxRecDepth 100000 in
set_option maxHeartbeats 4000000 in
theorem rmark_any (w : World) (B g q : Nat) (s : RS) (d : Int) (h : Rr w B g q s d) : Calls Tryz.prog 63 #[.pointer (some ⟨g, 0, none⟩)] w (RmarkT B g q w s d) := by
  obtain ⟨⟨y1, s1⟩, e1⟩ : ∃ x, Hid (x = rT s) := ⟨_, Lib.hid rfl⟩
  obtain ⟨⟨y2, s2⟩, e2⟩ : ∃ x, Hid (x = (rL rAt) s1) := ⟨_, Lib.hid rfl⟩
  have hR : Hid (rMk s = (Mk.mk y1 y2, s2)) := by show _ = _; simp only [rMk, rS2, ← e1.out, ← e2.out]
  have hlo := Lib.hid h.lo
  have hbs := h.base
  obtain ⟨x0, hx0⟩ : ∃ x0, Hid (x0 = w.heap.size) := ⟨_, Lib.hid rfl⟩
  obtain ⟨W0, hW0⟩ : ∃ x, Hid (x = w.alloc (.cells #[.string ⟨#[]⟩, .slice none 0 0] 60)) := ⟨_, Lib.hid rfl⟩
  have H0 : Hid (Rr W0 B g q s d) := by show Rr _ _ _ _ _ _; rw [hW0.out]; exact (h.alloc _)
  have B0 : Hid (Fr (gq g q) (gq g q) w W0) := by show Fr _ _ _ _; rw [hW0.out]; exact ((Fr.refl h.own).alloc _)
  have K0 : Hid (Bk W0 x0 60 #[.string ⟨#[]⟩, .slice none 0 0]) := by show Bk _ _ _ _; rw [hW0.out, hx0.out]; exact (Bk.new _ _ _)
  have hnx : ¬ gq g q x0 := fun hh => by have := hlo.out _ hh; have := hx0.out; omega
  have hxB : B ≤ x0 := by rw [hx0.out]; exact hbs
  have hxw : w.heap.size ≤ x0 := by rw [hx0.out]; exact Nat.le_refl _
  have hx1 : Hid (x0 + 1 ≤ W0.heap.size) := by show x0 + 1 ≤ W0.heap.size; rw [hW0.out, hx0.out]; simp
  have pw := rr_cell0 h
  have hgl : g < w.heap.size := h.own g (.inl rfl)
  have p0 : W0.cell? ⟨g, 0, none⟩ = some (.pointer (some ⟨q, 0, none⟩)) := rr_cell0 H0.out
  have hgq : ∀ k, x0 < k → ¬ gq g q k := fun k hk hh => by have := hlo.out _ hh; omega
  have HGQ := Lib.hid hgq
  clear h hgq
  go_enter Tryz.func63, Tryz.ntmps63
  go_wp2_with fail
  rw [← hW0.out, ← hx0.out]
  have KK := rpiece_any W0 B g q s d H0.out
  rw [← e1.out] at KK
  refine KK.mono ?_
  clear KK
  rintro e W1 ⟨rfl, h1, f1⟩
  dsimp only at h1 ⊢
  have z1 : Hid (W0.heap.size ≤ W1.heap.size) := f1.size
  have B1 := Lib.hid (B0.out.trans f1)
  have K1 := Lib.hid (bk_fr K0.out f1 hnx)
  have H1 := Lib.hid h1
  have p1 := rr_cell0 h1
  clear h1 f1
  go_wp2_with fail
  have KK := rl_at W1 B g q s1 d H1.out
  rw [← e2.out] at KK
  refine KK.mono ?_
  clear KK
  rintro e W2 ⟨va, rfl, ra, h2, f2⟩
  dsimp only at h2 ra ⊢
  obtain ⟨Aa, ca, rfl⟩ := ra.form
  have Ra2 : Hid (Ls W2 (fun k => x0 < k) _ y2) := ra.mono fun b hb _ => Nat.lt_of_lt_of_le (Nat.lt_of_succ_le hx1.out) (Nat.le_trans z1.out hb)
  clear ra
  have z2 : Hid (W0.heap.size ≤ W2.heap.size) := Nat.le_trans z1.out f2.size
  have B2 := Lib.hid (B1.out.trans f2)
  have K2 := Lib.hid (bk_fr K1.out f2 hnx)
  have H2 := Lib.hid h2
  have p2 := rr_cell0 h2
  clear h2 f2
  have t0 : W2.cell? ⟨x0, 0, none⟩ = some (.string ⟨#[]⟩) := cell_of K2.out 0 rfl
  have u0 := K2.out.frozen 0
  have t1 : W2.cell? ⟨x0, 1, none⟩ = some (.slice none 0 0) := cell_of K2.out 1 rfl
  have u1 := K2.out.frozen 1
  all_goals
    obtain ⟨Wf, hWf⟩ : ∃ x, Hid (x = ((W2.setCell ⟨x0, 0, none⟩ (.string y1)).setCell ⟨x0, 1, none⟩ (.slice Aa y2.length ca))) := ⟨_, Lib.hid rfl⟩
    have BF : Hid (Fr (gq g q) (gq g q) w Wf) := by show Fr _ _ _ _; rw [hWf.out]; exact ((B2.out.set (p := ⟨x0, 0, none⟩) (.inr hxw) (.string y1)).set (p := ⟨x0, 1, none⟩) (.inr hxw) (.slice Aa y2.length ca))
    have HF : Hid (Rr Wf B g q s2 d) := by show Rr _ _ _ _ _ _; rw [hWf.out]; exact (rr_set (rr_set H2.out hxB 0 (.string y1)) hxB 1 (.slice Aa y2.length ca))
    have KF : Hid (Bk Wf x0 60 #[.string y1, .slice Aa y2.length ca]) := by show Bk _ _ _ _; rw [hWf.out]; simpa using ((K2.out.set 0 (.string y1)).set 1 (.slice Aa y2.length ca))
    have La : Hid (Ls Wf (fun k => w.heap.size ≤ k) (.slice Aa y2.length ca) y2) := by show Ls _ _ _ _; rw [hWf.out]; exact (ls_set (ls_set Ra2.out (fun k hk => by omega) 0 (.string y1)) (fun k hk => by omega) 1 (.slice Aa y2.length ca)).mono fun b hb _ => by omega
    have o0 : Wf.cell? ⟨x0, 0, none⟩ = some (.string y1) := by have := KF.out.cell 0; simpa using this
    have o1 : Wf.cell? ⟨x0, 1, none⟩ = some (.slice Aa y2.length ca) := by have := KF.out.cell 1; simpa using this
    clear B0 K0 H0 B1 K1 H1 B2 K2 H2 KF
    go_wp2
    try rw [← hWf.out]
    refine bodyPost_ret (v := .agg #[.string y1, .slice Aa y2.length ca]) (by simp [results, Tryz.results63, go_sem, o0, o1]) rfl ?_
    unfold RmarkT
    rw [hR.out]
    exact ⟨_, rfl, La.out, HF.out, BF.out⟩
theorem info_mk : (Tryz.prog.info? 60).map (fun i => (i.zero, i.size, i.bytes)) = some (some (.agg #[.string .empty, .slice none 0 0]), 2, 40) := by kernel_rfl
set_option maxRecDepth 100000 in
set_option maxHeartbeats 2000000 in
theorem rl_mk (w : World) (B g q : Nat) (s : RS) (d : Int) (h : Rr w B g q s d) :
    Calls Tryz.prog 62 #[.pointer (some ⟨g, 0, none⟩), .func (.func 63) #[] #[]] w (RlT B g q w (rL rMk s) d) := by
  have hN := rU_le 65536 3 s
  have HL : Hid (rL rMk s = rLoop rMk (rU 65536 3 s).1 [] (rU 65536 3 s).2) := rfl
  have HU := Lib.hid (upTo_any w B g q s d h 65536 3 (by decide))
  obtain ⟨⟨N, s1⟩, hr⟩ : ∃ x, x = rU 65536 3 s := ⟨_, rfl⟩
  rw [← hr] at hN HL HU
  clear hr
  simp only at hN
  obtain ⟨R, hR⟩ : ∃ x, Hid (x = rL rMk s) := ⟨_, Lib.hid rfl⟩
  rw [← hR.out]
  have HR : Hid (R = rLoop rMk N [] s1) := hR.out.trans HL.out
  have hlo := Lib.hid h.lo
  have hbs := h.base
  clear hR HL h
  go_enter Tryz.func62, Tryz.ntmps62
  go_wp2_with fail
  refine HU.out.mono ?_
  rintro e w1 ⟨rfl, h1, f1⟩
  have H1 := Lib.hid h1
  have F1 := Lib.hid f1
  clear h1 f1 HU
  go_wp2
  go_loopg [5, 8] N (fun n s5 s8 wk => ∃ (k : Nat) (v5 : Value) (acc : List Mk) (st : RS), k ≤ N ∧ n = N - k ∧ s5 = v5 ∧ s8 = .int .i64 k ∧ Hid (Rw wk w.heap.size 60 v5 k acc) ∧ Hid (Rr wk B g q st d) ∧ Hid (Fr (gq g q) (gq g q) w wk) ∧ Hid (R = rLoop rMk (N - k) acc st))
  case atStart => exact ⟨0, _, [], s1, Nat.zero_le _, by omega, rfl, rfl, Rw.none _ _ _, H1.out, F1.out, HR.out⟩
  case round =>
    obtain ⟨k, v5, acc, st, hk, hn, h5, rfl, hrw, hrr, hfr, hres⟩ := hrel
    have h5 := h5.symm
    subst h5
    have HG := Lib.hid hn
    clear hn HR H1 F1
    by_cases hlt : k < N
    · have hi1 : (k : Int) < (N : Int) := by omega
      obtain ⟨m, hm⟩ : ∃ m, Hid (N - k = m + 1) := ⟨N - k - 1, by show _ = _; omega⟩
      have hm2 : Hid (N - (k + 1) = m) := by show _ = _; have := hm.out; omega
      go_wp2_with fail
      refine (well_any wr B g q st d hrr.out).mono ?_
      rintro e w' ⟨rfl, rfl⟩
      by_cases hw : st.n = 0 ∧ st.f = 0
      · have hwt : decide (st.n = 0 ∧ st.f = 0) = true := by simpa using hw
        have hnext : Hid (R = rLoop rMk m (acc ++ [(rMk st).1]) (rMk st).2) := by show _ = _; rw [hres.out, hm.out, rLoop, if_pos hw]
        rw [hwt]
        clear hres hw hwt
        obtain ⟨⟨y, st2⟩, hy⟩ : ∃ x, x = rMk st := ⟨_, rfl⟩
        have HE := rmark_any wr B g q st d hrr.out
        unfold RmarkT at HE; rw [← hy] at hnext HE
        have HE := Lib.hid HE
        clear hy
        go_wp2_with fail
        refine HE.out.mono ?_
        rintro e w2 ⟨va, rfl, rva, hr1, hf1⟩
        try dsimp only at hr1 rva
        obtain ⟨Ava, cva, rfl⟩ := rva.form
        have hce : Hid (Cs w2 (fun x => wr.heap.size ≤ x) [.string y.t, .slice Ava y.a.length cva] (Cl.c y)) := by show Cs _ _ _ _; exact Cs.cons (.v _ rfl) (Cs.cons rva (Cs.nil))
        have hrw2 := hrw.out.fr hf1 fun x hx => Nat.lt_of_lt_of_le (hlo.out x hx) hbs
        have hle : w.heap.size ≤ wr.heap.size := hfr.out.size
        have hle2 : wr.heap.size ≤ w2.heap.size := hf1.size
        have HR2 := Lib.hid hr1
        have HF2 := Lib.hid (hfr.out.trans hf1)
        obtain ⟨cs, ho, hcc⟩ := hrw2.ex
        have hvlt : ∀ x, v5.ownBlock = some x → x < wr.heap.size := fun x hx => by
          obtain ⟨cs', ho', _⟩ := hrw.out.ex
          exact (World.ownsRow.lt ho' x hx).2
        have HV := Lib.hid hvlt
        have HRW := Lib.hid hrw2
        have HCC := Lib.hid hcc
        have HO := Lib.hid ho
        clear hr1 hf1 hrr hfr hrw hrw2 hcc hvlt ho HE rva
        go_wp2_with (at_builtin; refine wpList_appR _ rfl _ _ 23 60 rfl _ 2 40 Tryz.underlying23 info_mk rfl (by decide) w.heap.size rfl rfl (World.ownsRow.alloc HO.out _) (Rd.lit w2 60 2 1 #[.string y.t, .slice Ava y.a.length cva] (0, 0) rfl (by omega)) (by simp [Value.oneCell']) ?_ ?_ ?_ ?_)
        · unfold maxLen; omega
        · omega
        · simp; omega
        intro v' w4 ho4 hg4 hat
        have hal : Below w2.heap.size w2 (w2.alloc (.cells #[.string y.t, .slice Ava y.a.length cva] 60)) := (Below.refl _ _).alloc (Nat.le_refl _) _
        have H4 : Hid (Rw w4 w.heap.size 60 v' (k + 1) (acc ++ [y])) := by
          refine Rw.more (w := w2.alloc (.cells #[.string y.t, .slice Ava y.a.length cva] 60)) (N := wr.heap.size) (HRW.out.all hal) (hce.out.keep (.below hal)) HV.out hle (HCC.out.keep (.below hal)) (by show World.ownsRow w4 w.heap.size _ 2 _ _ _; simpa using ho4) hg4 (by simpa using hat)
        have R4 : Hid (Rr w4 B g q st2 d) := (HR2.out.all hal).grown hg4 fun x hx => Nat.le_trans hbs (World.ownsRow.lt HO.out x hx).1
        have F4 : Hid (Fr (gq g q) (gq g q) w w4) := (HF2.out.alloc _).grown hg4 fun x hx => .inr (World.ownsRow.lt HO.out x hx).1
        clear ho4 hg4 hat HRW HCC HR2 HF2 HO hal HV hce
        go_wp2
        go_roundg (N - (k + 1))
        case measure => have := HG.out; omega
        case rel => exact ⟨k + 1, v', acc ++ [y], st2, by omega, rfl, rfl, by go_num, H4, R4, F4, by show _ = _; rw [hm2.out]; exact hnext.out⟩
      · have hwt : decide (st.n = 0 ∧ st.f = 0) = false := by simpa using hw
        have hend : Hid (R = ([], st)) := by show _ = _; rw [hres.out, hm.out, rLoop, if_neg hw]
        rw [hwt]
        clear hres hw hwt
        go_wp2
        go_ret
        exact ⟨_, rfl, by rw [hend.out]; exact Ls.nil _ _, by rw [hend.out]; exact hrr.out, hfr.out⟩
    · have hi1 : ¬ (k : Int) < (N : Int) := by omega
      have hend : Hid (R = (acc, st)) := by show _ = _; rw [hres.out, show N - k = 0 by omega, rLoop]
      go_wp2
      go_ret
      exact ⟨_, rfl, by rw [hend.out]; exact hrw.out.ls, by rw [hend.out]; exact hrr.out, hfr.out⟩
def RspecT (B g q : Nat) (w : World) (s : RS) (d : Int) (e : Ending) (w' : World) : Prop := e = .returned (.agg #[.string (rSp s).1.n, .string (rSp s).1.d, .bool (rSp s).1.m]) ∧ Rr w' B g q (rSp s).2 d ∧ Fr (gq g q) (gq g q) w w'
set_option maxRecDepth 100000 in
set_option maxHeartbeats 4000000 in
theorem rspec_any (w : World) (B g q : Nat) (s : RS) (d : Int) (h : Rr w B g q s d) : Calls Tryz.prog 96 #[.pointer (some ⟨g, 0, none⟩)] w (RspecT B g q w s d) := by
  obtain ⟨⟨y1, s1⟩, e1⟩ : ∃ x, Hid (x = rT s) := ⟨_, Lib.hid rfl⟩
  obtain ⟨⟨y2, s2⟩, e2⟩ : ∃ x, Hid (x = rT s1) := ⟨_, Lib.hid rfl⟩
  obtain ⟨⟨y3, s3⟩, e3⟩ : ∃ x, Hid (x = rB s2) := ⟨_, Lib.hid rfl⟩
  have hR : Hid (rSp s = (Sp.mk y1 y2 y3, s3)) := by show _ = _; simp only [rSp, rS3, ← e1.out, ← e2.out, ← e3.out]
  have hlo := Lib.hid h.lo
  have hbs := h.base
  obtain ⟨x0, hx0⟩ : ∃ x0, Hid (x0 = w.heap.size) := ⟨_, Lib.hid rfl⟩
  obtain ⟨W0, hW0⟩ : ∃ x, Hid (x = w.alloc (.cells #[.string ⟨#[]⟩, .string ⟨#[]⟩, .bool false] 169)) := ⟨_, Lib.hid rfl⟩
  have H0 : Hid (Rr W0.drew B g q s d) := by show Rr _ _ _ _ _ _; rw [hW0.out]; exact (h.alloc _).drew
  have B0 : Hid (Fr (gq g q) (gq g q) w W0.drew) := by show Fr _ _ _ _; rw [hW0.out]; exact ((Fr.refl h.own).alloc _).drewN 1
  have K0 : Hid (Bk W0.drew x0 169 #[.string ⟨#[]⟩, .string ⟨#[]⟩, .bool false]) := by show Bk _ _ _ _; rw [hW0.out, hx0.out]; exact (Bk.new _ _ _).drew
  have hnx : ¬ gq g q x0 := fun hh => by have := hlo.out _ hh; have := hx0.out; omega
  have hxB : B ≤ x0 := by rw [hx0.out]; exact hbs
  have hxw : w.heap.size ≤ x0 := by rw [hx0.out]; exact Nat.le_refl _
  have hx1 : Hid (x0 + 1 ≤ W0.drew.heap.size) := by show x0 + 1 ≤ W0.heap.size; rw [hW0.out, hx0.out]; simp
  have pw := rr_cell0 h
  have hgl : g < w.heap.size := h.own g (.inl rfl)
  have p0 : W0.drew.cell? ⟨g, 0, none⟩ = some (.pointer (some ⟨q, 0, none⟩)) := rr_cell0 H0.out
  have hgq : ∀ k, x0 < k → ¬ gq g q k := fun k hk hh => by have := hlo.out _ hh; omega
  have HGQ := Lib.hid hgq
  clear h hgq
  go_enter Tryz.func96, Tryz.ntmps96
  go_wp2_with fail
  rw [← hW0.out, ← hx0.out]
  go_region_law (first
    | (go_simp; (try go_at_call 59); have KK := rpiece_any W0.drew B g q s d H0.out; rw [← e1.out] at KK; refine KK.mono ?_; clear KK; rintro e W1 ⟨rfl, h1, f1⟩; dsimp only at h1 ⊢; have z1 : Hid (W0.drew.heap.size ≤ W1.heap.size) := f1.size; have B1 := Lib.hid (B0.out.trans f1); have K1 := Lib.hid (bk_fr K0.out f1 hnx); have H1 := Lib.hid h1; have p1 := rr_cell0 h1; clear h1 f1)
    | (go_simp; (try go_at_call 59); have KK := rpiece_any W1 B g q s1 d H1.out; rw [← e2.out] at KK; refine KK.mono ?_; clear KK; rintro e W2 ⟨rfl, h2, f2⟩; dsimp only at h2 ⊢; have z2 : Hid (W0.drew.heap.size ≤ W2.heap.size) := Nat.le_trans z1.out f2.size; have B2 := Lib.hid (B1.out.trans f2); have K2 := Lib.hid (bk_fr K1.out f2 hnx); have H2 := Lib.hid h2; have p2 := rr_cell0 h2; clear h2 f2)
    | (go_simp; (try go_at_call 94); have KK := truth_any W2 B g q s2 d H2.out; rw [← e3.out] at KK; refine KK.mono ?_; clear KK; rintro e W3 ⟨rfl, h3, f3⟩; dsimp only at h3 ⊢; have z3 : Hid (W0.drew.heap.size ≤ W3.heap.size) := Nat.le_trans z2.out f3.size; have B3 := Lib.hid (B2.out.trans f3); have K3 := Lib.hid (bk_fr K2.out f3 hnx); have H3 := Lib.hid h3; have p3 := rr_cell0 h3; clear h3 f3; have t0 : W3.cell? ⟨x0, 0, none⟩ = some (.string ⟨#[]⟩) := cell_of K3.out 0 rfl; have u0 := K3.out.frozen 0; have t1 : W3.cell? ⟨x0, 1, none⟩ = some (.string ⟨#[]⟩) := cell_of K3.out 1 rfl; have u1 := K3.out.frozen 1; have t2 : W3.cell? ⟨x0, 2, none⟩ = some (.bool false) := cell_of K3.out 2 rfl; have u2 := K3.out.frozen 2)
    | fail)
  all_goals
    obtain ⟨Wf, hWf⟩ : ∃ x, Hid (x = (((W3.setCell ⟨x0, 0, none⟩ (.string y1)).setCell ⟨x0, 1, none⟩ (.string y2)).setCell ⟨x0, 2, none⟩ (.bool y3))) := ⟨_, Lib.hid rfl⟩
    have BF : Hid (Fr (gq g q) (gq g q) w Wf) := by show Fr _ _ _ _; rw [hWf.out]; exact (((B3.out.set (p := ⟨x0, 0, none⟩) (.inr hxw) (.string y1)).set (p := ⟨x0, 1, none⟩) (.inr hxw) (.string y2)).set (p := ⟨x0, 2, none⟩) (.inr hxw) (.bool y3))
    have HF : Hid (Rr Wf B g q s3 d) := by show Rr _ _ _ _ _ _; rw [hWf.out]; exact (rr_set (rr_set (rr_set H3.out hxB 0 (.string y1)) hxB 1 (.string y2)) hxB 2 (.bool y3))
    have KF : Hid (Bk Wf x0 169 #[.string y1, .string y2, .bool y3]) := by show Bk _ _ _ _; rw [hWf.out]; simpa using (((K3.out.set 0 (.string y1)).set 1 (.string y2)).set 2 (.bool y3))
    have o0 : Wf.cell? ⟨x0, 0, none⟩ = some (.string y1) := by have := KF.out.cell 0; simpa using this
    have o1 : Wf.cell? ⟨x0, 1, none⟩ = some (.string y2) := by have := KF.out.cell 1; simpa using this
    have o2 : Wf.cell? ⟨x0, 2, none⟩ = some (.bool y3) := by have := KF.out.cell 2; simpa using this
    clear B0 K0 H0 B1 K1 H1 B2 K2 H2 B3 K3 H3 KF
    go_wp2
    try rw [← hWf.out]
    refine bodyPost_ret (v := .agg #[.string y1, .string y2, .bool y3]) (by simp [results, Tryz.results96, go_sem, o0, o1, o2]) rfl ?_
    unfold RspecT
    rw [hR.out]
    exact ⟨rfl, HF.out, BF.out⟩
theorem info_sp : (Tryz.prog.info? 169).map (fun i => (i.zero, i.size, i.bytes)) = some (some (.agg #[.string .empty, .string .empty, .bool false]), 3, 40) := by kernel_rfl
set_option maxRecDepth 100000 in
set_option maxHeartbeats 2000000 in
theorem rl_sp (w : World) (B g q : Nat) (s : RS) (d : Int) (h : Rr w B g q s d) :
    Calls Tryz.prog 95 #[.pointer (some ⟨g, 0, none⟩), .func (.func 96) #[] #[]] w (RlT B g q w (rL rSp s) d) := by
  have hN := rU_le 65536 3 s
  have HL : Hid (rL rSp s = rLoop rSp (rU 65536 3 s).1 [] (rU 65536 3 s).2) := rfl
  have HU := Lib.hid (upTo_any w B g q s d h 65536 3 (by decide))
  obtain ⟨⟨N, s1⟩, hr⟩ : ∃ x, x = rU 65536 3 s := ⟨_, rfl⟩
  rw [← hr] at hN HL HU
  clear hr
  simp only at hN
  obtain ⟨R, hR⟩ : ∃ x, Hid (x = rL rSp s) := ⟨_, Lib.hid rfl⟩
  rw [← hR.out]
  have HR : Hid (R = rLoop rSp N [] s1) := hR.out.trans HL.out
  have hlo := Lib.hid h.lo
  have hbs := h.base
  clear hR HL h
  go_enter Tryz.func95, Tryz.ntmps95
  go_wp2_with fail
  refine HU.out.mono ?_
  rintro e w1 ⟨rfl, h1, f1⟩
  have H1 := Lib.hid h1
  have F1 := Lib.hid f1
  clear h1 f1 HU
  go_wp2
  go_loopg [5, 8] N (fun n s5 s8 wk => ∃ (k : Nat) (v5 : Value) (acc : List Sp) (st : RS), k ≤ N ∧ n = N - k ∧ s5 = v5 ∧ s8 = .int .i64 k ∧ Hid (Rw wk w.heap.size 169 v5 k acc) ∧ Hid (Rr wk B g q st d) ∧ Hid (Fr (gq g q) (gq g q) w wk) ∧ Hid (R = rLoop rSp (N - k) acc st))
  case atStart => exact ⟨0, _, [], s1, Nat.zero_le _, by omega, rfl, rfl, Rw.none _ _ _, H1.out, F1.out, HR.out⟩
  case round =>
    obtain ⟨k, v5, acc, st, hk, hn, h5, rfl, hrw, hrr, hfr, hres⟩ := hrel
    have h5 := h5.symm
    subst h5
    have HG := Lib.hid hn
    clear hn HR H1 F1
    by_cases hlt : k < N
    · have hi1 : (k : Int) < (N : Int) := by omega
      obtain ⟨m, hm⟩ : ∃ m, Hid (N - k = m + 1) := ⟨N - k - 1, by show _ = _; omega⟩
      have hm2 : Hid (N - (k + 1) = m) := by show _ = _; have := hm.out; omega
      go_wp2_with fail
      refine (well_any wr B g q st d hrr.out).mono ?_
      rintro e w' ⟨rfl, rfl⟩
      by_cases hw : st.n = 0 ∧ st.f = 0
      · have hwt : decide (st.n = 0 ∧ st.f = 0) = true := by simpa using hw
        have hnext : Hid (R = rLoop rSp m (acc ++ [(rSp st).1]) (rSp st).2) := by show _ = _; rw [hres.out, hm.out, rLoop, if_pos hw]
        rw [hwt]
        clear hres hw hwt
        obtain ⟨⟨y, st2⟩, hy⟩ : ∃ x, x = rSp st := ⟨_, rfl⟩
        have HE := rspec_any wr B g q st d hrr.out
        unfold RspecT at HE; rw [← hy] at hnext HE
        have HE := Lib.hid HE
        clear hy
        go_wp2_with fail
        refine HE.out.mono ?_
        rintro e w2 ⟨rfl, hr1, hf1⟩
        try dsimp only at hr1 
        have hce : Hid (Cs w2 (fun x => wr.heap.size ≤ x) [.string y.n, .string y.d, .bool y.m] (Cl.c y)) := by show Cs _ _ _ _; exact Cs.cons (.v _ rfl) (Cs.cons (.v _ rfl) (Cs.cons (.v _ rfl) (Cs.nil)))
        have hrw2 := hrw.out.fr hf1 fun x hx => Nat.lt_of_lt_of_le (hlo.out x hx) hbs
        have hle : w.heap.size ≤ wr.heap.size := hfr.out.size
        have hle2 : wr.heap.size ≤ w2.heap.size := hf1.size
        have HR2 := Lib.hid hr1
        have HF2 := Lib.hid (hfr.out.trans hf1)
        obtain ⟨cs, ho, hcc⟩ := hrw2.ex
        have hvlt : ∀ x, v5.ownBlock = some x → x < wr.heap.size := fun x hx => by
          obtain ⟨cs', ho', _⟩ := hrw.out.ex
          exact (World.ownsRow.lt ho' x hx).2
        have HV := Lib.hid hvlt
        have HRW := Lib.hid hrw2
        have HCC := Lib.hid hcc
        have HO := Lib.hid ho
        clear hr1 hf1 hrr hfr hrw hrw2 hcc hvlt ho HE 
        go_wp2_with (at_builtin; refine wpList_appR _ rfl _ _ 67 169 rfl _ 3 40 Tryz.underlying67 info_sp rfl (by decide) w.heap.size rfl rfl (World.ownsRow.alloc HO.out _) (Rd.lit w2 169 3 1 #[.string y.n, .string y.d, .bool y.m] (0, 0) rfl (by omega)) (by simp [Value.oneCell']) ?_ ?_ ?_ ?_)
        · unfold maxLen; omega
        · omega
        · simp; omega
        intro v' w4 ho4 hg4 hat
        have hal : Below w2.heap.size w2 (w2.alloc (.cells #[.string y.n, .string y.d, .bool y.m] 169)) := (Below.refl _ _).alloc (Nat.le_refl _) _
        have H4 : Hid (Rw w4 w.heap.size 169 v' (k + 1) (acc ++ [y])) := by
          refine Rw.more (w := w2.alloc (.cells #[.string y.n, .string y.d, .bool y.m] 169)) (N := wr.heap.size) (HRW.out.all hal) (hce.out.keep (.below hal)) HV.out hle (HCC.out.keep (.below hal)) (by show World.ownsRow w4 w.heap.size _ 3 _ _ _; simpa using ho4) hg4 (by simpa using hat)
        have R4 : Hid (Rr w4 B g q st2 d) := (HR2.out.all hal).grown hg4 fun x hx => Nat.le_trans hbs (World.ownsRow.lt HO.out x hx).1
        have F4 : Hid (Fr (gq g q) (gq g q) w w4) := (HF2.out.alloc _).grown hg4 fun x hx => .inr (World.ownsRow.lt HO.out x hx).1
        clear ho4 hg4 hat HRW HCC HR2 HF2 HO hal HV hce
        go_wp2
        go_roundg (N - (k + 1))
        case measure => have := HG.out; omega
        case rel => exact ⟨k + 1, v', acc ++ [y], st2, by omega, rfl, rfl, by go_num, H4, R4, F4, by show _ = _; rw [hm2.out]; exact hnext.out⟩
      · have hwt : decide (st.n = 0 ∧ st.f = 0) = false := by simpa using hw
        have hend : Hid (R = ([], st)) := by show _ = _; rw [hres.out, hm.out, rLoop, if_neg hw]
        rw [hwt]
        clear hres hw hwt
        go_wp2
        go_ret
        exact ⟨_, rfl, by rw [hend.out]; exact Ls.nil _ _, by rw [hend.out]; exact hrr.out, hfr.out⟩
    · have hi1 : ¬ (k : Int) < (N : Int) := by omega
      have hend : Hid (R = (acc, st)) := by show _ = _; rw [hres.out, show N - k = 0 by omega, rLoop]
      go_wp2
      go_ret
      exact ⟨_, rfl, by rw [hend.out]; exact hrw.out.ls, by rw [hend.out]; exact hrr.out, hfr.out⟩
end Go.Proofs.YtjajcecenflejaaGreat
