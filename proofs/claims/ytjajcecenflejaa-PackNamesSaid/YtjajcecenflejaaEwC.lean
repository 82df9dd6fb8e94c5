/- A machine that runs a Go text by reckoning: laid out ahead, soundly: what makes and writes, calls, steps. Of no program. -/
import Derived.Test.YtjajcecenflejaaEwB
namespace Go.Ev
open Go.RowKit

section
variable {n : Nat} {P : Program} {G : PT (List AV)}
theorem cm_spec {op : Op} {f : TT n → S → Option (AV × S)} (hc : cm n P op = some (.mk f)) {X : TT n} {s : S} {r : AV × S} (hf : f X s = some r) : mop P (frOf n X) s op = some r := by
  unfold cm at hc
  split at hc
  · simp only [Option.some.injEq, Cl.mk.injEq] at hc; subst hc; exact hf
  · split at hc
    · rename_i g hg
      simp only [Option.some.injEq, Cl.mk.injEq] at hc; subst hc
      simp only [mop, gx_spec hg]; exact hf
    · cases hc
  · rename_i t k ps
    split at hc
    · rename_i e hu
      split at hc
      · rename_i i z hi hz
        cases hb : Nat.beq (len (cellsA z)) i.size with
        | false => rw [hb] at hc; cases hc
        | true =>
          cases hb2 : Nat.ble (k * i.size) 16777216 with
          | false => rw [hb, hb2] at hc; cases hc
          | true =>
            rw [hb, hb2, cond_true, cond_true] at hc
            split at hc
            · rename_i r0 hr
              simp only [Option.some.injEq, Cl.mk.injEq] at hc; subst hc; dsimp only at hf
              simp only [mop, mBuildS, hu, hi, hz, hb, hb2, cond_true]
              rw [← fillC_spec hr X]
              unfold bsM at hf
              cases hq : r0 X (rep (cellsA z) k) with
              | none => rw [hq] at hf; cases hf
              | some c => rw [hq] at hf; exact hf
            · cases hc
      · cases hc
    · cases hc
  · split at hc
    · rename_i g g' hg hg'
      simp only [Option.some.injEq, Cl.mk.injEq] at hc; subst hc
      simp only [mop, gx_spec hg, gx_spec hg']; exact hf
    · cases hc
  · simp only [Option.some.injEq, Cl.mk.injEq] at hc; subst hc; exact hf
  · split at hc
    · rename_i g g' hg hg'
      simp only [Option.some.injEq, Cl.mk.injEq] at hc; subst hc
      simp only [mop, gx_spec hg, gx_spec hg']; exact hf
    · cases hc
  · split at hc
    · rename_i g g' g2 hg hg' hg2
      simp only [Option.some.injEq, Cl.mk.injEq] at hc; subst hc
      simp only [mop, gx_spec hg, gx_spec hg', gx_spec hg2]; exact hf
    · cases hc
  · split at hc
    · rename_i g g' g2 hg hg' hg2
      simp only [Option.some.injEq, Cl.mk.injEq] at hc; subst hc
      simp only [mop, gx_spec hg, gx_spec hg', gx_spec hg2]; exact hf
    · cases hc
  · split at hc
    · rename_i g hg
      simp only [Option.some.injEq, Cl.mk.injEq] at hc; subst hc
      simp only [mop, gx_spec hg]; exact hf
    · cases hc
  · rename_i c
    split at hc
    · rename_i t t2 x y hcal hat hargs
      split at hc
      · rename_i g g' hg hg'
        simp only [Option.some.injEq, Cl.mk.injEq] at hc; subst hc
        simp only [mop, hcal, hat, hargs, evxs, gx_spec hg, gx_spec hg']; exact hf
      · cases hc
    · rename_i t t2 x y hcal hat hargs
      split at hc
      · rename_i g g' hg hg'
        simp only [Option.some.injEq, Cl.mk.injEq] at hc; subst hc
        simp only [mop, hcal, hat, hargs, evxs, gx_spec hg, gx_spec hg']; exact hf
      · cases hc
    · cases hc
  · cases hc
theorem ca_spec {op : Op} {f : TT n → Option (AO × (Ps → AV))} (hc : ca n P op = some (.mk f)) (X : TT n) {r : AO × (Ps → AV)} (hf : f X = some r) : alq P (frOf n X) op = some r := by
  unfold ca at hc
  split at hc
  · split at hc
    · rename_i z hz
      simp only [Option.some.injEq, Cl.mk.injEq] at hc; subst hc
      simp only [alq, hz]; exact hf
    · cases hc
  · split at hc
    · rename_i g hg
      simp only [Option.some.injEq, Cl.mk.injEq] at hc; subst hc
      simp only [alq, gx_spec hg]; exact hf
    · cases hc
  · rename_i t k ps
    split at hc
    · rename_i e hu
      split at hc
      · rename_i i z hi hz
        cases hb : Nat.beq (len (cellsA z)) i.size with
        | false => rw [hb] at hc; cases hc
        | true =>
          cases hb2 : Nat.ble (k * i.size) 16777216 with
          | false => rw [hb, hb2] at hc; cases hc
          | true =>
            rw [hb, hb2, cond_true, cond_true] at hc
            split at hc
            · rename_i r0 hr
              simp only [Option.some.injEq, Cl.mk.injEq] at hc; subst hc; dsimp only at hf
              simp only [alq, hu, hi, hz, hb, hb2, cond_true]
              rw [← fillC_spec hr X]
              unfold bsA at hf
              cases hq : r0 X (rep (cellsA z) k) with
              | none => rw [hq] at hf; cases hf
              | some c => rw [hq] at hf; exact hf
            · cases hc
      · cases hc
    · cases hc
  · simp only [Option.some.injEq, Cl.mk.injEq] at hc; subst hc; exact hf
end
/-- calls come to what follows them -/
structure CFOk (P : Program) (B : Nat → Prop) (W : World) (cf : CF) : Prop where
  call : ∀ (g : FuncId) (vs : List AV) (s : S) (k : KV), g ≠ yNo → cf g vs s k = true → CallOk P B W g vs s fun v s' => k v s' = true
  round : ∀ (b : Ps) (vs : List AV) (s : S) (k : KV), cf yNo (.y b :: vs) s k = true → RoundOk P B W b vs s fun v s' => k v s' = true
theorem ne_yNo {g : Nat} {b : Bool} (h : (Bool.rec b false (Nat.beq g yNo) : Bool) = true) : g ≠ yNo ∧ b = true := by
  rw [beq_dec] at h
  by_cases e : g = yNo
  · rw [decide_eq_true e] at h; cases h
  · rw [decide_eq_false e] at h; exact ⟨e, h⟩
section
variable {n : Nat} {P : Program} {B : Nat → Prop} {W : World} {G : PT (List AV)} {cf : CF}
theorem allK_spec {k : KV} : ∀ {l : List (AV × S)}, allK k l = true → ∀ r ∈ l, k r.1 r.2 = true
  | [], _, r, hr => by cases hr
  | a :: l, h, r, hr => by
    have h' : (Bool.rec false (allK k l) (k a.1 a.2) : Bool) = true := h
    cases hk : k a.1 a.2 with
    | false => rw [hk] at h'; cases h'
    | true =>
      rw [hk] at h'
      rcases List.mem_cons.1 hr with rfl | hr
      · exact hk
      · exact allK_spec h' r hr
theorem opOk_qvo (hG : GOk B W G) {o : Oper} {fr : Fr} {s : S} {K : AV → S → Prop} {v : AV} (h : qvo P G fr s.h o.op = some v) (hk : K v s) : OpOk P B W o fr s K := by
  unfold qvo at h
  split at h
  · rename_i u hu
    simp only [Option.some.injEq] at h; subst h
    exact opOk_pop hu hk
  · exact opOk_lop hG h hk
theorem pd_spec {N : Nat} {o : Oper} {p : AV → TT n → TT n} (h : pd n N o = some (.mk p)) : dstOk N o = true ∧ ∀ v X, frOf n (p v X) = putF (frOf n X) o.dst v := by
  unfold pd at h
  split at h
  · rename_i t ht
    cases hb : Nat.ble (Nat.succ t) N with
    | false => rw [hb] at h; cases h
    | true =>
      cases hb2 : Nat.ble (Nat.succ t) (Nat.pow 2 n) with
      | false => rw [hb, hb2] at h; cases h
      | true =>
        rw [hb, hb2] at h
        simp only [cond_true, Option.some.injEq] at h
        refine ⟨by unfold dstOk; rw [ht]; exact hb, fun v X => ?_⟩
        rw [sC_spec h, ht]
        exact frOf_set v X (ble_le hb2)
  · rename_i ht
    simp only [Option.some.injEq, Cl.mk.injEq] at h; subst h
    exact ⟨by unfold dstOk; rw [ht], fun v X => by rw [ht]; rfl⟩
theorem opW_spec (hG : GOk B W G) (hcf : CFOk P B W cf) {o : Oper} {p : AV → TT n → TT n} {rest w : Rn n} (hw : opW n P G o p rest = .mk w) {X : TT n} {s : S} {k : K n} (h : w cf X s k = true) :
    OpOk P B W o (frOf n X) s fun v s' => rest cf (p v X) s' k = true := by
  unfold opW at hw
  cases hi : isCo o.op with
  | true =>
    rw [hi, cond_true] at hw
    split at hw
    rename_i f hf
    simp only [Cl.mk.injEq] at hw; subst hw; dsimp only at h
    cases hq : f X s.h with
    | none => rw [hq] at h; cases h
    | some v => rw [hq] at h; exact opOk_qvo hG (co_spec hf hq) h
  | false =>
    rw [hi, cond_false] at hw
    split at hw
    · rename_i f hf
      simp only [Cl.mk.injEq] at hw; subst hw; dsimp only at h
      cases hq : f X s with
      | none => rw [hq] at h; cases h
      | some r => rw [hq] at h; exact opOk_mop (v := r.1) (s' := r.2) (cm_spec hf hq) h
    · split at hw
      · rename_i c hop
        split at hw
        · rename_i g gs hc hgs
          rw [beq_dec] at hw
          by_cases e : g = yNo
          · rw [decide_eq_true e] at hw
            simp only [Cl.mk.injEq] at hw; subst hw; cases h
          · rw [decide_eq_false e] at hw
            simp only [Cl.mk.injEq] at hw; subst hw; dsimp only at h
            exact opOk_call hop hc (fv := .f g []) rfl (gxs_spec hgs X) (.inl ⟨[], rfl, rfl⟩) (hcf.call _ _ _ _ e h)
        · rename_i f gs hne hc hgs
          split at hw
          · rename_i g hg
            simp only [Cl.mk.injEq] at hw; subst hw; dsimp only at h
            unfold callD at h
            split at h
            · rename_i g' caps hv
              exact opOk_call hop hc (fv := .f g' caps) (by rw [gx_spec hg, hv]) (gxs_spec hgs X) (.inl ⟨caps, rfl, rfl⟩) (hcf.call _ _ _ _ (ne_yNo h).1 (ne_yNo h).2)
            · rename_i g' v hv
              exact opOk_call hop hc (fv := .fm g' v) (by rw [gx_spec hg, hv]) (gxs_spec hgs X) (.inr ⟨v, rfl, rfl⟩) (hcf.call _ _ _ _ (ne_yNo h).1 (ne_yNo h).2)
            · rename_i b hv
              exact opOk_yield hop hc (b := b) (by rw [gx_spec hg, hv]) (gxs_spec hgs X) (hcf.round _ _ _ _ h)
            · rename_i t m hv
              split at h
              · rename_i e g' off b q ws ht hm hws
                split at h
                · rename_i v hl
                  exact opOk_mo hop hc (by rw [gx_spec hg, hv]) (by rw [gxs_spec hgs X, hws]) ht hm hl (hcf.call _ _ _ _ (ne_yNo h).1 (ne_yNo h).2)
                · cases h
              · cases h
            · cases h
          · simp only [Cl.mk.injEq] at hw; subst hw; cases h
        · simp only [Cl.mk.injEq] at hw; subst hw; cases h
      · rename_i it hop
        split at hw
        · rename_i g hg
          simp only [Cl.mk.injEq] at hw; subst hw; dsimp only at h
          unfold nxV at h
          split at h
          · rename_i b hv
            split at h
            · rename_i l hl
              exact opOk_next hop (by rw [gx_spec hg, hv]) hl (allK_spec h)
            · cases h
          · cases h
        · simp only [Cl.mk.injEq] at hw; subst hw; cases h
      · simp only [Cl.mk.injEq] at hw; subst hw; dsimp only at h
        cases hq : qvo P G (frOf n X) s.h o.op with
        | some v => rw [hq] at h; exact opOk_qvo hG hq h
        | none =>
          rw [hq] at h
          cases hm : mop P (frOf n X) s o.op with
          | none => rw [hm] at h; cases h
          | some r => rw [hm] at h; exact opOk_mop (v := r.1) (s' := r.2) hm h
      · simp only [Cl.mk.injEq] at hw; subst hw; cases h
theorem gd_spec {ops : List Oper} {o : Oper} {c : Option (Cl (TT n → Bool))} (h : gd n ops o = some c) (X : TT n) : (c = none ∧ guardOk ops (frOf n X) o = true) ∨ (∃ g, c = some (.mk g) ∧ g X = guardOk ops (frOf n X) o) := by
  unfold gd at h
  unfold guardOk
  split at h
  · rename_i hg
    simp only [Option.some.injEq] at h; subst h
    rw [hg]; exact .inl ⟨rfl, rfl⟩
  · rename_i j w hg
    rw [hg]
    dsimp only
    split at h
    · rename_i oj hj
      rw [hj]
      dsimp only
      split at h
      · rename_i t ht
        rw [ht]
        dsimp only
        cases hb : Nat.ble (Nat.succ t) (Nat.pow 2 n) with
        | false => rw [hb] at h; cases h
        | true =>
          rw [hb, cond_true] at h
          split at h
          rename_i g hgc
          have hgx : getF (frOf n X) t = g X := by rw [gC_spec hgc X]; exact frOf_lt X (ble_le hb)
          rw [hgx]
          cases w with
          | true =>
            simp only [Option.some.injEq] at h; subst h
            refine .inr ⟨_, rfl, ?_⟩
            unfold isT
            cases hv : g X <;> simp
          | false =>
            simp only [Option.some.injEq] at h; subst h
            refine .inr ⟨_, rfl, ?_⟩
            unfold isF
            cases hv : g X <;> simp
      · cases h
    · cases h
theorem gdW_spec {ops : List Oper} {o : Oper} {p : AV → TT n → TT n} {rest w : Rn n} {c : Cl (Rn n)} (hw : gdW n ops o p rest c = .mk w) {X : TT n} {s : S} {k : K n} (h : w cf X s k = true) :
    (guardOk ops (frOf n X) o = false ∧ rest cf (p und X) s k = true) ∨ (guardOk ops (frOf n X) o = true ∧ ∃ w', c = .mk w' ∧ w' cf X s k = true) := by
  unfold gdW at hw
  split at hw
  · rename_i hg
    rcases gd_spec hg X with ⟨_, h1⟩ | ⟨g, h1, _⟩
    · exact .inr ⟨h1, w, hw, h⟩
    · cases h1
  · rename_i g hg
    rcases gd_spec hg X with ⟨h1, _⟩ | ⟨g', h1, h2⟩
    · cases h1
    · simp only [Option.some.injEq, Cl.mk.injEq] at h1; subst h1
      split at hw
      rename_i w'
      simp only [Cl.mk.injEq] at hw; subst hw; dsimp only at h
      cases hb : g X with
      | false => rw [hb] at h h2; exact .inl ⟨h2.symm, h⟩
      | true => rw [hb] at h h2; exact .inr ⟨h2.symm, w', rfl, h⟩
  · simp only [Cl.mk.injEq] at hw; subst hw; cases h
/-- one operation -/
theorem stp_spec (hG : GOk B W G) (hcf : CFOk P B W cf) {ops : List Oper} {N : Nat} {o : Oper} {rest w : Rn n} (hw : stp n P G ops N o rest = .mk w) {X : TT n} {s : S} {k : K n} (h : w cf X s k = true) :
    dstOk N o = true ∧ ((guardOk ops (frOf n X) o = false ∧ ∃ X', frOf n X' = putF (frOf n X) o.dst und ∧ rest cf X' s k = true) ∨
      (guardOk ops (frOf n X) o = true ∧ OpOk P B W o (frOf n X) s fun v s' => ∃ X', frOf n X' = putF (frOf n X) o.dst v ∧ rest cf X' s' k = true)) := by
  unfold stp at hw
  split at hw
  · rename_i p hp
    obtain ⟨h1, h2⟩ := pd_spec hp
    refine ⟨h1, ?_⟩
    rcases gdW_spec hw h with ⟨a1, a2⟩ | ⟨a1, w', a2, a3⟩
    · exact .inl ⟨a1, _, h2 _ _, a2⟩
    · exact .inr ⟨a1, (opW_spec hG hcf a2 a3).mono fun v s' h => ⟨_, h2 _ _, h⟩⟩
  · simp only [Cl.mk.injEq] at hw; subst hw; cases h
theorem tel_spec {ops : List Oper} {N : Nat} {o : Oper} {rest w : Rn n} (hw : tel n P G ops N o rest = .mk w) {X : TT n} {s : S} {k : K n} (h : w cf X s k = true) :
    dstOk N o = true ∧ ((∃ v X', qv P G ops (frOf n X) s o = some v ∧ frOf n X' = putF (frOf n X) o.dst v ∧ rest cf X' s k = true) ∨
      (guardOk ops (frOf n X) o = true ∧ ∃ ob mk q s' X', alq P (frOf n X) o.op = some (ob, mk) ∧ newO ob s = some (q, s') ∧ frOf n X' = putF (frOf n X) o.dst (mk q) ∧ rest cf X' s' k = true)) := by
  unfold tel at hw
  split at hw
  · rename_i p hp
    obtain ⟨h1, h2⟩ := pd_spec hp
    refine ⟨h1, ?_⟩
    rcases gdW_spec hw h with ⟨a1, a2⟩ | ⟨a1, w', a2, a3⟩
    · exact .inl ⟨und, _, by unfold qv; rw [a1]; rfl, h2 _ _, a2⟩
    · unfold telW at a2
      cases hi : isAlq o.op with
      | true =>
        rw [hi, cond_true] at a2
        split at a2
        · rename_i f hf
          simp only [Cl.mk.injEq] at a2; subst a2; dsimp only at a3
          unfold thA at a3
          cases hq : f X with
          | none => rw [hq] at a3; cases a3
          | some r =>
            rw [hq] at a3
            dsimp only at a3
            cases hn : newO r.1 s with
            | none => rw [hn] at a3; cases a3
            | some q =>
              rw [hn] at a3
              exact .inr ⟨a1, r.1, r.2, q.1, q.2, _, ca_spec hf X hq, hn, h2 _ _, a3⟩
        · simp only [Cl.mk.injEq] at a2; subst a2; cases a3
      | false =>
        rw [hi, cond_false] at a2
        split at a2
        rename_i f hf
        simp only [Cl.mk.injEq] at a2; subst a2; dsimp only at a3
        cases hq : f X s.h with
        | none => rw [hq] at a3; cases a3
        | some v =>
          rw [hq] at a3
          refine .inl ⟨v, _, ?_, h2 _ _, a3⟩
          have := co_spec hf hq
          unfold qv; rw [a1]; exact this
  · simp only [Cl.mk.injEq] at hw; subst hw; cases h
end
end Go.Ev
