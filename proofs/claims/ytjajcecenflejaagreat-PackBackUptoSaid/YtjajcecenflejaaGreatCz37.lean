/- YtjajcecenflejaaGreatCz37 -/
import Derived.Test.YtjajcecenflejaaGreatCz36
namespace Go.Ev
open Go.RowKit
theorem getN_succ (n t : Nat) (x : TT (n + 1)) : getN (n + 1) t x = Bool.rec (getN n (t / 2) (Pr.b x)) (getN n (t / 2) (Pr.a x)) (Nat.beq (t % 2) 0) := rfl
theorem setN_succ (n t : Nat) (v : AV) (x : TT (n + 1)) : setN (n + 1) t v x = Bool.rec (motive := fun _ => Pr (TT n) (TT n)) ⟨Pr.a x, setN n (t / 2) v (Pr.b x)⟩ ⟨setN n (t / 2) v (Pr.a x), Pr.b x⟩ (Nat.beq (t % 2) 0) := rfl
theorem beq_par {t : Nat} : (Nat.beq (t % 2) 0 = true ∧ t % 2 = 0) ∨ (Nat.beq (t % 2) 0 = false ∧ t % 2 = 1) := by
  rcases Nat.mod_two_eq_zero_or_one t with h | h
  · exact .inl ⟨by rw [h]; rfl, h⟩
  · exact .inr ⟨by rw [h]; rfl, h⟩
theorem getN_setN (v : AV) : ∀ (n t u : Nat) (x : TT n), t < 2 ^ n → u < 2 ^ n → getN n u (setN n t v x) = if u = t then v else getN n u x
  | 0, t, u, x, ht, hu => by
    have : u = t := by simp at ht hu; omega
    rw [if_pos this]; rfl
  | n + 1, t, u, x, ht, hu => by
    have ih := getN_setN v n (t / 2) (u / 2)
    have h1 : t / 2 < 2 ^ n := by rw [Nat.pow_succ] at ht; omega
    have h2 : u / 2 < 2 ^ n := by rw [Nat.pow_succ] at hu; omega
    rw [getN_succ, setN_succ]
    rcases @beq_par t with ⟨a1, a2⟩ | ⟨a1, a2⟩ <;> rcases @beq_par u with ⟨b1, b2⟩ | ⟨b1, b2⟩ <;> simp only [a1, b1, getN_succ]
    · rw [ih _ h1 h2]
      by_cases h : u = t
      · rw [if_pos h, if_pos (by omega)]
      · rw [if_neg h, if_neg (by omega)]
    · rw [if_neg (by omega)]
    · rw [if_neg (by omega)]
    · rw [ih _ h1 h2]
      by_cases h : u = t
      · rw [if_pos h, if_pos (by omega)]
      · rw [if_neg h, if_neg (by omega)]
theorem ble_iff {a b : Nat} : Nat.ble a b = true ↔ a ≤ b := ⟨ble_le, Nat.ble_eq_true_of_le⟩
theorem frOf_lt {n t : Nat} (x : TT n) (h : t < 2 ^ n) : frOf n x t = getN n t x := by
  unfold frOf
  rw [show Nat.ble (Nat.succ t) (Nat.pow 2 n) = true from ble_iff.2 h]
theorem frOf_ge {n t : Nat} (x : TT n) (h : ¬ t < 2 ^ n) : frOf n x t = und := by
  unfold frOf
  cases hb : Nat.ble (Nat.succ t) (Nat.pow 2 n) with
  | false => rfl
  | true => exact absurd (ble_le hb) h
theorem frOf_set {n t : Nat} (v : AV) (x : TT n) (h : t < 2 ^ n) : frOf n (setN n t v x) = setF (frOf n x) t v := by
  funext u
  unfold setF
  by_cases hu : u < 2 ^ n
  · rw [frOf_lt _ hu, frOf_lt _ hu, getN_setN v n t u x h hu]
    by_cases e : u = t
    · subst e; rw [if_pos rfl, Nat.beq_refl]; rfl
    · rw [if_neg e]
      cases hb : Nat.beq u t with
      | false => rfl
      | true => exact absurd (Nat.eq_of_beq_eq_true hb) e
  · rw [frOf_ge _ hu, frOf_ge _ hu]
    cases hb : Nat.beq u t with
    | false => rfl
    | true => exact absurd (Nat.eq_of_beq_eq_true hb ▸ h) hu
theorem gC_spec : ∀ {n t : Nat} {g : TT n → AV}, gC n t = .mk g → ∀ x, g x = getN n t x
  | 0, t, g, h, x => by
    have h' : Cl.mk (fun x : TT 0 => x) = .mk g := h
    injection h' with h'; subst h'; rfl
  | n + 1, t, g, h, x => by
    have h' : (Cl.rec (motive := fun _ => Cl (TT (n + 1) → AV)) (fun g => Bool.rec (.mk fun x => g (Pr.b x)) (.mk fun x => g (Pr.a x)) (Nat.beq (t % 2) 0)) (gC n (t / 2)) : Cl (TT (n + 1) → AV)) = .mk g := h
    clear h
    cases hg : gC n (t / 2) with
    | mk g0 =>
      rw [hg] at h'
      have ih := gC_spec hg
      rw [getN_succ]
      rcases @beq_par t with ⟨a1, a2⟩ | ⟨a1, a2⟩
      · rw [a1] at h' ⊢; injection h' with h'; subst h'; exact ih _
      · rw [a1] at h' ⊢; injection h' with h'; subst h'; exact ih _
theorem sC_spec : ∀ {n t : Nat} {f : AV → TT n → TT n}, sC n t = .mk f → ∀ v x, f v x = setN n t v x
  | 0, t, f, h, v, x => by
    have h' : Cl.mk (fun (v : AV) (_ : TT 0) => (v : TT 0)) = .mk f := h
    injection h' with h'; subst h'; rfl
  | n + 1, t, f, h, v, x => by
    have h' : (Cl.rec (motive := fun _ => Cl (AV → Pr (TT n) (TT n) → Pr (TT n) (TT n))) (fun f => Bool.rec (.mk fun v x => ⟨Pr.a x, f v (Pr.b x)⟩) (.mk fun v x => ⟨f v (Pr.a x), Pr.b x⟩) (Nat.beq (t % 2) 0)) (sC n (t / 2))) = .mk f := h
    clear h
    cases hg : sC n (t / 2) with
    | mk g0 =>
      rw [hg] at h'
      have ih := sC_spec hg
      rw [setN_succ]
      rcases @beq_par t with ⟨a1, a2⟩ | ⟨a1, a2⟩
      · rw [a1] at h' ⊢; injection h' with h'; subst h'; simp only [ih]
      · rw [a1] at h' ⊢; injection h' with h'; subst h'; simp only [ih]
theorem getN_zN : ∀ (n t : Nat), getN n t (zN n) = und
  | 0, _ => rfl
  | n + 1, t => by
    rw [getN_succ]
    rcases @beq_par t with ⟨a1, a2⟩ | ⟨a1, a2⟩ <;> rw [a1] <;> exact getN_zN n (t / 2)
theorem frOf_zN (n : Nat) : frOf n (zN n) = frU := by
  funext t
  by_cases h : t < 2 ^ n
  · rw [frOf_lt _ h, getN_zN]; rfl
  · rw [frOf_ge _ h]; rfl
section
variable {n : Nat} {P : Program} {G : PT (List AV)}
theorem gx_spec {x : Operand} {g : TT n → AV} (h : gx n x = some (.mk g)) (X : TT n) : evx (frOf n X) x = some (g X) := by
  unfold gx at h
  split at h
  · rename_i t
    cases hb : Nat.ble (Nat.succ t) (Nat.pow 2 n) with
    | false => rw [hb] at h; cases h
    | true =>
      rw [hb] at h
      simp only [cond_true, Option.some.injEq] at h
      simp only [evx, getF, frOf_lt X (ble_le hb), gC_spec h X]
  · rename_i v
    split at h
    · rename_i u hu
      simp only [Option.some.injEq, Cl.mk.injEq] at h; subst h
      exact hu
    · cases h
  · simp only [Option.some.injEq, Cl.mk.injEq] at h; subst h; rfl
  · simp only [Option.some.injEq, Cl.mk.injEq] at h; subst h; rfl
theorem gxs_spec : ∀ {l : List Operand} {g : TT n → List AV}, gxs n l = some (.mk g) → ∀ X, evxs (frOf n X) l = some (g X)
  | [], g, h, X => by
    have h' : some (Cl.mk (fun _ : TT n => ([] : List AV))) = some (.mk g) := h
    simp only [Option.some.injEq, Cl.mk.injEq] at h'; subst h'; rfl
  | x :: l, g, h, X => by
    have h' : (match gx n x with
      | some (.mk g) => (match gxs n l with
        | some (.mk gs) => some (Cl.mk fun X => g X :: gs X)
        | none => none)
      | none => none) = some (.mk g) := h
    split at h'
    · rename_i g0 h0
      split at h'
      · rename_i gs h1
        simp only [Option.some.injEq, Cl.mk.injEq] at h'; subst h'
        simp only [evxs, gx_spec h0, gxs_spec h1]
      · cases h'
    · cases h'
theorem qvo_pop {fr : Fr} {h : PT AO} {op : Op} {v : AV} (hp : pop P fr op = some v) : qvo P G fr h op = some v := by unfold qvo; rw [hp]
theorem qvo_lop {fr : Fr} {h : PT AO} {op : Op} {v : AV} (hp : pop P fr op = none) (hl : lop P G fr h op = some v) : qvo P G fr h op = some v := by unfold qvo; rw [hp]; exact hl
theorem fillC_spec {place : Nat → Option (Nat × Nat)} : ∀ {l : List (Nat × Operand)} {r : TT n → List AV → Option (List AV)}, fillC n place l = some (.mk r) → ∀ X c, r X c = fillA place (frOf n X) l c
  | [], r, h, X, c => by
    have h' : some (Cl.mk (fun (_ : TT n) (c : List AV) => some c)) = some (.mk r) := h
    simp only [Option.some.injEq, Cl.mk.injEq] at h'; subst h'; rfl
  | p :: l, r, h, X, c => by
    have h' : (match place p.1, gx n p.2 with
      | some (off, size), some (.mk g) => (match fillC n place l with
        | some (.mk r) => some (Cl.mk fun (X : TT n) (c : List AV) => (Bool.rec none (Option.rec none (fun c => r X c) (over (cellsA (g X)) c off)) (Nat.beq (len (cellsA (g X))) size) : Option (List AV)))
        | none => none)
      | _, _ => none) = some (.mk r) := h
    obtain ⟨i, x⟩ := p
    split at h'
    · rename_i off size g hpl hg
      split at h'
      · rename_i r0 h0
        simp only [Option.some.injEq, Cl.mk.injEq] at h'; subst h'
        have ih := fillC_spec h0 X
        simp only [fillA, hpl, gx_spec hg X]
        cases Nat.beq (len (cellsA (g X))) size with
        | false => rfl
        | true =>
          dsimp only [cond_true]
          cases over (cellsA (g X)) c off with
          | none => rfl
          | some c => exact ih c
      · cases h'
    · cases h'
theorem bnC_spec {x : Option Operand} {f : TT n → Nat → Option Nat} (h : bnC n x = some (.mk f)) (X : TT n) (d : Nat) : bnd (frOf n X) d x = f X d := by
  unfold bnC at h
  split at h
  · simp only [Option.some.injEq, Cl.mk.injEq] at h; subst h; rfl
  · split at h
    · rename_i g hg
      simp only [Option.some.injEq, Cl.mk.injEq] at h; subst h
      simp only [bnd, gx_spec hg]
    · cases h
theorem onII_spec {b : BinOp} {t : TypeId} {u v : AV} {f : IntKind → Int → Int → Option AV} (hs : isSh b = false) (hf : ∀ k a c, f k a c = binI b k a c) : onII u v f (popBin P b t u v) = popBin P b t u v := by
  unfold onII
  split
  · rename_i k a
    split
    · rename_i k' c
      unfold popBin
      dsimp only
      rw [hs, cond_false]
      cases kEq k k' with
      | true => exact hf _ _ _
      | false => rfl
    · rfl
  · rfl
theorem intO_eq (k : IntKind) (n : Int) : intO k n = some (.i k n) := by unfold intO; rw [fI_eq]
theorem bI_spec {b : BinOp} {f : IntKind → Int → Int → Option AV} (h : bI b = .mk f) (k : IntKind) (a c : Int) : f k a c = binI b k a c := by
  cases b <;> (simp only [bI, Cl.mk.injEq] at h; subst h; first | rfl | exact intO_eq k _)
theorem bB_spec {b : BinOp} {t : TypeId} {f : AV → AV → Option AV} (h : bB P b t = .mk f) (u v : AV) : f u v = popBin P b t u v := by
  unfold bB at h
  cases hs : isSh b with
  | true =>
    rw [hs] at h
    simp only [cond_true, Cl.mk.injEq] at h; subst h; rfl
  | false =>
    rw [hs, cond_false] at h
    cases hb : bI b with
    | mk g =>
      rw [hb] at h
      simp only [Cl.mk.injEq] at h; subst h
      exact onII_spec hs (bI_spec hb)
theorem ptA_spec {t : TypeId} {off : Nat} {p : List AV → Option AV} (h : ptA P t off = some (.mk p)) (c : List AV) : p c = partA P t c off := by
  unfold ptA at h
  split at h
  · rename_i d i hd hi
    unfold partA
    rw [hd, hi]
    dsimp only
    cases hb : isAg P t with
    | true => rw [hb] at h; simp only [cond_true, Option.some.injEq, Cl.mk.injEq] at h; subst h; rfl
    | false => rw [hb] at h; simp only [cond_false, Option.some.injEq, Cl.mk.injEq] at h; subst h; rfl
  · cases h
theorem slB_eq (fr : Fr) (t : TypeId) (u : AV) (lo hi : Option Operand) : popSl P fr t u lo hi = slB P t u (fun d => bnd fr d lo) (fun d => bnd fr d hi) := rfl
set_option maxHeartbeats 2000000 in
theorem co_spec {op : Op} {f : TT n → PT AO → Option AV} (hc : co n P G op = .mk f) {X : TT n} {h : PT AO} {v : AV} (hf : f X h = some v) : qvo P G (frOf n X) h op = some v := by
  have sl : ∀ {op : Op}, slow n P G op = .mk f → qvo P G (frOf n X) h op = some v := fun e => by
    unfold slow at e
    simp only [Cl.mk.injEq] at e; subst e; exact hf
  unfold co at hc
  split at hc
  · split at hc
    · rename_i g hg
      simp only [Cl.mk.injEq] at hc; subst hc; dsimp only at hf
      exact qvo_pop (by simp only [pop, gx_spec hg]; exact hf)
    · exact sl hc
  · split at hc
    · rename_i g hg
      simp only [Cl.mk.injEq] at hc; subst hc; dsimp only at hf
      exact qvo_pop (by simp only [pop, gx_spec hg]; exact hf)
    · exact sl hc
  · split at hc
    · rename_i g g' f0 hg hg' hb
      simp only [Cl.mk.injEq] at hc; subst hc; dsimp only at hf
      refine qvo_pop ?_
      simp only [pop, gx_spec hg, gx_spec hg']
      rw [← bB_spec hb]; exact hf
    · exact sl hc
  · split at hc
    · rename_i g fs hg hu
      split at hc
      · rename_i fl hfl
        split at hc
        · rename_i p hp
          simp only [Cl.mk.injEq] at hc; subst hc; dsimp only at hf
          refine qvo_pop ?_
          simp only [pop, gx_spec hg, hu]
          unfold onA at hf
          split at hf
          · rename_i c hc
            rw [hc]; dsimp only; rw [hfl]; dsimp only; rw [← ptA_spec hp]; exact hf
          · cases hf
        · exact sl hc
      · exact sl hc
    · exact sl hc
  · split at hc
    · rename_i g fs hg hu
      split at hc
      · rename_i fl hfl
        split at hc
        · rename_i i hi
          cases hb : Nat.beq i.size 0 with
          | true => rw [hb] at hc; exact sl hc
          | false =>
            rw [hb] at hc
            simp only [cond_false, Cl.mk.injEq] at hc; subst hc; dsimp only at hf
            refine qvo_pop ?_
            simp only [pop, gx_spec hg, hu]
            unfold onP at hf
            split at hf
            · rename_i b o hc
              rw [hc]; dsimp only; rw [hfl]; dsimp only; rw [hi]; dsimp only; rw [hb]; exact hf
            · cases hf
        · exact sl hc
      · exact sl hc
    · exact sl hc
  · split at hc
    · rename_i g g' e hg hg' hu
      split at hc
      · rename_i fi hfi
        simp only [Cl.mk.injEq] at hc; subst hc; dsimp only at hf
        refine qvo_pop ?_
        simp only [pop, gx_spec hg, gx_spec hg']
        unfold onL at hf
        split at hf
        · rename_i b o k c hc
          unfold onI at hf
          split at hf
          · rename_i q i hi
            rw [hc, hi]
            unfold popIx
            dsimp only
            rw [hu]; dsimp only; rw [hfi]; dsimp only
            dsimp only at hf
            cases hb : Nat.ble (i + 1) k with
            | true => rw [show Nat.ble (Nat.succ i) k = true from hb] at hf; exact hf
            | false => rw [show Nat.ble (Nat.succ i) k = false from hb] at hf; cases hf
          · cases hf
        · exact hf
      · exact sl hc
    · rename_i g g' hg hg' _
      simp only [Cl.mk.injEq] at hc; subst hc; dsimp only at hf
      refine qvo_pop ?_
      simp only [pop, gx_spec hg, gx_spec hg']; exact hf
    · exact sl hc
  · split at hc
    · rename_i g g' hg hg'
      simp only [Cl.mk.injEq] at hc; subst hc; dsimp only at hf
      refine qvo_pop ?_
      simp only [pop, gx_spec hg, gx_spec hg']; exact hf
    · exact sl hc
  · split at hc
    · rename_i g hg
      simp only [Cl.mk.injEq] at hc; subst hc; dsimp only at hf
      refine qvo_pop ?_
      simp only [pop, gx_spec hg]
      unfold onT at hf
      split at hf
      · rename_i c hc; rw [hc]; exact hf
      · cases hf
    · exact sl hc
  · split at hc
    · rename_i g hg
      simp only [Cl.mk.injEq] at hc; subst hc; dsimp only at hf
      refine qvo_pop ?_
      simp only [pop, gx_spec hg]
      unfold nilV at hf
      split at hf
      · rename_i hc; rw [hc]; exact hf
      · rename_i hc; rw [hc]; exact hf
      · rename_i hc; rw [hc]; exact hf
      · cases hf
    · exact sl hc
  · split at hc
    · rename_i g ga gb hg hga hgb
      simp only [Cl.mk.injEq] at hc; subst hc; dsimp only at hf
      refine qvo_pop ?_
      simp only [pop, gx_spec hg, gx_spec hga, gx_spec hgb]
      unfold pickV at hf
      split at hf
      · rename_i x hc
        rw [hc]
        cases x <;> exact hf
      · cases hf
    · exact sl hc
  · split at hc
    · rename_i g hg
      simp only [Cl.mk.injEq] at hc; subst hc; dsimp only at hf
      refine qvo_pop ?_
      simp only [pop, gx_spec hg]
      unfold notV at hf
      split at hf
      · rename_i c hc; rw [hc]; exact hf
      · cases hf
    · exact sl hc
  · rename_i fn first c
    split at hc
    · rename_i gs hfst hgs
      simp only [Cl.mk.injEq] at hc; subst hc; dsimp only at hf
      refine qvo_pop ?_
      have he : first.isEmpty = true := by
        have : first = #[] := by apply Array.ext'; simpa using hfst
        subst this; rfl
      simp only [pop, he, cond_true, gxs_spec hgs]
      exact hf
    · exact sl hc
  · split at hc
    · rename_i g l0 h0 hg hl hh
      simp only [Cl.mk.injEq] at hc; subst hc; dsimp only at hf
      refine qvo_pop ?_
      simp only [pop, gx_spec hg, slB_eq]
      rw [show (fun d => bnd (frOf n X) d _) = l0 X from funext fun d => bnC_spec hl X d, show (fun d => bnd (frOf n X) d _) = h0 X from funext fun d => bnC_spec hh X d]
      exact hf
    · exact sl hc
  · rename_i t ps
    split at hc
    · rename_i z fs hz hu
      split at hc
      · rename_i pl hpl
        unfold bdC at hc
        split at hc
        · rename_i r hr
          simp only [Cl.mk.injEq] at hc; subst hc; dsimp only at hf
          refine qvo_pop ?_
          simp only [pop, popBuild, hz, hu, hpl]
          rw [← fillC_spec hr X]
          unfold okc at hf
          cases hq : r X (cellsA z) with
          | none => rw [hq] at hf; cases hf
          | some c => rw [hq] at hf; exact hf
        · exact sl hc
      · exact sl hc
    · exact sl hc
  · rename_i t x
    split at hc
    · rename_i g d hg hu
      cases hb : isAg P t with
      | true =>
        rw [hb, cond_true] at hc
        split at hc
        · rename_i i hi
          simp only [Cl.mk.injEq] at hc; subst hc; dsimp only at hf
          refine qvo_lop rfl ?_
          simp only [lop, gx_spec hg, hu]
          unfold onP at hf
          split at hf
          · rename_i b o hc
            rw [hc]; dsimp only; rw [hb, cond_true, hi]; exact hf
          · cases hf
        · exact sl hc
      | false =>
        rw [hb, cond_false] at hc
        simp only [Cl.mk.injEq] at hc; subst hc; dsimp only at hf
        refine qvo_lop rfl ?_
        unfold onP at hf
        split at hf
        · rename_i b o hc
          simp only [lop, gx_spec hg, hu]
          rw [hc]; dsimp only; rw [hb, cond_false]; exact hf
        · exact hf
    · exact sl hc
  · rename_i t x k ok
    split at hc
    · rename_i g g' hg hg'
      simp only [Cl.mk.injEq] at hc; subst hc; dsimp only at hf
      refine qvo_lop rfl ?_
      unfold lkV at hf
      split at hf
      · rename_i kt et hu
        cases hck : ckA P 6 kt (g' X) with
        | false => rw [hck] at hf; cases hf
        | true =>
          rw [hck, cond_true] at hf
          simp only [lop, gx_spec hg, gx_spec hg', hu, hck, cond_true]
          split at hf
          · rename_i z hx hz; rw [hx, hz]; exact hf
          · rename_i b z hx hz; rw [hx, hz]; exact hf
          · cases hf
      · cases hf
    · exact sl hc
  · rename_i c
    split at hc
    · rename_i t ts _ x hcal hat hargs
      split at hc
      · rename_i g e hg hu
        simp only [Cl.mk.injEq] at hc; subst hc; dsimp only at hf
        unfold lenS at hf
        split at hf
        · rename_i hl
          refine qvo_pop ?_
          simp only [pop, hcal, hargs, hat, evxs, gx_spec hg, hl, popB, hu]; exact hf
        · rename_i b o k cp hl
          refine qvo_pop ?_
          simp only [pop, hcal, hargs, hat, evxs, gx_spec hg, hl, popB, hu]; exact hf
        · exact hf
      · rename_i g hg hu
        simp only [Cl.mk.injEq] at hc; subst hc; dsimp only at hf
        unfold lenT at hf
        split at hf
        · rename_i l hl
          refine qvo_pop ?_
          rw [fN_eq] at hf
          simp only [pop, hcal, hargs, hat, evxs, gx_spec hg, hl, popB, hu]; exact hf
        · exact hf
      · exact sl hc
    · rename_i b gs hcal hgs _
      simp only [Cl.mk.injEq] at hc; subst hc; dsimp only at hf
      unfold qvo
      simp only [pop, hcal, gxs_spec hgs]
      exact hf
    · exact sl hc
  · exact sl hc
end
end Go.Ev
namespace Go.Ev
open Go.RowKit
section
variable {n : Nat} {P : Program} {G : PT (List AV)}
theorem cm_spec {op : Op} {f : TT n → S → Option (AV × S)} (hc : cm n P op = some (.mk f)) {X : TT n} {s : S} {r : AV × S} (hf : f X s = some r) : mop P (frOf n X) s op = some r := by
  unfold cm at hc
  split at hc
  · simp only [Option.some.injEq, Cl.mk.injEq] at hc; subst hc; exact hf
  · split at hc
    · rename_i g hg
      simp only [Option.some.injEq, Cl.mk.injEq] at hc; subst hc
      simp only [mop, gx_spec hg]; exact hf
    · cases hc
  · rename_i t k ps
    split at hc
    · rename_i e hu
      split at hc
      · rename_i i z hi hz
        cases hb : Nat.beq (len (cellsA z)) i.size with
        | false => rw [hb] at hc; cases hc
        | true =>
          cases hb2 : Nat.ble (k * i.size) 16777216 with
          | false => rw [hb, hb2] at hc; cases hc
          | true =>
            rw [hb, hb2, cond_true, cond_true] at hc
            split at hc
            · rename_i r0 hr
              simp only [Option.some.injEq, Cl.mk.injEq] at hc; subst hc; dsimp only at hf
              simp only [mop, mBuildS, hu, hi, hz, hb, hb2, cond_true]
              rw [← fillC_spec hr X]
              unfold bsM at hf
              cases hq : r0 X (rep (cellsA z) k) with
              | none => rw [hq] at hf; cases hf
              | some c => rw [hq] at hf; exact hf
            · cases hc
      · cases hc
    · cases hc
  · split at hc
    · rename_i g g' hg hg'
      simp only [Option.some.injEq, Cl.mk.injEq] at hc; subst hc
      simp only [mop, gx_spec hg, gx_spec hg']; exact hf
    · cases hc
  · simp only [Option.some.injEq, Cl.mk.injEq] at hc; subst hc; exact hf
  · split at hc
    · rename_i g g' hg hg'
      simp only [Option.some.injEq, Cl.mk.injEq] at hc; subst hc
      simp only [mop, gx_spec hg, gx_spec hg']; exact hf
    · cases hc
  · split at hc
    · rename_i g g' g2 hg hg' hg2
      simp only [Option.some.injEq, Cl.mk.injEq] at hc; subst hc
      simp only [mop, gx_spec hg, gx_spec hg', gx_spec hg2]; exact hf
    · cases hc
  · split at hc
    · rename_i g g' g2 hg hg' hg2
      simp only [Option.some.injEq, Cl.mk.injEq] at hc; subst hc
      simp only [mop, gx_spec hg, gx_spec hg', gx_spec hg2]; exact hf
    · cases hc
  · split at hc
    · rename_i g hg
      simp only [Option.some.injEq, Cl.mk.injEq] at hc; subst hc
      simp only [mop, gx_spec hg]; exact hf
    · cases hc
  · rename_i c
    split at hc
    · rename_i t t2 x y hcal hat hargs
      split at hc
      · rename_i g g' hg hg'
        simp only [Option.some.injEq, Cl.mk.injEq] at hc; subst hc
        simp only [mop, hcal, hat, hargs, evxs, gx_spec hg, gx_spec hg']; exact hf
      · cases hc
    · rename_i t t2 x y hcal hat hargs
      split at hc
      · rename_i g g' hg hg'
        simp only [Option.some.injEq, Cl.mk.injEq] at hc; subst hc
        simp only [mop, hcal, hat, hargs, evxs, gx_spec hg, gx_spec hg']; exact hf
      · cases hc
    · cases hc
  · cases hc
theorem ca_spec {op : Op} {f : TT n → Option (AO × (Ps → AV))} (hc : ca n P op = some (.mk f)) (X : TT n) {r : AO × (Ps → AV)} (hf : f X = some r) : alq P (frOf n X) op = some r := by
  unfold ca at hc
  split at hc
  · split at hc
    · rename_i z hz
      simp only [Option.some.injEq, Cl.mk.injEq] at hc; subst hc
      simp only [alq, hz]; exact hf
    · cases hc
  · split at hc
    · rename_i g hg
      simp only [Option.some.injEq, Cl.mk.injEq] at hc; subst hc
      simp only [alq, gx_spec hg]; exact hf
    · cases hc
  · rename_i t k ps
    split at hc
    · rename_i e hu
      split at hc
      · rename_i i z hi hz
        cases hb : Nat.beq (len (cellsA z)) i.size with
        | false => rw [hb] at hc; cases hc
        | true =>
          cases hb2 : Nat.ble (k * i.size) 16777216 with
          | false => rw [hb, hb2] at hc; cases hc
          | true =>
            rw [hb, hb2, cond_true, cond_true] at hc
            split at hc
            · rename_i r0 hr
              simp only [Option.some.injEq, Cl.mk.injEq] at hc; subst hc; dsimp only at hf
              simp only [alq, hu, hi, hz, hb, hb2, cond_true]
              rw [← fillC_spec hr X]
              unfold bsA at hf
              cases hq : r0 X (rep (cellsA z) k) with
              | none => rw [hq] at hf; cases hf
              | some c => rw [hq] at hf; exact hf
            · cases hc
      · cases hc
    · cases hc
  · simp only [Option.some.injEq, Cl.mk.injEq] at hc; subst hc; exact hf
end
structure CFOk (P : Program) (B : Nat → Prop) (W : World) (cf : CF) : Prop where
  call : ∀ (g : FuncId) (vs : List AV) (s : S) (k : KV), g ≠ yNo → cf g vs s k = true → CallOk P B W g vs s fun v s' => k v s' = true
  round : ∀ (b : Ps) (vs : List AV) (s : S) (k : KV), cf yNo (.y b :: vs) s k = true → RoundOk P B W b vs s fun v s' => k v s' = true
theorem ne_yNo {g : Nat} {b : Bool} (h : (Bool.rec b false (Nat.beq g yNo) : Bool) = true) : g ≠ yNo ∧ b = true := by
  rw [beq_dec] at h
  by_cases e : g = yNo
  · rw [decide_eq_true e] at h; cases h
  · rw [decide_eq_false e] at h; exact ⟨e, h⟩
section
variable {n : Nat} {P : Program} {B : Nat → Prop} {W : World} {G : PT (List AV)} {cf : CF}
theorem allK_spec {k : KV} : ∀ {l : List (AV × S)}, allK k l = true → ∀ r ∈ l, k r.1 r.2 = true
  | [], _, r, hr => by cases hr
  | a :: l, h, r, hr => by
    have h' : (Bool.rec false (allK k l) (k a.1 a.2) : Bool) = true := h
    cases hk : k a.1 a.2 with
    | false => rw [hk] at h'; cases h'
    | true =>
      rw [hk] at h'
      rcases List.mem_cons.1 hr with rfl | hr
      · exact hk
      · exact allK_spec h' r hr
theorem opOk_qvo (hG : GOk B W G) {o : Oper} {fr : Fr} {s : S} {K : AV → S → Prop} {v : AV} (h : qvo P G fr s.h o.op = some v) (hk : K v s) : OpOk P B W o fr s K := by
  unfold qvo at h
  split at h
  · rename_i u hu
    simp only [Option.some.injEq] at h; subst h
    exact opOk_pop hu hk
  · exact opOk_lop hG h hk
theorem pd_spec {N : Nat} {o : Oper} {p : AV → TT n → TT n} (h : pd n N o = some (.mk p)) : dstOk N o = true ∧ ∀ v X, frOf n (p v X) = putF (frOf n X) o.dst v := by
  unfold pd at h
  split at h
  · rename_i t ht
    cases hb : Nat.ble (Nat.succ t) N with
    | false => rw [hb] at h; cases h
    | true =>
      cases hb2 : Nat.ble (Nat.succ t) (Nat.pow 2 n) with
      | false => rw [hb, hb2] at h; cases h
      | true =>
        rw [hb, hb2] at h
        simp only [cond_true, Option.some.injEq] at h
        refine ⟨by unfold dstOk; rw [ht]; exact hb, fun v X => ?_⟩
        rw [sC_spec h, ht]
        exact frOf_set v X (ble_le hb2)
  · rename_i ht
    simp only [Option.some.injEq, Cl.mk.injEq] at h; subst h
    exact ⟨by unfold dstOk; rw [ht], fun v X => by rw [ht]; rfl⟩
theorem opW_spec (hG : GOk B W G) (hcf : CFOk P B W cf) {o : Oper} {p : AV → TT n → TT n} {rest w : Rn n} (hw : opW n P G o p rest = .mk w) {X : TT n} {s : S} {k : K n} (h : w cf X s k = true) :
    OpOk P B W o (frOf n X) s fun v s' => rest cf (p v X) s' k = true := by
  unfold opW at hw
  cases hi : isCo o.op with
  | true =>
    rw [hi, cond_true] at hw
    split at hw
    rename_i f hf
    simp only [Cl.mk.injEq] at hw; subst hw; dsimp only at h
    cases hq : f X s.h with
    | none => rw [hq] at h; cases h
    | some v => rw [hq] at h; exact opOk_qvo hG (co_spec hf hq) h
  | false =>
    rw [hi, cond_false] at hw
    split at hw
    · rename_i f hf
      simp only [Cl.mk.injEq] at hw; subst hw; dsimp only at h
      cases hq : f X s with
      | none => rw [hq] at h; cases h
      | some r => rw [hq] at h; exact opOk_mop (v := r.1) (s' := r.2) (cm_spec hf hq) h
    · split at hw
      · rename_i c hop
        split at hw
        · rename_i g gs hc hgs
          rw [beq_dec] at hw
          by_cases e : g = yNo
          · rw [decide_eq_true e] at hw
            simp only [Cl.mk.injEq] at hw; subst hw; cases h
          · rw [decide_eq_false e] at hw
            simp only [Cl.mk.injEq] at hw; subst hw; dsimp only at h
            exact opOk_call hop hc (fv := .f g []) rfl (gxs_spec hgs X) (.inl ⟨[], rfl, rfl⟩) (hcf.call _ _ _ _ e h)
        · rename_i f gs hne hc hgs
          split at hw
          · rename_i g hg
            simp only [Cl.mk.injEq] at hw; subst hw; dsimp only at h
            unfold callD at h
            split at h
            · rename_i g' caps hv
              exact opOk_call hop hc (fv := .f g' caps) (by rw [gx_spec hg, hv]) (gxs_spec hgs X) (.inl ⟨caps, rfl, rfl⟩) (hcf.call _ _ _ _ (ne_yNo h).1 (ne_yNo h).2)
            · rename_i g' v hv
              exact opOk_call hop hc (fv := .fm g' v) (by rw [gx_spec hg, hv]) (gxs_spec hgs X) (.inr ⟨v, rfl, rfl⟩) (hcf.call _ _ _ _ (ne_yNo h).1 (ne_yNo h).2)
            · rename_i b hv
              exact opOk_yield hop hc (b := b) (by rw [gx_spec hg, hv]) (gxs_spec hgs X) (hcf.round _ _ _ _ h)
            · rename_i t m hv
              split at h
              · rename_i e g' off b q ws ht hm hws
                split at h
                · rename_i v hl
                  exact opOk_mo hop hc (by rw [gx_spec hg, hv]) (by rw [gxs_spec hgs X, hws]) ht hm hl (hcf.call _ _ _ _ (ne_yNo h).1 (ne_yNo h).2)
                · cases h
              · cases h
            · cases h
          · simp only [Cl.mk.injEq] at hw; subst hw; cases h
        · simp only [Cl.mk.injEq] at hw; subst hw; cases h
      · rename_i it hop
        split at hw
        · rename_i g hg
          simp only [Cl.mk.injEq] at hw; subst hw; dsimp only at h
          unfold nxV at h
          split at h
          · rename_i b hv
            split at h
            · rename_i l hl
              exact opOk_next hop (by rw [gx_spec hg, hv]) hl (allK_spec h)
            · cases h
          · cases h
        · simp only [Cl.mk.injEq] at hw; subst hw; cases h
      · simp only [Cl.mk.injEq] at hw; subst hw; dsimp only at h
        cases hq : qvo P G (frOf n X) s.h o.op with
        | some v => rw [hq] at h; exact opOk_qvo hG hq h
        | none =>
          rw [hq] at h
          cases hm : mop P (frOf n X) s o.op with
          | none => rw [hm] at h; cases h
          | some r => rw [hm] at h; exact opOk_mop (v := r.1) (s' := r.2) hm h
      · simp only [Cl.mk.injEq] at hw; subst hw; cases h
theorem gd_spec {ops : List Oper} {o : Oper} {c : Option (Cl (TT n → Bool))} (h : gd n ops o = some c) (X : TT n) : (c = none ∧ guardOk ops (frOf n X) o = true) ∨ (∃ g, c = some (.mk g) ∧ g X = guardOk ops (frOf n X) o) := by
  unfold gd at h
  unfold guardOk
  split at h
  · rename_i hg
    simp only [Option.some.injEq] at h; subst h
    rw [hg]; exact .inl ⟨rfl, rfl⟩
  · rename_i j w hg
    rw [hg]
    dsimp only
    split at h
    · rename_i oj hj
      rw [hj]
      dsimp only
      split at h
      · rename_i t ht
        rw [ht]
        dsimp only
        cases hb : Nat.ble (Nat.succ t) (Nat.pow 2 n) with
        | false => rw [hb] at h; cases h
        | true =>
          rw [hb, cond_true] at h
          split at h
          rename_i g hgc
          have hgx : getF (frOf n X) t = g X := by rw [gC_spec hgc X]; exact frOf_lt X (ble_le hb)
          rw [hgx]
          cases w with
          | true =>
            simp only [Option.some.injEq] at h; subst h
            refine .inr ⟨_, rfl, ?_⟩
            unfold isT
            cases hv : g X <;> simp
          | false =>
            simp only [Option.some.injEq] at h; subst h
            refine .inr ⟨_, rfl, ?_⟩
            unfold isF
            cases hv : g X <;> simp
      · cases h
    · cases h
theorem gdW_spec {ops : List Oper} {o : Oper} {p : AV → TT n → TT n} {rest w : Rn n} {c : Cl (Rn n)} (hw : gdW n ops o p rest c = .mk w) {X : TT n} {s : S} {k : K n} (h : w cf X s k = true) :
    (guardOk ops (frOf n X) o = false ∧ rest cf (p und X) s k = true) ∨ (guardOk ops (frOf n X) o = true ∧ ∃ w', c = .mk w' ∧ w' cf X s k = true) := by
  unfold gdW at hw
  split at hw
  · rename_i hg
    rcases gd_spec hg X with ⟨_, h1⟩ | ⟨g, h1, _⟩
    · exact .inr ⟨h1, w, hw, h⟩
    · cases h1
  · rename_i g hg
    rcases gd_spec hg X with ⟨h1, _⟩ | ⟨g', h1, h2⟩
    · cases h1
    · simp only [Option.some.injEq, Cl.mk.injEq] at h1; subst h1
      split at hw
      rename_i w'
      simp only [Cl.mk.injEq] at hw; subst hw; dsimp only at h
      cases hb : g X with
      | false => rw [hb] at h h2; exact .inl ⟨h2.symm, h⟩
      | true => rw [hb] at h h2; exact .inr ⟨h2.symm, w', rfl, h⟩
  · simp only [Cl.mk.injEq] at hw; subst hw; cases h
theorem stp_spec (hG : GOk B W G) (hcf : CFOk P B W cf) {ops : List Oper} {N : Nat} {o : Oper} {rest w : Rn n} (hw : stp n P G ops N o rest = .mk w) {X : TT n} {s : S} {k : K n} (h : w cf X s k = true) :
    dstOk N o = true ∧ ((guardOk ops (frOf n X) o = false ∧ ∃ X', frOf n X' = putF (frOf n X) o.dst und ∧ rest cf X' s k = true) ∨
      (guardOk ops (frOf n X) o = true ∧ OpOk P B W o (frOf n X) s fun v s' => ∃ X', frOf n X' = putF (frOf n X) o.dst v ∧ rest cf X' s' k = true)) := by
  unfold stp at hw
  split at hw
  · rename_i p hp
    obtain ⟨h1, h2⟩ := pd_spec hp
    refine ⟨h1, ?_⟩
    rcases gdW_spec hw h with ⟨a1, a2⟩ | ⟨a1, w', a2, a3⟩
    · exact .inl ⟨a1, _, h2 _ _, a2⟩
    · exact .inr ⟨a1, (opW_spec hG hcf a2 a3).mono fun v s' h => ⟨_, h2 _ _, h⟩⟩
  · simp only [Cl.mk.injEq] at hw; subst hw; cases h
theorem tel_spec {ops : List Oper} {N : Nat} {o : Oper} {rest w : Rn n} (hw : tel n P G ops N o rest = .mk w) {X : TT n} {s : S} {k : K n} (h : w cf X s k = true) :
    dstOk N o = true ∧ ((∃ v X', qv P G ops (frOf n X) s o = some v ∧ frOf n X' = putF (frOf n X) o.dst v ∧ rest cf X' s k = true) ∨
      (guardOk ops (frOf n X) o = true ∧ ∃ ob mk q s' X', alq P (frOf n X) o.op = some (ob, mk) ∧ newO ob s = some (q, s') ∧ frOf n X' = putF (frOf n X) o.dst (mk q) ∧ rest cf X' s' k = true)) := by
  unfold tel at hw
  split at hw
  · rename_i p hp
    obtain ⟨h1, h2⟩ := pd_spec hp
    refine ⟨h1, ?_⟩
    rcases gdW_spec hw h with ⟨a1, a2⟩ | ⟨a1, w', a2, a3⟩
    · exact .inl ⟨und, _, by unfold qv; rw [a1]; rfl, h2 _ _, a2⟩
    · unfold telW at a2
      cases hi : isAlq o.op with
      | true =>
        rw [hi, cond_true] at a2
        split at a2
        · rename_i f hf
          simp only [Cl.mk.injEq] at a2; subst a2; dsimp only at a3
          unfold thA at a3
          cases hq : f X with
          | none => rw [hq] at a3; cases a3
          | some r =>
            rw [hq] at a3
            dsimp only at a3
            cases hn : newO r.1 s with
            | none => rw [hn] at a3; cases a3
            | some q =>
              rw [hn] at a3
              exact .inr ⟨a1, r.1, r.2, q.1, q.2, _, ca_spec hf X hq, hn, h2 _ _, a3⟩
        · simp only [Cl.mk.injEq] at a2; subst a2; cases a3
      | false =>
        rw [hi, cond_false] at a2
        split at a2
        rename_i f hf
        simp only [Cl.mk.injEq] at a2; subst a2; dsimp only at a3
        cases hq : f X s.h with
        | none => rw [hq] at a3; cases a3
        | some v =>
          rw [hq] at a3
          refine .inl ⟨v, _, ?_, h2 _ _, a3⟩
          have := co_spec hf hq
          unfold qv; rw [a1]; exact this
  · simp only [Cl.mk.injEq] at hw; subst hw; cases h
end
end Go.Ev
