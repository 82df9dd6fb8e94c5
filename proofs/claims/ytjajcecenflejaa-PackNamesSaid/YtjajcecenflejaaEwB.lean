/- A machine that runs a Go text by reckoning: laid out ahead, soundly: frames and operations. Of no program. -/
import Derived.Test.YtjajcecenflejaaEwA
namespace Go.Ev
open Go.RowKit

theorem getN_succ (n t : Nat) (x : TT (n + 1)) : getN (n + 1) t x = Bool.rec (getN n (t / 2) (Pr.b x)) (getN n (t / 2) (Pr.a x)) (Nat.beq (t % 2) 0) := rfl
theorem setN_succ (n t : Nat) (v : AV) (x : TT (n + 1)) : setN (n + 1) t v x = Bool.rec (motive := fun _ => Pr (TT n) (TT n)) ⟨Pr.a x, setN n (t / 2) v (Pr.b x)⟩ ⟨setN n (t / 2) v (Pr.a x), Pr.b x⟩ (Nat.beq (t % 2) 0) := rfl
theorem beq_par {t : Nat} : (Nat.beq (t % 2) 0 = true ∧ t % 2 = 0) ∨ (Nat.beq (t % 2) 0 = false ∧ t % 2 = 1) := by
  rcases Nat.mod_two_eq_zero_or_one t with h | h
  · exact .inl ⟨by rw [h]; rfl, h⟩
  · exact .inr ⟨by rw [h]; rfl, h⟩
theorem getN_setN (v : AV) : ∀ (n t u : Nat) (x : TT n), t < 2 ^ n → u < 2 ^ n → getN n u (setN n t v x) = if u = t then v else getN n u x
  | 0, t, u, x, ht, hu => by
    have : u = t := by simp at ht hu; omega
    rw [if_pos this]; rfl
  | n + 1, t, u, x, ht, hu => by
    have ih := getN_setN v n (t / 2) (u / 2)
    have h1 : t / 2 < 2 ^ n := by rw [Nat.pow_succ] at ht; omega
    have h2 : u / 2 < 2 ^ n := by rw [Nat.pow_succ] at hu; omega
    rw [getN_succ, setN_succ]
    rcases @beq_par t with ⟨a1, a2⟩ | ⟨a1, a2⟩ <;> rcases @beq_par u with ⟨b1, b2⟩ | ⟨b1, b2⟩ <;> simp only [a1, b1, getN_succ]
    · rw [ih _ h1 h2]
      by_cases h : u = t
      · rw [if_pos h, if_pos (by omega)]
      · rw [if_neg h, if_neg (by omega)]
    · rw [if_neg (by omega)]
    · rw [if_neg (by omega)]
    · rw [ih _ h1 h2]
      by_cases h : u = t
      · rw [if_pos h, if_pos (by omega)]
      · rw [if_neg h, if_neg (by omega)]
theorem ble_iff {a b : Nat} : Nat.ble a b = true ↔ a ≤ b := ⟨ble_le, Nat.ble_eq_true_of_le⟩
theorem frOf_lt {n t : Nat} (x : TT n) (h : t < 2 ^ n) : frOf n x t = getN n t x := by
  unfold frOf
  rw [show Nat.ble (Nat.succ t) (Nat.pow 2 n) = true from ble_iff.2 h]
theorem frOf_ge {n t : Nat} (x : TT n) (h : ¬ t < 2 ^ n) : frOf n x t = und := by
  unfold frOf
  cases hb : Nat.ble (Nat.succ t) (Nat.pow 2 n) with
  | false => rfl
  | true => exact absurd (ble_le hb) h
theorem frOf_set {n t : Nat} (v : AV) (x : TT n) (h : t < 2 ^ n) : frOf n (setN n t v x) = setF (frOf n x) t v := by
  funext u
  unfold setF
  by_cases hu : u < 2 ^ n
  · rw [frOf_lt _ hu, frOf_lt _ hu, getN_setN v n t u x h hu]
    by_cases e : u = t
    · subst e; rw [if_pos rfl, Nat.beq_refl]; rfl
    · rw [if_neg e]
      cases hb : Nat.beq u t with
      | false => rfl
      | true => exact absurd (Nat.eq_of_beq_eq_true hb) e
  · rw [frOf_ge _ hu, frOf_ge _ hu]
    cases hb : Nat.beq u t with
    | false => rfl
    | true => exact absurd (Nat.eq_of_beq_eq_true hb ▸ h) hu
theorem gC_spec : ∀ {n t : Nat} {g : TT n → AV}, gC n t = .mk g → ∀ x, g x = getN n t x
  | 0, t, g, h, x => by
    have h' : Cl.mk (fun x : TT 0 => x) = .mk g := h
    injection h' with h'; subst h'; rfl
  | n + 1, t, g, h, x => by
    have h' : (Cl.rec (motive := fun _ => Cl (TT (n + 1) → AV)) (fun g => Bool.rec (.mk fun x => g (Pr.b x)) (.mk fun x => g (Pr.a x)) (Nat.beq (t % 2) 0)) (gC n (t / 2)) : Cl (TT (n + 1) → AV)) = .mk g := h
    clear h
    cases hg : gC n (t / 2) with
    | mk g0 =>
      rw [hg] at h'
      have ih := gC_spec hg
      rw [getN_succ]
      rcases @beq_par t with ⟨a1, a2⟩ | ⟨a1, a2⟩
      · rw [a1] at h' ⊢; injection h' with h'; subst h'; exact ih _
      · rw [a1] at h' ⊢; injection h' with h'; subst h'; exact ih _
theorem sC_spec : ∀ {n t : Nat} {f : AV → TT n → TT n}, sC n t = .mk f → ∀ v x, f v x = setN n t v x
  | 0, t, f, h, v, x => by
    have h' : Cl.mk (fun (v : AV) (_ : TT 0) => (v : TT 0)) = .mk f := h
    injection h' with h'; subst h'; rfl
  | n + 1, t, f, h, v, x => by
    have h' : (Cl.rec (motive := fun _ => Cl (AV → Pr (TT n) (TT n) → Pr (TT n) (TT n))) (fun f => Bool.rec (.mk fun v x => ⟨Pr.a x, f v (Pr.b x)⟩) (.mk fun v x => ⟨f v (Pr.a x), Pr.b x⟩) (Nat.beq (t % 2) 0)) (sC n (t / 2))) = .mk f := h
    clear h
    cases hg : sC n (t / 2) with
    | mk g0 =>
      rw [hg] at h'
      have ih := sC_spec hg
      rw [setN_succ]
      rcases @beq_par t with ⟨a1, a2⟩ | ⟨a1, a2⟩
      · rw [a1] at h' ⊢; injection h' with h'; subst h'; simp only [ih]
      · rw [a1] at h' ⊢; injection h' with h'; subst h'; simp only [ih]
theorem getN_zN : ∀ (n t : Nat), getN n t (zN n) = und
  | 0, _ => rfl
  | n + 1, t => by
    rw [getN_succ]
    rcases @beq_par t with ⟨a1, a2⟩ | ⟨a1, a2⟩ <;> rw [a1] <;> exact getN_zN n (t / 2)
theorem frOf_zN (n : Nat) : frOf n (zN n) = frU := by
  funext t
  by_cases h : t < 2 ^ n
  · rw [frOf_lt _ h, getN_zN]; rfl
  · rw [frOf_ge _ h]; rfl
section
variable {n : Nat} {P : Program} {G : PT (List AV)}
theorem gx_spec {x : Operand} {g : TT n → AV} (h : gx n x = some (.mk g)) (X : TT n) : evx (frOf n X) x = some (g X) := by
  unfold gx at h
  split at h
  · rename_i t
    cases hb : Nat.ble (Nat.succ t) (Nat.pow 2 n) with
    | false => rw [hb] at h; cases h
    | true =>
      rw [hb] at h
      simp only [cond_true, Option.some.injEq] at h
      simp only [evx, getF, frOf_lt X (ble_le hb), gC_spec h X]
  · rename_i v
    split at h
    · rename_i u hu
      simp only [Option.some.injEq, Cl.mk.injEq] at h; subst h
      exact hu
    · cases h
  · simp only [Option.some.injEq, Cl.mk.injEq] at h; subst h; rfl
  · simp only [Option.some.injEq, Cl.mk.injEq] at h; subst h; rfl
theorem gxs_spec : ∀ {l : List Operand} {g : TT n → List AV}, gxs n l = some (.mk g) → ∀ X, evxs (frOf n X) l = some (g X)
  | [], g, h, X => by
    have h' : some (Cl.mk (fun _ : TT n => ([] : List AV))) = some (.mk g) := h
    simp only [Option.some.injEq, Cl.mk.injEq] at h'; subst h'; rfl
  | x :: l, g, h, X => by
    have h' : (match gx n x with
      | some (.mk g) => (match gxs n l with
        | some (.mk gs) => some (Cl.mk fun X => g X :: gs X)
        | none => none)
      | none => none) = some (.mk g) := h
    split at h'
    · rename_i g0 h0
      split at h'
      · rename_i gs h1
        simp only [Option.some.injEq, Cl.mk.injEq] at h'; subst h'
        simp only [evxs, gx_spec h0, gxs_spec h1]
      · cases h'
    · cases h'
theorem qvo_pop {fr : Fr} {h : PT AO} {op : Op} {v : AV} (hp : pop P fr op = some v) : qvo P G fr h op = some v := by unfold qvo; rw [hp]
theorem qvo_lop {fr : Fr} {h : PT AO} {op : Op} {v : AV} (hp : pop P fr op = none) (hl : lop P G fr h op = some v) : qvo P G fr h op = some v := by unfold qvo; rw [hp]; exact hl
theorem fillC_spec {place : Nat → Option (Nat × Nat)} : ∀ {l : List (Nat × Operand)} {r : TT n → List AV → Option (List AV)}, fillC n place l = some (.mk r) → ∀ X c, r X c = fillA place (frOf n X) l c
  | [], r, h, X, c => by
    have h' : some (Cl.mk (fun (_ : TT n) (c : List AV) => some c)) = some (.mk r) := h
    simp only [Option.some.injEq, Cl.mk.injEq] at h'; subst h'; rfl
  | p :: l, r, h, X, c => by
    have h' : (match place p.1, gx n p.2 with
      | some (off, size), some (.mk g) => (match fillC n place l with
        | some (.mk r) => some (Cl.mk fun (X : TT n) (c : List AV) => (Bool.rec none (Option.rec none (fun c => r X c) (over (cellsA (g X)) c off)) (Nat.beq (len (cellsA (g X))) size) : Option (List AV)))
        | none => none)
      | _, _ => none) = some (.mk r) := h
    obtain ⟨i, x⟩ := p
    split at h'
    · rename_i off size g hpl hg
      split at h'
      · rename_i r0 h0
        simp only [Option.some.injEq, Cl.mk.injEq] at h'; subst h'
        have ih := fillC_spec h0 X
        simp only [fillA, hpl, gx_spec hg X]
        cases Nat.beq (len (cellsA (g X))) size with
        | false => rfl
        | true =>
          dsimp only [cond_true]
          cases over (cellsA (g X)) c off with
          | none => rfl
          | some c => exact ih c
      · cases h'
    · cases h'
theorem bnC_spec {x : Option Operand} {f : TT n → Nat → Option Nat} (h : bnC n x = some (.mk f)) (X : TT n) (d : Nat) : bnd (frOf n X) d x = f X d := by
  unfold bnC at h
  split at h
  · simp only [Option.some.injEq, Cl.mk.injEq] at h; subst h; rfl
  · split at h
    · rename_i g hg
      simp only [Option.some.injEq, Cl.mk.injEq] at h; subst h
      simp only [bnd, gx_spec hg]
    · cases h
theorem onII_spec {b : BinOp} {t : TypeId} {u v : AV} {f : IntKind → Int → Int → Option AV} (hs : isSh b = false) (hf : ∀ k a c, f k a c = binI b k a c) : onII u v f (popBin P b t u v) = popBin P b t u v := by
  unfold onII
  split
  · rename_i k a
    split
    · rename_i k' c
      unfold popBin
      dsimp only
      rw [hs, cond_false]
      cases kEq k k' with
      | true => exact hf _ _ _
      | false => rfl
    · rfl
  · rfl
theorem intO_eq (k : IntKind) (n : Int) : intO k n = some (.i k n) := by unfold intO; rw [fI_eq]
theorem bI_spec {b : BinOp} {f : IntKind → Int → Int → Option AV} (h : bI b = .mk f) (k : IntKind) (a c : Int) : f k a c = binI b k a c := by
  cases b <;> (simp only [bI, Cl.mk.injEq] at h; subst h; first | rfl | exact intO_eq k _)
theorem bB_spec {b : BinOp} {t : TypeId} {f : AV → AV → Option AV} (h : bB P b t = .mk f) (u v : AV) : f u v = popBin P b t u v := by
  unfold bB at h
  cases hs : isSh b with
  | true =>
    rw [hs] at h
    simp only [cond_true, Cl.mk.injEq] at h; subst h; rfl
  | false =>
    rw [hs, cond_false] at h
    cases hb : bI b with
    | mk g =>
      rw [hb] at h
      simp only [Cl.mk.injEq] at h; subst h
      exact onII_spec hs (bI_spec hb)
theorem ptA_spec {t : TypeId} {off : Nat} {p : List AV → Option AV} (h : ptA P t off = some (.mk p)) (c : List AV) : p c = partA P t c off := by
  unfold ptA at h
  split at h
  · rename_i d i hd hi
    unfold partA
    rw [hd, hi]
    dsimp only
    cases hb : isAg P t with
    | true => rw [hb] at h; simp only [cond_true, Option.some.injEq, Cl.mk.injEq] at h; subst h; rfl
    | false => rw [hb] at h; simp only [cond_false, Option.some.injEq, Cl.mk.injEq] at h; subst h; rfl
  · cases h
theorem slB_eq (fr : Fr) (t : TypeId) (u : AV) (lo hi : Option Operand) : popSl P fr t u lo hi = slB P t u (fun d => bnd fr d lo) (fun d => bnd fr d hi) := rfl
set_option maxHeartbeats 2000000 in
theorem co_spec {op : Op} {f : TT n → PT AO → Option AV} (hc : co n P G op = .mk f) {X : TT n} {h : PT AO} {v : AV} (hf : f X h = some v) : qvo P G (frOf n X) h op = some v := by
  have sl : ∀ {op : Op}, slow n P G op = .mk f → qvo P G (frOf n X) h op = some v := fun e => by
    unfold slow at e
    simp only [Cl.mk.injEq] at e; subst e; exact hf
  unfold co at hc
  split at hc
  · split at hc
    · rename_i g hg
      simp only [Cl.mk.injEq] at hc; subst hc; dsimp only at hf
      exact qvo_pop (by simp only [pop, gx_spec hg]; exact hf)
    · exact sl hc
  · split at hc
    · rename_i g hg
      simp only [Cl.mk.injEq] at hc; subst hc; dsimp only at hf
      exact qvo_pop (by simp only [pop, gx_spec hg]; exact hf)
    · exact sl hc
  · split at hc
    · rename_i g g' f0 hg hg' hb
      simp only [Cl.mk.injEq] at hc; subst hc; dsimp only at hf
      refine qvo_pop ?_
      simp only [pop, gx_spec hg, gx_spec hg']
      rw [← bB_spec hb]; exact hf
    · exact sl hc
  · split at hc
    · rename_i g fs hg hu
      split at hc
      · rename_i fl hfl
        split at hc
        · rename_i p hp
          simp only [Cl.mk.injEq] at hc; subst hc; dsimp only at hf
          refine qvo_pop ?_
          simp only [pop, gx_spec hg, hu]
          unfold onA at hf
          split at hf
          · rename_i c hc
            rw [hc]; dsimp only; rw [hfl]; dsimp only; rw [← ptA_spec hp]; exact hf
          · cases hf
        · exact sl hc
      · exact sl hc
    · exact sl hc
  · split at hc
    · rename_i g fs hg hu
      split at hc
      · rename_i fl hfl
        split at hc
        · rename_i i hi
          cases hb : Nat.beq i.size 0 with
          | true => rw [hb] at hc; exact sl hc
          | false =>
            rw [hb] at hc
            simp only [cond_false, Cl.mk.injEq] at hc; subst hc; dsimp only at hf
            refine qvo_pop ?_
            simp only [pop, gx_spec hg, hu]
            unfold onP at hf
            split at hf
            · rename_i b o hc
              rw [hc]; dsimp only; rw [hfl]; dsimp only; rw [hi]; dsimp only; rw [hb]; exact hf
            · cases hf
        · exact sl hc
      · exact sl hc
    · exact sl hc
  · split at hc
    · rename_i g g' e hg hg' hu
      split at hc
      · rename_i fi hfi
        simp only [Cl.mk.injEq] at hc; subst hc; dsimp only at hf
        refine qvo_pop ?_
        simp only [pop, gx_spec hg, gx_spec hg']
        unfold onL at hf
        split at hf
        · rename_i b o k c hc
          unfold onI at hf
          split at hf
          · rename_i q i hi
            rw [hc, hi]
            unfold popIx
            dsimp only
            rw [hu]; dsimp only; rw [hfi]; dsimp only
            dsimp only at hf
            cases hb : Nat.ble (i + 1) k with
            | true => rw [show Nat.ble (Nat.succ i) k = true from hb] at hf; exact hf
            | false => rw [show Nat.ble (Nat.succ i) k = false from hb] at hf; cases hf
          · cases hf
        · exact hf
      · exact sl hc
    · rename_i g g' hg hg' _
      simp only [Cl.mk.injEq] at hc; subst hc; dsimp only at hf
      refine qvo_pop ?_
      simp only [pop, gx_spec hg, gx_spec hg']; exact hf
    · exact sl hc
  · split at hc
    · rename_i g g' hg hg'
      simp only [Cl.mk.injEq] at hc; subst hc; dsimp only at hf
      refine qvo_pop ?_
      simp only [pop, gx_spec hg, gx_spec hg']; exact hf
    · exact sl hc
  · split at hc
    · rename_i g hg
      simp only [Cl.mk.injEq] at hc; subst hc; dsimp only at hf
      refine qvo_pop ?_
      simp only [pop, gx_spec hg]
      unfold onT at hf
      split at hf
      · rename_i c hc; rw [hc]; exact hf
      · cases hf
    · exact sl hc
  · split at hc
    · rename_i g hg
      simp only [Cl.mk.injEq] at hc; subst hc; dsimp only at hf
      refine qvo_pop ?_
      simp only [pop, gx_spec hg]
      unfold nilV at hf
      split at hf
      · rename_i hc; rw [hc]; exact hf
      · rename_i hc; rw [hc]; exact hf
      · rename_i hc; rw [hc]; exact hf
      · cases hf
    · exact sl hc
  · split at hc
    · rename_i g ga gb hg hga hgb
      simp only [Cl.mk.injEq] at hc; subst hc; dsimp only at hf
      refine qvo_pop ?_
      simp only [pop, gx_spec hg, gx_spec hga, gx_spec hgb]
      unfold pickV at hf
      split at hf
      · rename_i x hc
        rw [hc]
        cases x <;> exact hf
      · cases hf
    · exact sl hc
  · split at hc
    · rename_i g hg
      simp only [Cl.mk.injEq] at hc; subst hc; dsimp only at hf
      refine qvo_pop ?_
      simp only [pop, gx_spec hg]
      unfold notV at hf
      split at hf
      · rename_i c hc; rw [hc]; exact hf
      · cases hf
    · exact sl hc
  · rename_i fn first c
    split at hc
    · rename_i gs hfst hgs
      simp only [Cl.mk.injEq] at hc; subst hc; dsimp only at hf
      refine qvo_pop ?_
      have he : first.isEmpty = true := by
        have : first = #[] := by apply Array.ext'; simpa using hfst
        subst this; rfl
      simp only [pop, he, cond_true, gxs_spec hgs]
      exact hf
    · exact sl hc
  · split at hc
    · rename_i g l0 h0 hg hl hh
      simp only [Cl.mk.injEq] at hc; subst hc; dsimp only at hf
      refine qvo_pop ?_
      simp only [pop, gx_spec hg, slB_eq]
      rw [show (fun d => bnd (frOf n X) d _) = l0 X from funext fun d => bnC_spec hl X d, show (fun d => bnd (frOf n X) d _) = h0 X from funext fun d => bnC_spec hh X d]
      exact hf
    · exact sl hc
  · rename_i t ps
    split at hc
    · rename_i z fs hz hu
      split at hc
      · rename_i pl hpl
        unfold bdC at hc
        split at hc
        · rename_i r hr
          simp only [Cl.mk.injEq] at hc; subst hc; dsimp only at hf
          refine qvo_pop ?_
          simp only [pop, popBuild, hz, hu, hpl]
          rw [← fillC_spec hr X]
          unfold okc at hf
          cases hq : r X (cellsA z) with
          | none => rw [hq] at hf; cases hf
          | some c => rw [hq] at hf; exact hf
        · exact sl hc
      · exact sl hc
    · exact sl hc
  · rename_i t x
    split at hc
    · rename_i g d hg hu
      cases hb : isAg P t with
      | true =>
        rw [hb, cond_true] at hc
        split at hc
        · rename_i i hi
          simp only [Cl.mk.injEq] at hc; subst hc; dsimp only at hf
          refine qvo_lop rfl ?_
          simp only [lop, gx_spec hg, hu]
          unfold onP at hf
          split at hf
          · rename_i b o hc
            rw [hc]; dsimp only; rw [hb, cond_true, hi]; exact hf
          · cases hf
        · exact sl hc
      | false =>
        rw [hb, cond_false] at hc
        simp only [Cl.mk.injEq] at hc; subst hc; dsimp only at hf
        refine qvo_lop rfl ?_
        unfold onP at hf
        split at hf
        · rename_i b o hc
          simp only [lop, gx_spec hg, hu]
          rw [hc]; dsimp only; rw [hb, cond_false]; exact hf
        · exact hf
    · exact sl hc
  · rename_i t x k ok
    split at hc
    · rename_i g g' hg hg'
      simp only [Cl.mk.injEq] at hc; subst hc; dsimp only at hf
      refine qvo_lop rfl ?_
      unfold lkV at hf
      split at hf
      · rename_i kt et hu
        cases hck : ckA P 6 kt (g' X) with
        | false => rw [hck] at hf; cases hf
        | true =>
          rw [hck, cond_true] at hf
          simp only [lop, gx_spec hg, gx_spec hg', hu, hck, cond_true]
          split at hf
          · rename_i z hx hz; rw [hx, hz]; exact hf
          · rename_i b z hx hz; rw [hx, hz]; exact hf
          · cases hf
      · cases hf
    · exact sl hc
  · rename_i c
    split at hc
    · rename_i t ts _ x hcal hat hargs
      split at hc
      · rename_i g e hg hu
        simp only [Cl.mk.injEq] at hc; subst hc; dsimp only at hf
        unfold lenS at hf
        split at hf
        · rename_i hl
          refine qvo_pop ?_
          simp only [pop, hcal, hargs, hat, evxs, gx_spec hg, hl, popB, hu]; exact hf
        · rename_i b o k cp hl
          refine qvo_pop ?_
          simp only [pop, hcal, hargs, hat, evxs, gx_spec hg, hl, popB, hu]; exact hf
        · exact hf
      · rename_i g hg hu
        simp only [Cl.mk.injEq] at hc; subst hc; dsimp only at hf
        unfold lenT at hf
        split at hf
        · rename_i l hl
          refine qvo_pop ?_
          rw [fN_eq] at hf
          simp only [pop, hcal, hargs, hat, evxs, gx_spec hg, hl, popB, hu]; exact hf
        · exact hf
      · exact sl hc
    · rename_i b gs hcal hgs _
      simp only [Cl.mk.injEq] at hc; subst hc; dsimp only at hf
      unfold qvo
      simp only [pop, hcal, gxs_spec hgs]
      exact hf
    · exact sl hc
  · exact sl hc
end
end Go.Ev
