/- A machine that runs a Go text by reckoning: laid out ahead, soundly: code, functions, and what comes of a closed call. Of no program. -/
import Derived.Test.YtkeillekikbhoaaGreatDoorEwD
import Derived.LoopN
import Derived.Scope
namespace Go.Ev
open Go.RowKit

section
variable {n : Nat} {P : Program} {B : Nat → Prop} {W : World} {G : PT (List AV)} {cf : CF}
/-- what holds behind operations -/
def KEnd (P : Program) (B : Nat → Prop) (W : World) (D : Dn) (R : Rf) (w : World) (N n : Nat) (k : K n) (Q : Act → World → Prop) : Prop :=
  ∀ X s' R' a' w', k X s' = true → R.le R' → Rel P B W D R' s'.h w' → FrR R' (frOf n X) a' → a'.tmps.size = N → Kept B w w' → Q a' w'
theorem KEnd.of {D : Dn} {R R' : Rf} {w w' : World} {N : Nat} {k : K n} {Q : Act → World → Prop} (h : KEnd P B W D R w N n k Q) (hr : R.le R') (hb : Kept B w w') : KEnd P B W D R' w' N n k Q :=
  fun X s2 R2 a2 w2 m1 m2 m3 m4 m5 m6 => h X s2 R2 a2 w2 m1 (Rf.le_trans hr m2) m3 m4 m5 (hb.trans m6)
theorem lnR_spec (hG : GOk B W G) (hcf : CFOk P B W cf) {ops : Array Oper} {N : Nat} {Q : Exit → Act → World → Prop} {k : K n} : ∀ (l : List Oper) (r : Rn n), lnR n P G ops.toList N l = .mk r → ∀ (D : Dn) (R : Rf) (X : TT n) (s : S) (a : Act) (w : World), r cf X s k = true →
    Rel P B W D R s.h w → FrR R (frOf n X) a → a.tmps.size = N → KEnd P B W D R w N n k (Q .normal) → wpList P ops Q l a w
  | [], r, hr, D, R, X, s, a, w, h, hrel, hf, hN, hQ => by
    have hr' : (Cl.mk (fun _ X s k => k X s) : Cl (Rn n)) = .mk r := hr
    simp only [Cl.mk.injEq] at hr'; subst hr'
    exact wpList_nil (hQ X s R a w h R.le_refl hrel hf hN (Kept.refl B w))
  | o :: l, r, hr, D, R, X, s, a, w, h, hrel, hf, hN, hQ => by
    have hr' : (match lnR n P G ops.toList N l with | .mk r => stp n P G ops.toList N o r) = .mk r := hr
    cases hrest : lnR n P G ops.toList N l with
    | mk rest =>
      rw [hrest] at hr'
      obtain ⟨h1, h2⟩ := stp_spec hG hcf hr' h
      have ih := lnR_spec hG hcf (Q := Q) (k := k) l rest hrest
      have hg := guardOk_eq hf ops o
      have hdst := dstOk_spec h1
      rcases h2 with ⟨a1, X', a2, a3⟩ | ⟨a1, a2⟩
      · obtain ⟨f1, f2⟩ := hf.put (d := o.dst) (v := und) (x := undef) (fun t e => by rw [hN]; exact hdst t e) rfl
        unfold wpList
        rw [if_neg (by rw [hg, a1]; simp)]
        exact ih D R X' s _ w a3 hrel (by rw [a2]; exact f1) (by rw [f2]; exact hN) hQ
      · have hdo := a2 (frOf n X) D R w a (fun _ _ => rfl) hrel hf
        have next : ∀ Y w', CameK P B W D R w (fun v s' => ∃ X', frOf n X' = putF (frOf n X) o.dst v ∧ rest cf X' s' k = true) Y w' → wpList P ops Q l (a.put o.dst Y) w' := by
          rintro Y w' ⟨v, s', R', ⟨X', b1, b2⟩, h2, h3, h4, h5⟩
          obtain ⟨f1, f2⟩ := (hf.mono h2).put (d := o.dst) (v := v) (x := Y) (fun t e => by rw [hN]; exact hdst t e) h3
          exact ih D R' X' s' _ w' b2 h4 (by rw [b1]; exact f1) (by rw [f2]; exact hN) (hQ.of h2 h5)
        unfold wpList
        rw [if_pos (by rw [hg, a1])]
        refine .inl ?_
        unfold Oper.wp
        rcases hdo with ⟨v, w', hr, hk⟩ | ⟨w', hr, hk⟩ | ⟨f, args, w', hr, hc⟩
        · rw [hr]; exact next _ _ hk
        · rw [hr]; exact next _ _ hk
        · rw [hr]
          exact Calls.mono hc fun e w'' ⟨v, he, hk⟩ => by subst he; exact next _ _ hk
theorem rgn_spec (hG : GOk B W G) (hcf : CFOk P B W cf) (hm : P.follows .mixedOrders = true) {ops : Array Oper} {N : Nat} {Q : Exit → Act → World → Prop} {k : K n} {id : Nat} {d : Bool} {r : Rn n} (hr : rgn n P G N ops.toList d = .mk r) {D : Dn} {R : Rf} {X : TT n} {s : S} {a : Act} {w : World} (h : r cf X s k = true)
    (hrel : Rel P B W D R s.h w) (hf : FrR R (frOf n X) a) (hN : a.tmps.size = N) (hQ : KEnd P B W D R w N n k (Q .normal)) : (Code.region id ops d).wp P Q a w := by
  unfold rgn at hr
  cases d with
  | false =>
    rw [cond_false] at hr
    exact wp_region_list (lnR_spec hG hcf ops.toList r hr D R X s a w h hrel hf hN hQ)
  | true =>
    rw [cond_true] at hr
    cases hd : downG ops.toList 0 with
    | false => rw [hd] at hr; simp only [cond_false, Cl.mk.injEq] at hr; subst hr; cases h
    | true =>
      rw [hd, cond_true] at hr
      have hdown := fun j i => down_waits hd j i
      have hs := drR_spec hG hcf hdown (len ops.toList) 0 [] r hr X s h
      let L0 := Array.replicate ops.size false
      have hst : St P B W G D ops N L0 R (frOf n X) a w.drew 0 [] [] (frOf n X) s := ⟨by simp [L0], fun i hi => by simp [L0, hi], List.nodup_nil, (fun p hp => by cases hp), (fun p hp => by cases hp), (fun p hp => by cases hp), (fun p hp => by cases hp), fun _ _ => rfl, hrel.drew, hf, hN, fun p hp => by cases hp⟩
      have := hs D L0 R (frOf n X) a w.drew [] Q 0 hst (fun fr2 s2 R2 a2 w2 ⟨X2, e2, m1⟩ m2 m3 m4 m5 m6 => hQ X2 s2 R2 a2 w2 m1 m2 m3 ⟨fun t => by rw [← e2 t]; exact m4.at_ t, m4.defers⟩ m5 ((Kept.refl B w).drew.trans m6))
      have hlen : (L0.toList.filter (!·)).length = ops.size := by simp [L0]
      rw [hlen, Nat.zero_add] at this
      exact wp_region_any hm this
/-- code, laid out -/
def CodeK (P : Program) (B : Nat → Prop) (W : World) (cf : CF) (n N : Nat) (c : Code) (r : Cn n) : Prop :=
  ∀ (D : Dn) (R : Rf) (X : TT n) (s : S) (a : Act) (w : World) (k : K n) (kx : Nat → K n) (kr : K n) (Q : Exit → Act → World → Prop), r cf X s k kx kr = true → Rel P B W D R s.h w → FrR R (frOf n X) a → a.tmps.size = N →
    KEnd P B W D R w N n k (Q .normal) → (∀ i, KEnd P B W D R w N n (kx i) (Q (.exit i))) → KEnd P B W D R w N n kr (Q .ret) → c.wp P Q a w
theorem lp_spec {N : Nat} {c : Code} {r : Cn n} (hr : CodeK P B W cf n N c r) {Q : Exit → Act → World → Prop} {kx : Nat → K n} {kr : K n} : ∀ (m : Nat) (D : Dn) (R : Rf) (X : TT n) (s : S) (a : Act) (w : World), lp n m r cf X s kx kr = true → Rel P B W D R s.h w → FrR R (frOf n X) a → a.tmps.size = N →
    (∀ i, KEnd P B W D R w N n (kx i) (Q (.exit i))) → KEnd P B W D R w N n kr (Q .ret) → Code.rounds P c Q m a w
  | 0, _, _, _, _, _, _, h, _, _, _, _, _ => by cases h
  | m + 1, D, R, X, s, a, w, h, hrel, hf, hN, hx, hret => by
    have hd : r cf X s (fun X s => lp n m r cf X s kx kr) kx kr = true := h
    rw [rounds_succ]
    refine hr D R X s a w _ kx kr _ hd hrel hf hN (fun X2 s2 R2 a2 w2 m1 m2 m3 m4 m5 m6 => ?_) hx hret
    exact lp_spec hr m D R2 X2 s2 a2 w2 m1 m3 m4 m5 (fun i => (hx i).of m2 m6) (hret.of m2 m6)
theorem cmp_spec (hG : GOk B W G) (hcf : CFOk P B W cf) (hm : P.follows .mixedOrders = true) {fuel N : Nat} : ∀ (c : Code) (r : Cn n), cmp n P G fuel N c = .mk r → CodeK P B W cf n N c r
  | .skip, r, hr => by
    have hr' : (Cl.mk (fun _ X s k _ _ => k X s) : Cl (Cn n)) = .mk r := hr
    simp only [Cl.mk.injEq] at hr'; subst hr'
    intro D R X s a w k kx kr Q h hrel hf hN hQ _ _
    exact wp_skip (hQ X s R a w h R.le_refl hrel hf hN (Kept.refl B w))
  | .region id ops d, r, hr => by
    have hr' : (match rgn n P G N ops.toList d with | .mk r => (Cl.mk fun cf X s k _ _ => r cf X s k : Cl (Cn n))) = .mk r := hr
    split at hr'
    rename_i r0 h0
    simp only [Cl.mk.injEq] at hr'; subst hr'
    intro D R X s a w k kx kr Q h hrel hf hN hQ _ _
    exact rgn_spec hG hcf hm h0 h hrel hf hN hQ
  | .seq a b, r, hr => by
    have hr' : (match cmp n P G fuel N a, cmp n P G fuel N b with | .mk a, .mk b => (Cl.mk fun cf X s k kx kr => a cf X s (fun X s => b cf X s k kx kr) kx kr : Cl (Cn n))) = .mk r := hr
    split at hr'
    rename_i ra rb ha hb
    simp only [Cl.mk.injEq] at hr'; subst hr'
    intro D R X s ac w k kx kr Q h hrel hf hN hQ hx hret
    refine wp_seq (cmp_spec hG hcf hm a ra ha D R X s ac w _ kx kr _ h hrel hf hN (fun X2 s2 R2 a2 w2 m1 m2 m3 m4 m5 m6 => ?_) hx hret)
    exact cmp_spec hG hcf hm b rb hb D R2 X2 s2 a2 w2 k kx kr Q m1 m3 m4 m5 (hQ.of m2 m6) (fun i => (hx i).of m2 m6) (hret.of m2 m6)
  | .cond x a b, r, hr => by
    have hr' : (match gx n x, cmp n P G fuel N a, cmp n P G fuel N b with
      | some (.mk g), .mk a, .mk b => (Cl.mk fun cf X s k kx kr => cnd (g X) (a cf X s k kx kr) (b cf X s k kx kr) : Cl (Cn n))
      | none, _, _ => .mk (badC n)) = .mk r := hr
    split at hr'
    · rename_i g ra rb hg ha hb
      simp only [Cl.mk.injEq] at hr'; subst hr'
      intro D R X s ac w k kx kr Q h hrel hf hN hQ hx hret
      dsimp only at h
      unfold cnd at h
      split at h
      · rename_i v hv
        have h1 := evx_conc hf (gx_spec hg X)
        rw [hv] at h1
        simp only [conc, Option.some.injEq] at h1
        cases v with
        | true => exact wp_cond_true h1.symm (cmp_spec hG hcf hm a ra ha D R X s ac w k kx kr Q h hrel hf hN hQ hx hret)
        | false => exact wp_cond_false h1.symm (cmp_spec hG hcf hm b rb hb D R X s ac w k kx kr Q h hrel hf hN hQ hx hret)
      · cases h
    · simp only [Cl.mk.injEq] at hr'; subst hr'
      intro D R X s ac w k kx kr Q h; cases h
  | .block id c, r, hr => by
    have hr' : (match cmp n P G fuel N c with | .mk c => (Cl.mk fun cf X s k kx kr => c cf X s k (fun i => Bool.rec (kx i) k (Nat.beq i id)) kr : Cl (Cn n))) = .mk r := hr
    split at hr'
    rename_i rc hc
    simp only [Cl.mk.injEq] at hr'; subst hr'
    intro D R X s ac w k kx kr Q h hrel hf hN hQ hx hret
    refine wp_block (cmp_spec hG hcf hm c rc hc D R X s ac w k _ kr _ h hrel hf hN (fun X2 s2 R2 a2 w2 m1 m2 m3 m4 m5 m6 => hQ X2 s2 R2 a2 w2 m1 m2 m3 m4 m5 m6) (fun i X2 s2 R2 a2 w2 m1 m2 m3 m4 m5 m6 => ?_) (fun X2 s2 R2 a2 w2 m1 m2 m3 m4 m5 m6 => hret X2 s2 R2 a2 w2 m1 m2 m3 m4 m5 m6))
    show (if i = id then Q .normal a2 w2 else Q (.exit i) a2 w2)
    rw [beq_dec] at m1
    by_cases hi : i = id
    · rw [if_pos hi]
      rw [decide_eq_true hi] at m1
      exact hQ X2 s2 R2 a2 w2 m1 m2 m3 m4 m5 m6
    · rw [if_neg hi]
      rw [decide_eq_false hi] at m1
      exact hx i X2 s2 R2 a2 w2 m1 m2 m3 m4 m5 m6
  | .loop c, r, hr => by
    have hr' : (match cmp n P G fuel N c with | .mk c => (Cl.mk fun cf X s _ kx kr => lp n fuel c cf X s kx kr : Cl (Cn n))) = .mk r := hr
    split at hr'
    rename_i rc hc
    simp only [Cl.mk.injEq] at hr'; subst hr'
    intro D R X s ac w k kx kr Q h hrel hf hN hQ hx hret
    exact wp_loop_rounds fuel (lp_spec (cmp_spec hG hcf hm c rc hc) fuel D R X s ac w h hrel hf hN hx hret)
  | .rangeFunc .., r, hr => by
    have hr' : (Cl.mk (badC n) : Cl (Cn n)) = .mk r := hr
    simp only [Cl.mk.injEq] at hr'; subst hr'
    intro D R X s ac w k kx kr Q h; cases h
  | .exit i, r, hr => by
    have hr' : (Cl.mk (fun _ X s _ kx _ => kx i X s) : Cl (Cn n)) = .mk r := hr
    simp only [Cl.mk.injEq] at hr'; subst hr'
    intro D R X s a w k kx kr Q h hrel hf hN _ hx _
    exact wp_exit (hx i X s R a w h R.le_refl hrel hf hN (Kept.refl B w))
  | .scope c, r, hr => by
    intro D R X s ac w k kx kr Q h hrel hf hN hQ hx hret
    refine wp_scope_straight (cmp_spec hG hcf hm c r hr D R X s ac w k kx kr _ h hrel hf hN (fun X2 s2 R2 a2 w2 m1 m2 m3 m4 m5 m6 => hQ X2 s2 R2 a2 w2 m1 m2 m3 m4 m5 m6) (fun i X2 s2 R2 a2 w2 m1 m2 m3 m4 m5 m6 => hx i X2 s2 R2 a2 w2 m1 m2 m3 m4 m5 m6) (fun X2 s2 R2 a2 w2 m1 m2 m3 m4 m5 m6 => hret X2 s2 R2 a2 w2 m1 m2 m3 m4 m5 m6))
  | .label l, r, hr => by
    have hr' : (Cl.mk (fun _ X s k _ _ => k X s) : Cl (Cn n)) = .mk r := hr
    simp only [Cl.mk.injEq] at hr'; subst hr'
    intro D R X s a w k kx kr Q h hrel hf hN hQ _ _
    exact wp_label (hQ X s R a w h R.le_refl hrel hf hN (Kept.refl B w))
  | .goto l, r, hr => by
    have hr' : (Cl.mk (badC n) : Cl (Cn n)) = .mk r := hr
    simp only [Cl.mk.injEq] at hr'; subst hr'
    intro D R X s ac w k kx kr Q h; cases h
  | .ret, r, hr => by
    have hr' : (Cl.mk (fun _ X s _ _ kr => kr X s) : Cl (Cn n)) = .mk r := hr
    simp only [Cl.mk.injEq] at hr'; subst hr'
    intro D R X s a w k kx kr Q h hrel hf hN _ _ hret
    exact wp_ret (hret X s R a w h R.le_refl hrel hf hN (Kept.refl B w))
  | .refuse why, r, hr => by
    have hr' : (Cl.mk (badC n) : Cl (Cn n)) = .mk r := hr
    simp only [Cl.mk.injEq] at hr'; subst hr'
    intro D R X s ac w k kx kr Q h; cases h
theorem rsF_spec {rs : List ResultVar} {f : TT n → PT AO → Option AV} (h : rsF n P rs = .mk f) {X : TT n} {m : PT AO} {v : AV} (hf : f X m = some v) : resF P (frOf n X) m rs = some v := by
  unfold rsF at h
  split at h
  · rename_i t
    cases hb : Nat.ble (Nat.succ t) (Nat.pow 2 n) with
    | false => rw [hb] at h; simp only [cond_false, Cl.mk.injEq] at h; subst h; exact hf
    | true =>
      rw [hb, cond_true] at h
      split at h
      rename_i g hg
      simp only [Cl.mk.injEq] at h; subst h
      simp only [resF, resL, resV, getF, frOf_lt X (ble_le hb), ← gC_spec hg X]
      exact hf
  · simp only [Cl.mk.injEq] at h; subst h; exact hf
theorem arC_spec : ∀ (m i : Nat) (ar : List AV → TT n → TT n), arC n m i = .mk ar → ∀ (vs : List AV) (X : TT n), vs.length ≤ m → i + vs.length ≤ 2 ^ n → frOf n (ar vs X) = argF vs i (frOf n X)
  | 0, i, ar, h, vs, X, hl, _ => by
    have h' : (Cl.mk (fun _ X => X) : Cl (List AV → TT n → TT n)) = .mk ar := h
    simp only [Cl.mk.injEq] at h'; subst h'
    have : vs = [] := List.eq_nil_of_length_eq_zero (by omega)
    subst this; rfl
  | m + 1, i, ar, h, vs, X, hl, h2 => by
    have h' : (match arC n m (Nat.succ i), sC n i with | .mk r, .mk p => (Cl.mk fun vs X => List.rec (motive := fun _ => TT n) X (fun v vs' _ => r vs' (p v X)) vs : Cl (List AV → TT n → TT n))) = .mk ar := h
    split at h'
    rename_i r p hr hp
    simp only [Cl.mk.injEq] at h'; subst h'
    cases vs with
    | nil => rfl
    | cons v vs =>
      simp only [List.length_cons] at hl h2
      show frOf n (r vs (p v X)) = argF vs (i + 1) (setF (frOf n X) i v)
      rw [arC_spec m (i + 1) r hr vs (p v X) (by omega) (by omega), sC_spec hp, frOf_set v X (by omega)]
end
section
variable {P : Program} {B : Nat → Prop} {W : World} {G : PT (List AV)}
/-- a function that is told, not run -/
def IntrOk (P : Program) (B : Nat → Prop) (W : World) (g : FuncId) (f : Intr) : Prop :=
  ∀ (vs : List AV) (s s' : S) (v : AV), f vs s = some (v, s') → CallOk P B W g vs s fun u t => u = v ∧ t = s'
theorem fnc_spec (hG : GOk B W G) (hm : P.follows .mixedOrders = true) {fuel : Nat} {g : FuncId} {fn : Func} (hfun : P.funcs[g]? = some fn) {f : Fn} (hf : fnc P G fuel fn = .mk f) {cf : CF} (hcf : CFOk P B W cf) {vs : List AV} {s : S} {k : KV} (h : f cf vs s k = true) :
    CallOk P B W g vs s fun v s' => k v s' = true := by
  unfold fnc at hf
  split at hf
  · rename_i b hb
    cases hname : (fn.name == "runtime.NumGoroutine") with
    | true => rw [hname] at hf; simp only [cond_true, Cl.mk.injEq] at hf; subst hf; cases h
    | false =>
      rw [hname, cond_false] at hf
      split at hf
      rename_i rf ar c hrf har hc
      simp only [Cl.mk.injEq] at hf; subst hf; dsimp only at h
      generalize hn : Nat.succ (Nat.log2 fn.ntmps) = n at *
      have hpow : fn.ntmps ≤ 2 ^ n := by
        rw [← hn]
        exact Nat.le_of_lt Nat.lt_log2_self
      cases hle : Nat.ble (len vs) (Nat.min fn.ntmps (fn.params.size + fn.nfree)) with
      | false => rw [hle] at h; cases h
      | true =>
        rw [hle] at h
        dsimp only at h
        have hle1 := ble_le hle
        rw [len_eq] at hle1
        have hle' : vs.length ≤ fn.ntmps := Nat.le_trans hle1 (Nat.min_le_left _ _)
        intro D R w xs hrel hx
        have hlx := concL_len hx
        constructor
        · have hn2 : ¬ fn.name = "runtime.NumGoroutine" := by simpa using hname
          simp [callFunc, hfun, hn2, hb]
        · refine calls_of_wp hfun hb ?_
          have har2 := arC_spec _ 0 ar har vs (zN n) hle1 (by omega)
          rw [frOf_zN] at har2
          have fin : ∀ (X : TT n) (s2 : S) (R2 : Rf) (a2 : Act) (w2 : World), (Option.rec false (fun v => k v s2) (rf X s2.h) : Bool) = true → R.le R2 → Rel P B W D R2 s2.h w2 → FrR R2 (frOf n X) a2 → a2.tmps.size = fn.ntmps → Kept B w w2 →
              a2.defers = [] ∧ ∃ v, (results fn a2.tmps).run P w2 = .ok v w2 ∧ ∃ Y, Ending.returned v = .returned Y ∧ CameK P B W D R w (fun v s' => k v s' = true) Y w2 := by
            intro X s2 R2 a2 w2 m1 m2 m3 m4 m5 m6
            cases hv : rf X s2.h with
            | none => rw [hv] at m1; cases m1
            | some v =>
              rw [hv] at m1
              obtain ⟨Y, x1, x2⟩ := resF_run m3 m4 (rsF_spec hrf hv)
              exact ⟨m4.defers, Y, x2, Y, rfl, v, s2, R2, m1, m2, x1, m3, m6⟩
          refine cmp_spec hG hcf hm b c hc D R _ s _ w _ _ _ _ h hrel (by rw [har2]; exact FrR.args hx _) (by simp; omega) (fun X s2 R2 a2 w2 m1 m2 m3 m4 m5 m6 => fin X s2 R2 a2 w2 m1 m2 m3 m4 m5 m6) (fun i X s2 R2 a2 w2 m1 => by cases m1) (fun X s2 R2 a2 w2 m1 m2 m3 m4 m5 m6 => fin X s2 R2 a2 w2 m1 m2 m3 m4 m5 m6)
  · simp only [Cl.mk.injEq] at hf; subst hf; cases h
theorem goF_spec (hG : GOk B W G) (hm : P.follows .mixedOrders = true) {fuel : Nat} {F : PT (Cl Fn)} {I : PT Intr} (hF : ∀ g c, F.get (psOf g) = some c → ∃ fn, P.funcs[g]? = some fn ∧ c = fnc P G fuel fn) (hI : ∀ g f, I.get (psOf g) = some f → IntrOk P B W g f) : ∀ d, CFOk P B W (goF F I d)
  | 0 => fun g vs s k h => by cases h
  | d + 1 => by
    have ih := goF_spec hG hm hF hI d
    intro g vs s k h
    have hd : (Option.rec (Option.rec false (fun c => Cl.rec (fun f => f (goF F I d) vs s k) c) (F.get (psOf g))) (fun f => Option.rec (Option.rec false (fun c => Cl.rec (fun f => f (goF F I d) vs s k) c) (F.get (psOf g))) (fun r => k r.1 r.2) (f vs s)) (I.get (psOf g)) : Bool) = true := h
    clear h
    have run : (Option.rec false (fun c => Cl.rec (fun f => f (goF F I d) vs s k) c) (F.get (psOf g)) : Bool) = true → CallOk P B W g vs s fun v s' => k v s' = true := by
      intro h
      cases hg : F.get (psOf g) with
      | none => rw [hg] at h; cases h
      | some c =>
        rw [hg] at h
        obtain ⟨fn, h1, h2⟩ := hF g c hg
        cases c with
        | mk f => exact fnc_spec hG hm h1 h2.symm ih h
    cases hi : I.get (psOf g) with
    | none => rw [hi] at hd; exact run hd
    | some f =>
      rw [hi] at hd
      cases hv : f vs s with
      | none => dsimp only at hd; rw [hv] at hd; exact run hd
      | some r =>
        dsimp only at hd
        rw [hv] at hd
        intro D R w xs hrel hx
        obtain ⟨h1, h2⟩ := hI g f hi vs s r.2 r.1 hv D R w xs hrel hx
        refine ⟨h1, Calls.mono h2 ?_⟩
        rintro e w' ⟨Y, he, v, s', R', ⟨rfl, rfl⟩, q⟩
        exact ⟨Y, he, r.1, r.2, R', hd, q⟩
end
end Go.Ev
