/- YtjajcecenflejaaGreatCz39 -/
import Derived.Test.YtjajcecenflejaaGreatCz38
import Derived.LoopNIn
import Derived.Scope
import Derived.RangeFuncRecord
namespace Go.Ev
open Go.RowKit
theorem Fw_some (l : Nat) : Fw (some l) = Fence.wide.inRound l := rfl
section
variable {F : Fence} {n : Nat} {P : Program} {b : Frame} {a : Act} {k : List Item} {cs : List Frame} {w : World} {Q : Exit → Act → World → Prop}
theorem stepR_scope {c : Code} : step P (lone (b.atR a (.code (.scope c) :: k)) cs w) = .next (lone (b.atR a (.code c :: .inScope c :: k)) cs w) :=
  step_lone_go (by simp [stepG, stepG.exec, Frame.atR])
theorem stepR_inScope {c : Code} : step P (lone (b.atR a (.inScope c :: k)) cs w) = .next (lone (b.atR a k) cs w) :=
  step_lone_go (by simp [stepG, stepG.exec, Frame.atR])
theorem wpIn_scope {c : Code} (h : c.wpIn F n P (Exit.noGoto Q) a w) : (Code.scope c).wpIn F n P Q a w := by
  intro b k cs hro hb hr
  have h0 : (lone (b.atR a (.code (.scope c) :: k)) cs w).fenced P F := fenced_calm hb hr rfl
  obtain ⟨e, a₁, w₁, hq, harr⟩ := h b (.inScope c :: k) cs hro hb hr
  cases e with
  | normal => exact ⟨.normal, a₁, w₁, hq, .head h0 stepR_scope (StepsIn.trans harr (.one (fenced_calm hb hr rfl) stepR_inScope))⟩
  | exit id => exact ⟨.exit id, a₁, w₁, hq, fun k' hk => .head h0 stepR_scope (harr.1 k' (by simp [exitTo, hk])), fun hr' hk => let ⟨k₁, h1, h2⟩ := harr.2 hr' (by simp [exitTo, hk]); ⟨k₁, h1, .head h0 stepR_scope h2⟩⟩
  | goto l => exact hq.elim
  | ret => exact ⟨_, a₁, w₁, hq, .of_steps (.one h0 stepR_scope) harr⟩
  | panic ch => exact ⟨_, a₁, w₁, hq, .of_steps (.one h0 stepR_scope) harr⟩
  | outgrown => exact ⟨_, a₁, w₁, hq, .of_steps (.one h0 stepR_scope) harr⟩
end
section
variable {P : Program} {B B2 B3 : Nat → Prop} {W W2 W3 : World} {D : Dn} {R : Rf} {h : PT AO} {w w' : World} {G : PT (List AV)}
theorem Kept.less (k : Kept B2 w w') (hs : ∀ k, B k → B2 k) : Kept B w w' := ⟨k.os, k.tape, k.output, k.size, fun i hi => k.block i (hs i hi)⟩
structure Grow (B : Nat → Prop) (W : World) (B2 : Nat → Prop) (W2 : World) : Prop where
  sub : ∀ k, B k → B2 k
  kept : Kept B W W2
theorem Grow.refl (B : Nat → Prop) (W : World) : Grow B W B W := ⟨fun _ h => h, Kept.refl B W⟩
theorem Grow.trans (g : Grow B W B2 W2) (g' : Grow B2 W2 B3 W3) : Grow B W B3 W3 := ⟨fun k hk => g'.sub k (g.sub k hk), g.kept.trans (g'.kept.less g.sub)⟩
theorem GOk.grow (hG : GOk B W G) (g : Grow B W B2 W2) : GOk B2 W2 G := fun i c hc => by
  obtain ⟨h1, xs, tail, e, fz, h2, h3⟩ := hG i c hc
  exact ⟨g.sub i h1, xs, tail, e, fz, h2, (g.kept.block i h1).trans h3⟩
theorem Rel.back (g : Grow B W B2 W2) (r : Rel P B2 W2 D R h w) : Rel P B W D R h w :=
  ⟨r.obj, r.pend, r.nd, r.inj, r.new, fun b k x e => ⟨fun hb => (r.lo b k x e).1 (g.sub k hb), (r.lo b k x e).2⟩, fun k hk => r.base k (g.sub k hk), g.kept.trans (r.old.less g.sub)⟩
theorem Rel.mark (r : Rel P B W D R h w) (o : Obj) : Rel P (fun k => B k ∨ k = w.heap.size) (w.alloc o) D R h (w.alloc o) ∧ Grow B W (fun k => B k ∨ k = w.heap.size) (w.alloc o) := by
  have hb := (Kept.refl B w).alloc r.base o
  refine ⟨⟨fun b ob k x e hk => (r.obj b ob k x e hk).mono R.le_refl (RowKit.Below.heap_alloc w o k (r.lo b k x hk).2), r.pend, r.nd, r.inj, r.new, fun b k x e => ?_, fun k hk => ?_, Kept.refl _ _⟩, ⟨fun k hk => .inl hk, r.old.trans hb⟩⟩
  · have := r.lo b k x e
    refine ⟨?_, by simp; omega⟩
    rintro (h1 | h1)
    · exact this.1 h1
    · omega
  · rcases hk with h1 | rfl
    · have := r.base k h1; simp; omega
    · simp
theorem Rel.off (r : Rel P B W D R h w) {d : Nat} (o : Obj) (hB : ¬ B d) (hR : ∀ b k x, R b = some (k, x) → k ≠ d) : Rel P B W D R h (w.putObj d o) ∧ Kept B w (w.putObj d o) := by
  have hk : Kept B w (w.putObj d o) := ⟨rfl, rfl, rfl, by simp, fun k hk => World.putObj_heap_other fun e => hB (e ▸ hk)⟩
  exact ⟨⟨fun b ob k x e h1 => (r.obj b ob k x e h1).mono R.le_refl (World.putObj_heap_other (hR b k x h1)), r.pend, r.nd, r.inj, r.new, fun b k x e => by rw [World.putObj_size]; exact r.lo b k x e, fun k hk => by rw [World.putObj_size]; exact r.base k hk, r.old.trans hk⟩, hk⟩
abbrev mkOf (d : Nat) : Deferred := { target := .collected d, args := #[] }
def Mks (B0 B : Nat → Prop) (W : World) (ds : List Deferred) : Prop := ∃ l : List Nat, ds = l.map mkOf ∧ l.Nodup ∧ ∀ d ∈ l, ¬ B0 d ∧ B d ∧ W.heap[d]? = some (.deferred (some []))
theorem Mks.nil (B0 B : Nat → Prop) (W : World) : Mks B0 B W [] := ⟨[], rfl, List.nodup_nil, fun d hd => by cases hd⟩
theorem Rel.loopTo (r : Rel P B W D R h w) {p : Ps} {st st' : LoopState} {pe pe' : Option Code} {N : Nat} {ts : List AV} {ps : List Tmp} {as bd : Code} {k x : Nat} (hp : h.get p = some (.loop st pe N ts ps as bd)) (hk : R p = some (k, x)) :
    ∃ rc : Loop, w.heap[k]? = some (.loop rc) ∧ rc.state = st ∧ rc.pending = pe ∧ rc.params = ps.toArray ∧ rc.assign = as ∧ rc.body = bd ∧ (∃ xs, concL R ts = some xs ∧ xs.length = N ∧ rc.tmps = xs.toArray) ∧
      (∀ o', (∀ w', w'.heap[k]? = some (.loop { rc with state := st', pending := pe' }) → HObj P R w' k x o') → Rel P B W D R (h.set (some o') p) (w.putObj k (.loop { rc with state := st', pending := pe' })) ∧ Kept B w (w.putObj k (.loop { rc with state := st', pending := pe' }))) ∧
      ∀ w', w'.heap[k]? = some (.loop { rc with state := st', pending := pe' }) → HObj P R w' k x (.loop st' pe' N ts ps as bd) := by
  obtain ⟨xs, fn, df, h1, h2, h3⟩ := r.obj p _ k x hp hk
  refine ⟨_, h3, rfl, rfl, rfl, rfl, rfl, ⟨xs, h1, h2, rfl⟩, fun o' ho => ?_, fun w' hw => ⟨xs, fn, df, h1, h2, hw⟩⟩
  have hlt : k < w.heap.size := (r.lo p k x hk).2
  have hkp : ∀ o : Obj, Kept B w (w.putObj k o) := fun o => ⟨rfl, rfl, rfl, by simp, fun j hj => World.putObj_heap_other fun e => (r.lo p k x hk).1 (e ▸ hj)⟩
  exact ⟨r.write hp rfl hk (hkp _) (by simp) (ho _ (World.putObj_heap_same hlt)) (fun j hj => World.putObj_heap_other hj), hkp _⟩
end
section
variable {n : Nat} {P : Program} {B : Nat → Prop} {W : World} {G : PT (List AV)} {cf : CF}
def KEnd (P : Program) (B : Nat → Prop) (W : World) (D : Dn) (R : Rf) (w : World) (N n : Nat) (ds : List Deferred) (k : K n) (Q : Act → World → Prop) : Prop :=
  ∀ X s' R' a' w', k X s' = true → R.le R' → Rel P B W D R' s'.h w' → FrR R' (frOf n X) a' → a'.tmps.size = N → Kept B w w' → a'.defers = ds → Q a' w'
theorem KEnd.of {D : Dn} {R R' : Rf} {w w' : World} {N : Nat} {ds : List Deferred} {k : K n} {Q : Act → World → Prop} (h : KEnd P B W D R w N n ds k Q) (hr : R.le R') (hb : Kept B w w') : KEnd P B W D R' w' N n ds k Q :=
  fun X s2 R2 a2 w2 m1 m2 m3 m4 m5 m6 m7 => h X s2 R2 a2 w2 m1 (Rf.le_trans hr m2) m3 m4 m5 (hb.trans m6) m7
theorem lnR_spec (hG : GOk B W G) (hcf : CFOk P B W cf) {ρ : Option Nat} {ops : Array Oper} {N : Nat} {Q : Exit → Act → World → Prop} {k : K n} {ds : List Deferred} : ∀ (l : List Oper) (r : Rn n), lnR n P G ops.toList N l = .mk r → ∀ (D : Dn) (R : Rf) (X : TT n) (s : S) (a : Act) (w : World), r cf X s k = true →
    Rel P B W D R s.h w → FrR R (frOf n X) a → a.tmps.size = N → a.defers = ds → KEnd P B W D R w N n ds k (Q .normal) → wpListIn (Fw ρ) 0 P ops Q l a w
  | [], r, hr, D, R, X, s, a, w, h, hrel, hf, hN, hd, hQ => by
    have hr' : (Cl.mk (fun _ X s k => k X s) : Cl (Rn n)) = .mk r := hr
    simp only [Cl.mk.injEq] at hr'; subst hr'
    exact wpListIn_nil (hQ X s R a w h R.le_refl hrel hf hN (Kept.refl B w) hd)
  | o :: l, r, hr, D, R, X, s, a, w, h, hrel, hf, hN, hd, hQ => by
    have hr' : (match lnR n P G ops.toList N l with | .mk r => stp n P G ops.toList N o r) = .mk r := hr
    cases hrest : lnR n P G ops.toList N l with
    | mk rest =>
      rw [hrest] at hr'
      obtain ⟨h1, h2⟩ := stp_spec hG hcf hr' h
      have ih := lnR_spec hG hcf (ρ := ρ) (Q := Q) (k := k) (ds := ds) l rest hrest
      have hg := guardOk_eq hf ops o
      have hdst := dstOk_spec h1
      rcases h2 with ⟨a1, X', a2, a3⟩ | ⟨a1, a2⟩
      · obtain ⟨f1, f2⟩ := hf.put (d := o.dst) (v := und) (x := undef) (fun t e => by rw [hN]; exact hdst t e) rfl
        unfold wpListIn
        rw [if_neg (by rw [hg, a1]; simp)]
        exact ⟨fun _ _ => trivial, ih D R X' s _ w a3 hrel (by rw [a2]; exact f1) (by rw [f2]; exact hN) (by rw [put_defers]; exact hd) hQ⟩
      · have hdo := a2 (frOf n X) D R w a (fun _ _ => rfl) hrel hf
        have next : ∀ Y w', CameK P B W D R w (fun v s' => ∃ X', frOf n X' = putF (frOf n X) o.dst v ∧ rest cf X' s' k = true) Y w' → wpListIn (Fw ρ) 0 P ops Q l (a.put o.dst Y) w' := by
          rintro Y w' ⟨v, s', R', ⟨X', b1, b2⟩, h2, h3, h4, h5⟩
          obtain ⟨f1, f2⟩ := (hf.mono h2).put (d := o.dst) (v := v) (x := Y) (fun t e => by rw [hN]; exact hdst t e) h3
          exact ih D R' X' s' _ w' b2 h4 (by rw [b1]; exact f1) (by rw [f2]; exact hN) (by rw [put_defers]; exact hd) (hQ.of h2 h5)
        unfold wpListIn
        rw [if_pos (by rw [hg, a1])]
        refine wpIn_of_does ?_
        rcases hdo with ⟨v, w', hr, hk⟩ | ⟨w', hr, hk⟩ | ⟨f, args, w', hr, hc⟩ | ⟨l, f, tmps, as, bd, w', hr, hc⟩
        · exact .inl ⟨v, w', hr, next _ _ hk⟩
        · exact .inr (.inl ⟨w', hr, next _ _ hk⟩)
        · exact .inr (.inr (.inl ⟨f, args, w', hr, Calls.mono hc fun e w'' ⟨v, he, hk⟩ => ⟨v, he, next _ _ hk⟩⟩))
        · exact .inr (.inr (.inr ⟨l, f, tmps, as, bd, w', hr, RoundIn.mono hc fun e w'' ⟨v, he, hk⟩ => ⟨v, he, next _ _ hk⟩⟩))
theorem rgn_spec (hG : GOk B W G) (hcf : CFOk P B W cf) (hm : P.follows .mixedOrders = true) {ρ : Option Nat} {ops : Array Oper} {N : Nat} {Q : Exit → Act → World → Prop} {k : K n} {id : Nat} {d : Bool} {r : Rn n} (hr : rgn n P G N ops.toList d = .mk r) {D : Dn} {R : Rf} {X : TT n} {s : S} {a : Act} {w : World} (h : r cf X s k = true)
    (hrel : Rel P B W D R s.h w) (hf : FrR R (frOf n X) a) (hN : a.tmps.size = N) (hQ : KEnd P B W D R w N n a.defers k (Q .normal)) : (Code.region id ops d).wpIn (Fw ρ) 0 P Q a w := by
  unfold rgn at hr
  cases d with
  | false =>
    rw [cond_false] at hr
    exact wpIn_region_list (lnR_spec hG hcf ops.toList r hr D R X s a w h hrel hf hN rfl hQ)
  | true =>
    rw [cond_true] at hr
    cases hd : downG ops.toList 0 with
    | false => rw [hd] at hr; simp only [cond_false, Cl.mk.injEq] at hr; subst hr; cases h
    | true =>
      rw [hd, cond_true] at hr
      have hdown := fun j i => down_waits hd j i
      have hs := drR_spec hG hcf hdown (len ops.toList) 0 [] r hr X s h
      let L0 := Array.replicate ops.size false
      have hst : St P B W G D ops N L0 R (frOf n X) a w.drew 0 [] [] (frOf n X) s := ⟨by simp [L0], fun i hi => by simp [L0, hi], List.nodup_nil, (fun p hp => by cases hp), (fun p hp => by cases hp), (fun p hp => by cases hp), (fun p hp => by cases hp), fun _ _ => rfl, hrel.drew, hf, hN, fun p hp => by cases hp⟩
      have := hs D L0 R (frOf n X) a w.drew [] Q 0 ρ hst (fun fr2 s2 R2 a2 w2 ⟨X2, e2, m1⟩ m2 m3 m4 m5 m6 m7 => hQ X2 s2 R2 a2 w2 m1 m2 m3 ⟨fun t => by rw [← e2 t]; exact m4.at_ t⟩ m5 ((Kept.refl B w).drew.trans m6) m7)
      have hlen : (L0.toList.filter (!·)).length = ops.size := by simp [L0]
      rw [hlen, Nat.zero_add] at this
      exact wpIn_region_any hm this
def KX (P : Program) (B0 B : Nat → Prop) (W : World) (D : Dn) (R : Rf) (w : World) (N n : Nat) (k : K n) (Q : Act → World → Prop) : Prop :=
  ∀ B2 W2 X s' R' a' w', Grow B W B2 W2 → k X s' = true → R.le R' → Rel P B2 W2 D R' s'.h w' → FrR R' (frOf n X) a' → a'.tmps.size = N → Kept B w w' → Mks B0 B2 W2 a'.defers → Q a' w'
theorem KX.of {B0 B2 : Nat → Prop} {W2 : World} {D : Dn} {R R' : Rf} {w w' : World} {N : Nat} {k : K n} {Q : Act → World → Prop} (h : KX P B0 B W D R w N n k Q) (g : Grow B W B2 W2) (hr : R.le R') (hb : Kept B w w') : KX P B0 B2 W2 D R' w' N n k Q :=
  fun B3 W3 X s2 R2 a2 w2 g2 m1 m2 m3 m4 m5 m6 m7 => h B3 W3 X s2 R2 a2 w2 (g.trans g2) m1 (Rf.le_trans hr m2) m3 m4 m5 (hb.trans (m6.less g.sub)) m7
theorem KX.now {B0 : Nat → Prop} {D : Dn} {R : Rf} {w : World} {N : Nat} {k : K n} {Q : Act → World → Prop} (h : KX P B0 B W D R w N n k Q) {a : Act} (hm : Mks B0 B W a.defers) : KEnd P B W D R w N n a.defers k Q :=
  fun X s2 R2 a2 w2 m1 m2 m3 m4 m5 m6 m7 => h B W X s2 R2 a2 w2 (Grow.refl B W) m1 m2 m3 m4 m5 m6 (by rw [m7]; exact hm)
theorem KX.bad {B0 : Nat → Prop} {D : Dn} {R : Rf} {w : World} {N : Nat} {Q : Act → World → Prop} : KX P B0 B W D R w N n (fun _ _ => false) Q := fun _ _ _ _ _ _ _ _ h => by cases h
def CFAll (P : Program) (G : PT (List AV)) (cf : CF) : Prop := ∀ B W, GOk B W G → CFOk P B W cf
def CodeK (P : Program) (G : PT (List AV)) (cf : CF) (n N : Nat) (inr : Bool) (c : Code) (r : Cn n) : Prop :=
  ∀ (B0 B : Nat → Prop) (W : World) (D : Dn) (R : Rf) (X : TT n) (s : S) (a : Act) (w : World) (k : K n) (kx : Nat → K n) (kr : K n) (Q : Exit → Act → World → Prop) (ρ : Option Nat), (inr = false → ρ = none) → GOk B W G → (∀ k, B0 k → B k) → Mks B0 B W a.defers →
    r cf X s k kx kr = true → Rel P B W D R s.h w → FrR R (frOf n X) a → a.tmps.size = N →
    KX P B0 B W D R w N n k (Q .normal) → (∀ i, KX P B0 B W D R w N n (kx i) (Q (.exit i))) → KX P B0 B W D R w N n kr (Q .ret) → c.wpIn (Fw ρ) 0 P Q a w
theorem lp_spec {N : Nat} {inr : Bool} {c : Code} {r : Cn n} (hr : CodeK P G cf n N inr c r) {B0 : Nat → Prop} {Q : Exit → Act → World → Prop} {kx : Nat → K n} {kr : K n} {ρ : Option Nat} (hi : inr = false → ρ = none) : ∀ (m : Nat) (B : Nat → Prop) (W : World) (D : Dn) (R : Rf) (X : TT n) (s : S) (a : Act) (w : World), GOk B W G → (∀ k, B0 k → B k) → Mks B0 B W a.defers → lp n m r cf X s kx kr = true → Rel P B W D R s.h w → FrR R (frOf n X) a → a.tmps.size = N →
    (∀ i, KX P B0 B W D R w N n (kx i) (Q (.exit i))) → KX P B0 B W D R w N n kr (Q .ret) → Code.roundsIn (Fw ρ) 0 P c Q m a w
  | 0, _, _, _, _, _, _, _, _, _, _, _, h, _, _, _, _, _ => by cases h
  | m + 1, B, W, D, R, X, s, a, w, hG, hB, hM, h, hrel, hf, hN, hx, hret => by
    have hd : r cf X s (fun X s => lp n m r cf X s kx kr) kx kr = true := h
    rw [roundsIn_succ]
    refine hr B0 B W D R X s a w _ kx kr _ ρ hi hG hB hM hd hrel hf hN (fun B2 W2 X2 s2 R2 a2 w2 g m1 m2 m3 m4 m5 m6 m7 => ?_) hx hret
    exact lp_spec hr hi m B2 W2 D R2 X2 s2 a2 w2 (hG.grow g) (fun k hk => g.sub k (hB k hk)) m7 m1 m3 m4 m5 (fun i => (hx i).of g m2 m6) (hret.of g m2 m6)
theorem rdC_spec {N : Nat} (hN : N ≤ 2 ^ n) : ∀ (m i : Nat) (r : TT n → List AV), rdC n m i = .mk r → i + m ≤ N → ∀ {R : Rf} {X : TT n} {a : Act}, FrR R (frOf n X) a → a.tmps.size = N → concL R (r X) = some ((a.tmps.toList.drop i).take m)
  | 0, i, r, h, _, R, X, a, _, _ => by
    have h' : (Cl.mk (fun _ : TT n => ([] : List AV))) = .mk r := h
    simp only [Cl.mk.injEq] at h'; subst h'; simp [concL]
  | m + 1, i, r, h, hi, R, X, a, hf, hs => by
    have h' : (match gC n i, rdC n m (Nat.succ i) with | .mk g, .mk r => (Cl.mk fun X => g X :: r X : Cl (TT n → List AV))) = .mk r := h
    split at h'
    rename_i g r0 hg hr0
    simp only [Cl.mk.injEq] at h'; subst h'
    have ih := rdC_spec hN m (i + 1) r0 hr0 (by omega) hf hs
    have hat := hf.at_ i
    rw [show getF (frOf n X) i = g X by rw [gC_spec hg X]; exact frOf_lt X (by omega)] at hat
    have hlt : i < a.tmps.toList.length := by simp; omega
    rw [List.drop_eq_getElem_cons hlt, List.take_succ_cons]
    refine concL_cons.2 ⟨_, _, hat, ih, ?_⟩
    simp [Array.getD_eq_getD_getElem?, show i < a.tmps.size by omega]
theorem rng_spec (hcf : CFAll P G cf) {N : Nat} {f : Operand} {ps : Array Tmp} {as bd : Code} {g : TT n → AV} (hg : gx n f = some (.mk g)) {rd : TT n → List AV} (hrd : rdC n N 0 = .mk rd) (hle : N ≤ 2 ^ n)
    {B0 B : Nat → Prop} {W : World} {D : Dn} {R : Rf} {X : TT n} {s : S} {a : Act} {w : World} {k : K n} {kx : Nat → K n} {kr : K n} {Q : Exit → Act → World → Prop} (hG : GOk B W G) (hB : ∀ k, B0 k → B k) (hM : Mks B0 B W a.defers)
    (h : rngC N ps.toList as bd (g X) (rd X) cf s (fun s => k X s) (fun i s => kx i X s) (fun s => kr X s) = true) (hrel : Rel P B W D R s.h w) (hf : FrR R (frOf n X) a) (hN : a.tmps.size = N)
    (hQ : KX P B0 B W D R w N n k (Q .normal)) (hx : ∀ i, KX P B0 B W D R w N n (kx i) (Q (.exit i))) (hret : KX P B0 B W D R w N n kr (Q .ret)) : (Code.rangeFunc f ps as bd).wpIn Fence.wide 0 P Q a w := by
  unfold rngC at h
  cases hn : newO (.loop .ready none N (rd X) ps.toList as bd) s with
  | none => rw [hn] at h; cases h
  | some q =>
    obtain ⟨p, s1⟩ := q
    rw [hn] at h
    dsimp only at h
    obtain ⟨n1, n2⟩ := newO_spec hn
    refine wpIn_rangeFunc fun fn _ => ?_
    obtain ⟨r2, g2⟩ := hrel.mark (.deferred (some []))
    have hts : concL R (rd X) = some a.tmps.toList := by
      have := rdC_spec hle N 0 rd hrd (by omega) hf hN
      rw [List.drop_zero, List.take_of_length_le (by simp; omega)] at this; exact this
    have hnew : ∀ R' : Rf, R.le R' → HObj P R' ((w.alloc (.deferred (some []))).alloc (.loop { state := .ready, pending := none, fn, tmps := a.tmps, params := ps, assign := as, body := bd, defers := w.heap.size })) (w.alloc (.deferred (some []))).heap.size 0 (.loop .ready none N (rd X) ps.toList as bd) := fun R' hr =>
      ⟨a.tmps.toList, fn, w.heap.size, concL_mono hr _ _ hts, by simp [hN], by rw [World.alloc_heap_new]⟩
    have hrn := r2.new p n1
    obtain ⟨r3, hle3, hk3⟩ := r2.alloc (O := .loop { state := .ready, pending := none, fn, tmps := a.tmps, params := ps, assign := as, body := bd, defers := w.heap.size }) n1 (x := 0) (hnew _ (Rf.le_put _ hrn))
    have hRp : (R.put p ((w.alloc (.deferred (some []))).heap.size, 0)) p = some (w.heap.size + 1, 0) := by rw [Rf.put_at]; simp
    rw [← n2] at r3
    generalize hB2 : (fun k => B k ∨ k = w.heap.size) = B2 at *
    generalize hW2 : w.alloc (.deferred (some [])) = W2 at *
    generalize hR1 : R.put p (W2.heap.size, 0) = R1 at *
    generalize hw1 : W2.alloc (.loop { state := .ready, pending := none, fn, tmps := a.tmps, params := ps, assign := as, body := bd, defers := w.heap.size }) = w1 at *
    have hcf2 := hcf B2 W2 (hG.grow g2)
    have hent : (Instr.enterLoop fn a.tmps ps as bd none).run P w = .ok (w.heap.size + 1, [mkOf w.heap.size]) w1 := by
      rw [← hw1, ← hW2]; exact run_enterLoop_outer _ _ _ _ _
    have hMks : Mks B0 B2 W2 ([mkOf w.heap.size] ++ a.defers) := by
      obtain ⟨l, e1, e2, e3⟩ := hM
      have hlt : ∀ d ∈ l, d < w.heap.size := fun d hd => hrel.base d (e3 d hd).2.1
      refine ⟨w.heap.size :: l, by rw [e1]; rfl, List.nodup_cons.2 ⟨fun hm => by have := hlt _ hm; omega, e2⟩, fun d hd => ?_⟩
      rcases List.mem_cons.1 hd with rfl | hd
      · refine ⟨fun hb => by have := hrel.base _ (hB _ hb); omega, by rw [← hB2]; exact .inr rfl, ?_⟩
        rw [← hW2]; exact World.alloc_heap_new w _
      · obtain ⟨b1, b2, b3⟩ := e3 d hd
        refine ⟨b1, by rw [← hB2]; exact .inl b2, ?_⟩
        rw [← hW2, RowKit.Below.heap_alloc w _ d (hlt d hd), hrel.old.block d b2]; exact b3
    have post : ∀ e w', (∃ Y, e = Ending.returned Y ∧ CameK P B2 W2 D R1 w1 (fun _ s2 => endL p s2 (fun s => k X s) (fun i s => kx i X s) (fun s => kr X s) = true) Y w') → rangePost Fence.wide 0 P (w.heap.size + 1) Q { a with defers := [mkOf w.heap.size] ++ a.defers } e w' := by
      rintro e w3 ⟨Y, rfl, v, s3, R3, c1, c2, c3, c4, c5⟩
      unfold endL at c1
      split at c1
      · rename_i st pe N' ts ps' as' bd' hget
        have hRp3 := c2 _ _ hRp
        have hst : st ≠ .busy := by rintro rfl; cases c1
        obtain ⟨rc, l1, l2, l3, l4, l5, l6, l7, l8, _⟩ := c4.loopTo (st' := .exhausted) (pe' := pe) hget hRp3
        have hend := run_endLoop (P := P) l1 (by rw [l2]; exact hst)
        rw [l3] at hend
        obtain ⟨r4, k4⟩ := l8 .dead (fun _ _ => trivial)
        have hkk : Kept B w (w3.putObj (w.heap.size + 1) (.loop { rc with state := .exhausted, pending := pe })) :=
          ((by rw [← hW2]; exact (Kept.refl B w).alloc hrel.base _ : Kept B w W2).trans (hk3.less g2.sub)).trans ((c5.trans k4).less g2.sub)
        have hf4 : FrR R3 (frOf n X) { a with defers := [mkOf w.heap.size] ++ a.defers } := ⟨fun t => conc_mono (Rf.le_trans hle3 c2) _ _ (hf.at_ t)⟩
        refine ⟨pe, _, hend, ?_⟩
        have fin : ∀ {kk : K n} {QQ : Act → World → Prop}, KX P B0 B W D R w N n kk QQ → kk X ⟨s3.h.set (some .dead) p, s3.n⟩ = true → QQ { a with defers := [mkOf w.heap.size] ++ a.defers } (w3.putObj (w.heap.size + 1) (.loop { rc with state := .exhausted, pending := pe })) := fun hk0 ht =>
          hk0 B2 W2 X _ R3 _ _ g2 ht (Rf.le_trans hle3 c2) r4 hf4 hN hkk hMks
        cases st with
        | busy => exact absurd rfl hst
        | _ =>
          dsimp only at c1
          split at c1
          · exact fin hQ c1
          · exact wpIn_exit (fin (hx _) c1)
          · exact wpIn_ret (fin hret c1)
          · cases c1
      · cases c1
    unfold callE at h
    split at h
    · rename_i gf caps hv
      obtain ⟨hne, hc⟩ := ne_yNo h
      obtain ⟨xs, hxs, he⟩ := conc_f (evx_conc hf (by rw [gx_spec hg, hv]))
      have hall : concL R1 (app [.y p] caps) = some (.func (.yield (w.heap.size + 1)) #[] #[] :: xs) :=
        concL_cons.2 ⟨_, xs, by simp only [conc, hRp]; rfl, concL_mono hle3 _ _ hxs, rfl⟩
      obtain ⟨h1, h2⟩ := hcf2.call _ _ _ _ hne hc D R1 w1 _ r3 hall
      refine ⟨w.heap.size + 1, [mkOf w.heap.size], w1, { target := .fn (.func gf) xs.toArray, args := #[.func (.yield (w.heap.size + 1)) #[] #[]] }, w1, gf, _, w1, hent, ?_, fun _ _ => trivial, ?_, fun h => (by cases h), CallsIn.mono (callsIn_wide.2 h2) post⟩
      · simp only [resolve, he]
        simp [go_sem]
      · have ea : #[Value.func (.yield (w.heap.size + 1)) #[] #[]] ++ xs.toArray = (.func (.yield (w.heap.size + 1)) #[] #[] :: xs).toArray := by apply Array.ext'; simp
        simp only [invoke, ea]; exact h1
    · rename_i gf v hv
      obtain ⟨hne, hc⟩ := ne_yNo h
      obtain ⟨y, hy, he⟩ := conc_fm (evx_conc hf (by rw [gx_spec hg, hv]))
      have hall : concL R1 [v, .y p] = some [y, .func (.yield (w.heap.size + 1)) #[] #[]] :=
        concL_cons.2 ⟨_, _, conc_mono hle3 _ _ hy, concL_cons.2 ⟨_, [], by simp only [conc, hRp]; rfl, rfl, rfl⟩, rfl⟩
      obtain ⟨h1, h2⟩ := hcf2.call _ _ _ _ hne hc D R1 w1 _ r3 hall
      refine ⟨w.heap.size + 1, [mkOf w.heap.size], w1, { target := .fn (.func gf) #[], args := #[y, .func (.yield (w.heap.size + 1)) #[] #[]] }, w1, gf, _, w1, hent, ?_, fun _ _ => trivial, ?_, fun h => (by cases h), CallsIn.mono (callsIn_wide.2 h2) post⟩
      · simp only [resolve, he]
        simp [go_sem]
      · have ea : #[y, Value.func (.yield (w.heap.size + 1)) #[] #[]] ++ #[] = [y, .func (.yield (w.heap.size + 1)) #[] #[]].toArray := by apply Array.ext'; simp
        simp only [invoke, ea]; exact h1
    · cases h
theorem cmp_spec (hcf : CFAll P G cf) (hm : P.follows .mixedOrders = true) {fuel N : Nat} {inr : Bool} : ∀ (c : Code) (r : Cn n), cmp n P G fuel N inr c = .mk r → CodeK P G cf n N inr c r
  | .skip, r, hr => by
    have hr' : (Cl.mk (fun _ X s k _ _ => k X s) : Cl (Cn n)) = .mk r := hr
    simp only [Cl.mk.injEq] at hr'; subst hr'
    intro B0 B W D R X s a w k kx kr Q ρ hi hG hB hM h hrel hf hN hQ _ _
    exact wpIn_skip (hQ B W X s R a w (Grow.refl B W) h R.le_refl hrel hf hN (Kept.refl B w) hM)
  | .region id ops d, r, hr => by
    have hr' : (match rgn n P G N ops.toList d with | .mk r => (Cl.mk fun cf X s k _ _ => r cf X s k : Cl (Cn n))) = .mk r := hr
    split at hr'
    rename_i r0 h0
    simp only [Cl.mk.injEq] at hr'; subst hr'
    intro B0 B W D R X s a w k kx kr Q ρ hi hG hB hM h hrel hf hN hQ _ _
    exact rgn_spec hG (hcf B W hG) hm h0 h hrel hf hN (hQ.now hM)
  | .seq a b, r, hr => by
    have hr' : (match cmp n P G fuel N inr a, cmp n P G fuel N inr b with | .mk a, .mk b => (Cl.mk fun cf X s k kx kr => a cf X s (fun X s => b cf X s k kx kr) kx kr : Cl (Cn n))) = .mk r := hr
    split at hr'
    rename_i ra rb ha hb
    simp only [Cl.mk.injEq] at hr'; subst hr'
    intro B0 B W D R X s ac w k kx kr Q ρ hi hG hB hM h hrel hf hN hQ hx hret
    refine wpIn_seq (cmp_spec hcf hm a ra ha B0 B W D R X s ac w _ kx kr _ ρ hi hG hB hM h hrel hf hN (fun B2 W2 X2 s2 R2 a2 w2 g m1 m2 m3 m4 m5 m6 m7 => ?_) hx hret)
    exact cmp_spec hcf hm b rb hb B0 B2 W2 D R2 X2 s2 a2 w2 k kx kr Q ρ hi (hG.grow g) (fun k hk => g.sub k (hB k hk)) m7 m1 m3 m4 m5 (hQ.of g m2 m6) (fun i => (hx i).of g m2 m6) (hret.of g m2 m6)
  | .cond x a b, r, hr => by
    have hr' : (match gx n x, cmp n P G fuel N inr a, cmp n P G fuel N inr b with
      | some (.mk g), .mk a, .mk b => (Cl.mk fun cf X s k kx kr => cnd (g X) (a cf X s k kx kr) (b cf X s k kx kr) : Cl (Cn n))
      | none, _, _ => .mk (badC n)) = .mk r := hr
    split at hr'
    · rename_i g ra rb hg ha hb
      simp only [Cl.mk.injEq] at hr'; subst hr'
      intro B0 B W D R X s ac w k kx kr Q ρ hi hG hB hM h hrel hf hN hQ hx hret
      dsimp only at h
      unfold cnd at h
      split at h
      · rename_i v hv
        have h1 := evx_conc hf (gx_spec hg X)
        rw [hv] at h1
        simp only [conc, Option.some.injEq] at h1
        cases v with
        | true => exact wpIn_cond_true h1.symm (cmp_spec hcf hm a ra ha B0 B W D R X s ac w k kx kr Q ρ hi hG hB hM h hrel hf hN hQ hx hret)
        | false => exact wpIn_cond_false h1.symm (cmp_spec hcf hm b rb hb B0 B W D R X s ac w k kx kr Q ρ hi hG hB hM h hrel hf hN hQ hx hret)
      · cases h
    · simp only [Cl.mk.injEq] at hr'; subst hr'
      intro B0 B W D R X s ac w k kx kr Q ρ hi hG hB hM h; cases h
  | .block id c, r, hr => by
    have hr' : (match cmp n P G fuel N inr c with | .mk c => (Cl.mk fun cf X s k kx kr => c cf X s k (fun i => Bool.rec (kx i) k (Nat.beq i id)) kr : Cl (Cn n))) = .mk r := hr
    split at hr'
    rename_i rc hc
    simp only [Cl.mk.injEq] at hr'; subst hr'
    intro B0 B W D R X s ac w k kx kr Q ρ hi hG hB hM h hrel hf hN hQ hx hret
    refine wpIn_block (cmp_spec hcf hm c rc hc B0 B W D R X s ac w k _ kr _ ρ hi hG hB hM h hrel hf hN hQ (fun i B2 W2 X2 s2 R2 a2 w2 g m1 m2 m3 m4 m5 m6 m7 => ?_) hret)
    show (if i = id then Q .normal a2 w2 else Q (.exit i) a2 w2)
    rw [beq_dec] at m1
    by_cases hi : i = id
    · rw [if_pos hi]
      rw [decide_eq_true hi] at m1
      exact hQ B2 W2 X2 s2 R2 a2 w2 g m1 m2 m3 m4 m5 m6 m7
    · rw [if_neg hi]
      rw [decide_eq_false hi] at m1
      exact hx i B2 W2 X2 s2 R2 a2 w2 g m1 m2 m3 m4 m5 m6 m7
  | .loop c, r, hr => by
    have hr' : (match cmp n P G fuel N inr c with | .mk c => (Cl.mk fun cf X s _ kx kr => lp n fuel c cf X s kx kr : Cl (Cn n))) = .mk r := hr
    split at hr'
    rename_i rc hc
    simp only [Cl.mk.injEq] at hr'; subst hr'
    intro B0 B W D R X s ac w k kx kr Q ρ hi hG hB hM h hrel hf hN hQ hx hret
    exact wpIn_loop_rounds fuel (lp_spec (cmp_spec hcf hm c rc hc) hi fuel B W D R X s ac w hG hB hM h hrel hf hN hx hret)
  | .rangeFunc f ps as bd, r, hr => by
    cases inr with
    | true =>
      have hr' : (Cl.mk (badC n) : Cl (Cn n)) = .mk r := hr
      simp only [Cl.mk.injEq] at hr'; subst hr'
      intro B0 B W D R X s ac w k kx kr Q ρ hi hG hB hM h; cases h
    | false =>
      have hr' : (match gx n f, rdC n N 0 with
        | some (.mk g), .mk rd => bif Nat.ble N (Nat.pow 2 n) then (Cl.mk (fun cf X s k kx kr => rngC N ps.toList as bd (g X) (rd X) cf s (fun s => k X s) (fun i s => kx i X s) (fun s => kr X s)) : Cl (Cn n)) else .mk (badC n)
        | none, _ => .mk (badC n)) = .mk r := hr
      split at hr'
      · rename_i g rd hg hrd
        cases hle : Nat.ble N (Nat.pow 2 n) with
        | false =>
          rw [hle] at hr'
          simp only [cond_false, Cl.mk.injEq] at hr'; subst hr'
          intro B0 B W D R X s ac w k kx kr Q ρ hi hG hB hM h; cases h
        | true =>
          rw [hle] at hr'
          simp only [cond_true, Cl.mk.injEq] at hr'; subst hr'
          intro B0 B W D R X s ac w k kx kr Q ρ hi hG hB hM h hrel hf hN hQ hx hret
          obtain rfl := hi rfl
          exact rng_spec hcf hg hrd (ble_le hle) hG hB hM h hrel hf hN hQ hx hret
      · simp only [Cl.mk.injEq] at hr'; subst hr'
        intro B0 B W D R X s ac w k kx kr Q ρ hi hG hB hM h; cases h
  | .exit i, r, hr => by
    have hr' : (Cl.mk (fun _ X s _ kx _ => kx i X s) : Cl (Cn n)) = .mk r := hr
    simp only [Cl.mk.injEq] at hr'; subst hr'
    intro B0 B W D R X s a w k kx kr Q ρ hi hG hB hM h hrel hf hN _ hx _
    exact wpIn_exit (hx i B W X s R a w (Grow.refl B W) h R.le_refl hrel hf hN (Kept.refl B w) hM)
  | .scope c, r, hr => by
    intro B0 B W D R X s ac w k kx kr Q ρ hi hG hB hM h hrel hf hN hQ hx hret
    exact wpIn_scope (cmp_spec hcf hm c r hr B0 B W D R X s ac w k kx kr _ ρ hi hG hB hM h hrel hf hN hQ hx hret)
  | .label l, r, hr => by
    have hr' : (Cl.mk (fun _ X s k _ _ => k X s) : Cl (Cn n)) = .mk r := hr
    simp only [Cl.mk.injEq] at hr'; subst hr'
    intro B0 B W D R X s a w k kx kr Q ρ hi hG hB hM h hrel hf hN hQ _ _
    exact wpIn_label (hQ B W X s R a w (Grow.refl B W) h R.le_refl hrel hf hN (Kept.refl B w) hM)
  | .goto l, r, hr => by
    have hr' : (Cl.mk (badC n) : Cl (Cn n)) = .mk r := hr
    simp only [Cl.mk.injEq] at hr'; subst hr'
    intro B0 B W D R X s ac w k kx kr Q ρ hi hG hB hM h; cases h
  | .ret, r, hr => by
    have hr' : (Cl.mk (fun _ X s _ _ kr => kr X s) : Cl (Cn n)) = .mk r := hr
    simp only [Cl.mk.injEq] at hr'; subst hr'
    intro B0 B W D R X s a w k kx kr Q ρ hi hG hB hM h hrel hf hN _ _ hret
    exact wpIn_ret (hret B W X s R a w (Grow.refl B W) h R.le_refl hrel hf hN (Kept.refl B w) hM)
  | .refuse why, r, hr => by
    have hr' : (Cl.mk (badC n) : Cl (Cn n)) = .mk r := hr
    simp only [Cl.mk.injEq] at hr'; subst hr'
    intro B0 B W D R X s ac w k kx kr Q ρ hi hG hB hM h; cases h
theorem arC_spec : ∀ (m i : Nat) (ar : List AV → TT n → TT n), arC n m i = .mk ar → ∀ (vs : List AV) (X : TT n), vs.length ≤ m → i + vs.length ≤ 2 ^ n → frOf n (ar vs X) = argF vs i (frOf n X)
  | 0, i, ar, h, vs, X, hl, _ => by
    have h' : (Cl.mk (fun _ X => X) : Cl (List AV → TT n → TT n)) = .mk ar := h
    simp only [Cl.mk.injEq] at h'; subst h'
    have : vs = [] := List.eq_nil_of_length_eq_zero (by omega)
    subst this; rfl
  | m + 1, i, ar, h, vs, X, hl, h2 => by
    have h' : (match arC n m (Nat.succ i), sC n i with | .mk r, .mk p => (Cl.mk fun vs X => List.rec (motive := fun _ => TT n) X (fun v vs' _ => r vs' (p v X)) vs : Cl (List AV → TT n → TT n))) = .mk ar := h
    split at h'
    rename_i r p hr hp
    simp only [Cl.mk.injEq] at h'; subst h'
    cases vs with
    | nil => rfl
    | cons v vs =>
      simp only [List.length_cons] at hl h2
      show frOf n (r vs (p v X)) = argF vs (i + 1) (setF (frOf n X) i v)
      rw [arC_spec m (i + 1) r hr vs (p v X) (by omega) (by omega), sC_spec hp, frOf_set v X (by omega)]
end
section
variable {P : Program} {B : Nat → Prop} {W : World} {G : PT (List AV)} {cf : CF}
theorem psC_spec {n N : Nat} {R : Rf} : ∀ {ps : List Tmp} {pw : List AV → TT n → TT n}, psC n N ps = some (.mk pw) → ∀ {vs : List AV} {xs : List Value} {X : TT n} {a : Act}, concL R vs = some xs → vs.length = ps.length → FrR R (frOf n X) a → a.tmps.size = N →
    FrR R (frOf n (pw vs X)) { tmps := (ps.zip xs).foldl (fun t (p, v) => t.setIfInBounds p v) a.tmps, defers := a.defers } ∧ ((ps.zip xs).foldl (fun t (p, v) => t.setIfInBounds p v) a.tmps).size = N
  | [], pw, h, vs, xs, X, a, _, _, hf, hN => by
    have h' : some (Cl.mk (fun (_ : List AV) (X : TT n) => X)) = some (.mk pw) := h
    simp only [Option.some.injEq, Cl.mk.injEq] at h'; subst h'
    exact ⟨⟨hf.at_⟩, hN⟩
  | p :: ps, pw, h, vs, xs, X, a, hx, hl, hf, hN => by
    have h' : (bif Nat.ble (Nat.succ p) N then (bif Nat.ble (Nat.succ p) (Nat.pow 2 n) then (match psC n N ps, sC n p with
      | some (.mk r), .mk p => some (Cl.mk fun vs X => List.rec (motive := fun _ => TT n) X (fun v vs' _ => r vs' (p v X)) vs)
      | none, _ => none) else none) else none) = some (.mk pw) := h
    cases hb : Nat.ble (Nat.succ p) N with
    | false => rw [hb] at h'; cases h'
    | true =>
      cases hb2 : Nat.ble (Nat.succ p) (Nat.pow 2 n) with
      | false => rw [hb, hb2] at h'; cases h'
      | true =>
        rw [hb, hb2, cond_true, cond_true] at h'
        split at h'
        · rename_i r sp hr hsp
          simp only [Option.some.injEq, Cl.mk.injEq] at h'; subst h'
          cases vs with
          | nil => simp at hl
          | cons v vs =>
            obtain ⟨x, ys, h1, h2, rfl⟩ := concL_cons.1 hx
            have hp := hf.put (d := some p) (v := v) (x := x) (fun t e => by cases e; rw [hN]; exact ble_le hb) h1
            have := psC_spec hr (X := sp v X) (a := a.put (some p) x) h2 (by simpa using hl) (by rw [sC_spec hsp, frOf_set v X (ble_le hb2)]; exact hp.1) (by rw [hp.2]; exact hN)
            exact this
        · cases h'
theorem roundPost_of {l : Nat} {p : Ps} {j : Option Code} {N : Nat} {ts : List AV} {ps : List Tmp} {as bd : Code} {st0 : LoopState} {pe0 : Option Code} {D : Dn} {R R' : Rf} {B2 : Nat → Prop} {W2 : World} {w w' : World} {s' : S} {k : KV} {x : Nat}
    (g : Grow B W B2 W2) (hr : R.le R') (hrel : Rel P B2 W2 D R' s'.h w') (hk : Kept B w w') (hRp : R' p = some (l, x)) (hget : s'.h.get p = some (.loop st0 pe0 N ts ps as bd))
    (ht : k (.b j.isNone) ⟨s'.h.set (some (.loop (if j.isNone then .ready else .done) j N ts ps as bd)) p, s'.n⟩ = true) :
    ∃ v w'', (Instr.endRound l j).run P w' = .ok v w'' ∧ ∃ X, Ending.returned v = .returned X ∧ CameK P B W D R w (fun v s' => k v s' = true) X w'' := by
  obtain ⟨rc, l1, l2, l3, l4, l5, l6, l7, l8, l9⟩ := hrel.loopTo (st' := if j.isNone then .ready else .done) (pe' := j) hget hRp
  have hend := run_endRound (P := P) j l1
  obtain ⟨r4, k4⟩ := l8 _ (l9 ·)
  exact ⟨_, _, hend, _, rfl, .b j.isNone, _, R', ht, hr, rfl, r4.back g, hk.trans (k4.less g.sub)⟩
theorem yld_spec (hcf : CFAll P G cf) (hm : P.follows .mixedOrders = true) {fuel : Nat} (hG : GOk B W G) {b : Ps} {vs : List AV} {s : S} {k : KV} (h : yld P G fuel cf (.y b :: vs) s k = true) : RoundOk P B W b vs s fun v s' => k v s' = true := by
  have h' : (match s.h.get b with
    | some (.loop .ready _ N ts ps as bd) => rndC (Nat.succ (Nat.log2 N)) P G fuel N ts ps as bd b vs cf s k
    | _ => false) = true := h
  clear h
  split at h'
  · rename_i pe N ts ps as bd hget
    generalize Nat.succ (Nat.log2 N) = n at h'
    unfold rndC at h'
    split at h'
    · rename_i ra rb ar pw ha hb har hpw
      cases h1 : Nat.beq (len vs) (len ps) with
      | false => rw [h1] at h'; cases h'
      | true =>
      cases h2 : Nat.beq (len ts) N with
      | false => rw [h1, h2] at h'; cases h'
      | true =>
      cases h3 : Nat.ble N (Nat.pow 2 n) with
      | false => rw [h1, h2, h3] at h'; cases h'
      | true =>
      rw [h1, h2, h3] at h'
      dsimp only at h'
      have e1 := Nat.eq_of_beq_eq_true h1
      have e2 := Nat.eq_of_beq_eq_true h2
      have e3 : N ≤ 2 ^ n := ble_le h3
      rw [len_eq, len_eq] at e1
      rw [len_eq] at e2
      intro D R w xs kk e hrel hxs hRb
      obtain ⟨rc, l1, l2, l3, l4, l5, l6, ⟨ys, l71, l72, l73⟩, l8, l9⟩ := hrel.loopTo (st' := .busy) (pe' := pe) hget hRb
      have hlx := concL_len hxs
      refine ⟨rc.fn, _, rc.assign, rc.body, run_yield l1 (by rw [l4]; simp [hlx, e1]), ?_⟩
      have harr := arC_spec N 0 ar har ts (zN n) (by omega) (by omega)
      rw [frOf_zN] at harr
      have hf0 : FrR R (frOf n (ar ts (zN n))) { tmps := rc.tmps, defers := [] } := by
        rw [harr]
        have := FrR.args l71 0
        rw [l73]; simpa using this
      obtain ⟨hf1, hN1⟩ := psC_spec hpw hxs e1 hf0 (by rw [l73]; simpa using l72)
      have hfold : (rc.params.zip xs.toArray).foldl (fun tmps (x : Tmp × Value) => tmps.setIfInBounds x.1 x.2) rc.tmps = (ps.zip xs).foldl (fun t (p, v) => t.setIfInBounds p v) rc.tmps := by
        rw [l4]; simp
      rw [l5, l6]
      refine roundIn_of_wpIn (F := Fence.wide) trivial ?_
      rw [← Fw_some]
      refine cmp_spec hcf hm as ra ha B B W D R _ s _ w _ _ _ _ (some kk) (fun h => by cases h) hG (fun _ h => h) (Mks.nil B B W) h' hrel (by rw [show (fun tmps (x : Tmp × Value) => Array.setIfInBounds tmps x.1 x.2) = (fun t (p, v) => t.setIfInBounds p v) from rfl] at hfold; rw [hfold]; exact hf1) (by rw [show (fun tmps (x : Tmp × Value) => Array.setIfInBounds tmps x.1 x.2) = (fun t (p, v) => t.setIfInBounds p v) from rfl] at hfold; rw [hfold]; exact hN1)
        (fun B2 W2 X2 s2 R2 a2 w2 g m1 m2 m3 m4 m5 m6 m7 => ?_) (fun i => KX.bad) KX.bad
      unfold begR at m1
      split at m1
      · rename_i pe2 N2 ts2 ps2 as2 bd2 hget2
        have hRb2 := m2 _ _ hRb
        obtain ⟨rc2, q1, q2, q3, q4, q5, q6, q7, q8, q9⟩ := m3.loopTo (st' := .busy) (pe' := pe2) hget2 hRb2
        have hbeg := run_beginRound (P := P) q1 q2
        rw [q3] at hbeg
        obtain ⟨r3, k3⟩ := q8 _ (q9 ·)
        refine ⟨_, hbeg, ?_⟩
        have endN_ : ∀ {B3 W3} {X3 : TT n} {s3 R3 a3 w3}, Grow B2 W2 B3 W3 → endN b s3 k = true → R2.le R3 → Rel P B3 W3 D R3 s3.h w3 → FrR R3 (frOf n X3) a3 → a3.tmps.size = N → Kept B2 (w2.putObj kk (.loop { rc2 with state := .busy, pending := pe2 })) w3 → ∃ v w', (Instr.endRound kk none).run P w3 = .ok v w' ∧ ∃ X, Ending.returned v = .returned X ∧ CameK P B W D R w (fun v s' => k v s' = true) X w' := by
          intro B3 W3 X3 s3 R3 a3 w3 g3 p1 p2 p3 _ _ p6
          unfold endN at p1
          split at p1
          · rename_i st3 pe3 N3 ts3 ps3 as3 bd3 hget3
            exact roundPost_of (j := none) (g.trans g3) (Rf.le_trans m2 p2) p3 ((m6.trans (k3.less g.sub)).trans (p6.less g.sub)) (p2 _ _ hRb2) hget3 p1
          · cases p1
        have endJ_ : ∀ {j : Code} {B3 W3} {X3 : TT n} {s3 R3 a3 w3}, Grow B2 W2 B3 W3 → endJ b j s3 k = true → R2.le R3 → Rel P B3 W3 D R3 s3.h w3 → FrR R3 (frOf n X3) a3 → a3.tmps.size = N → Kept B2 (w2.putObj kk (.loop { rc2 with state := .busy, pending := pe2 })) w3 → ∃ v w', (Instr.endRound kk (some j)).run P w3 = .ok v w' ∧ ∃ X, Ending.returned v = .returned X ∧ CameK P B W D R w (fun v s' => k v s' = true) X w' := by
          intro j B3 W3 X3 s3 R3 a3 w3 g3 p1 p2 p3 _ _ p6
          unfold endJ at p1
          split at p1
          · rename_i st3 pe3 N3 ts3 ps3 as3 bd3 hget3
            exact roundPost_of (j := some j) (g.trans g3) (Rf.le_trans m2 p2) p3 ((m6.trans (k3.less g.sub)).trans (p6.less g.sub)) (p2 _ _ hRb2) hget3 p1
          · cases p1
        refine cmp_spec hcf hm bd rb hb B B2 W2 D R2 X2 _ a2 _ _ _ _ _ (some kk) (fun h => by cases h) (hG.grow g) g.sub m7 m1 r3 m4 m5 (fun B3 W3 X3 s3 R3 a3 w3 g3 p1 p2 p3 p4 p5 p6 _ => endN_ g3 p1 p2 p3 p4 p5 p6) (fun i B3 W3 X3 s3 R3 a3 w3 g3 p1 p2 p3 p4 p5 p6 _ => endJ_ g3 p1 p2 p3 p4 p5 p6) (fun B3 W3 X3 s3 R3 a3 w3 g3 p1 p2 p3 p4 p5 p6 _ => endJ_ g3 p1 p2 p3 p4 p5 p6)
      · cases m1
    · cases h'
  · cases h'
theorem rsF_spec {n : Nat} {rs : List ResultVar} {f : TT n → PT AO → Option AV} (h : rsF n P rs = .mk f) {X : TT n} {m : PT AO} {v : AV} (hf : f X m = some v) : resF P (frOf n X) m rs = some v := by
  unfold rsF at h
  split at h
  · rename_i t
    cases hb : Nat.ble (Nat.succ t) (Nat.pow 2 n) with
    | false => rw [hb] at h; simp only [cond_false, Cl.mk.injEq] at h; subst h; exact hf
    | true =>
      rw [hb, cond_true] at h
      split at h
      rename_i g hg
      simp only [Cl.mk.injEq] at h; subst h
      simp only [resF, resL, resV, getF, frOf_lt X (ble_le hb), ← gC_spec hg X]
      exact hf
  · simp only [Cl.mk.injEq] at h; subst h; exact hf
def IntrOk (P : Program) (B : Nat → Prop) (W : World) (g : FuncId) (f : Intr) : Prop :=
  ∀ (vs : List AV) (s s' : S) (v : AV), f vs s = some (v, s') → CallOk P B W g vs s fun u t => u = v ∧ t = s'
theorem leaves_marks {fn : Func} {tmps : Array Value} {K : AV → S → Prop} {D : Dn} {R R2 : Rf} {w0 : World} {s2 : S} {v : AV} {Y : Value} (hv : K v s2) (hr : R.le R2) (hY : conc R2 v = some Y) (hres : ∀ w, Rel P B W D R2 s2.h w → (results fn tmps).run P w = .ok Y w) : ∀ (l : List Nat) (w : World), l.Nodup → (∀ d ∈ l, ¬ B d ∧ w.heap[d]? = some (.deferred (some [])) ∧ ∀ b k x, R2 b = some (k, x) → k ≠ d) → Rel P B W D R2 s2.h w → Kept B w0 w →
    LeavesInM Fence.wide 0 P fn tmps (fun e w' => ∃ X, e = .returned X ∧ CameK P B W D R w0 K X w') (l.map mkOf) .returning w
  | [], w, _, _, hrel, hk => ⟨Y, hres w hrel, Y, rfl, v, s2, R2, hv, hr, hY, hrel, hk⟩
  | d :: l, w, hn, hl, hrel, hk => by
    obtain ⟨b1, b2, b3⟩ := hl d List.mem_cons_self
    obtain ⟨r2, k2⟩ := hrel.off (.deferred none) b1 b3
    refine ⟨by simp, .inl ⟨d, _, rfl, run_takeDeferred b2, leaves_marks hv hr hY hres l _ (List.nodup_cons.1 hn).2 (fun d' hd' => ?_) r2 (hk.trans k2)⟩⟩
    obtain ⟨c1, c2, c3⟩ := hl d' (List.mem_cons_of_mem _ hd')
    exact ⟨c1, (World.putObj_heap_other (k := d') (r := d) (fun e => (List.nodup_cons.1 hn).1 (e ▸ hd'))).trans c2, c3⟩
theorem fnc_spec (hG : GOk B W G) (hm : P.follows .mixedOrders = true) {fuel : Nat} {g : FuncId} {fn : Func} (hfun : P.funcs[g]? = some fn) {f : Fn} (hf : fnc P G fuel fn = .mk f) {cf : CF} (hcf : CFAll P G cf) {vs : List AV} {s : S} {k : KV} (h : f cf vs s k = true) :
    CallOk P B W g vs s fun v s' => k v s' = true := by
  unfold fnc at hf
  split at hf
  · rename_i b hb
    cases hname : (fn.name == "runtime.NumGoroutine") with
    | true => rw [hname] at hf; simp only [cond_true, Cl.mk.injEq] at hf; subst hf; cases h
    | false =>
      rw [hname, cond_false] at hf
      split at hf
      rename_i rf ar c hrf har hc
      simp only [Cl.mk.injEq] at hf; subst hf; dsimp only at h
      generalize hn : Nat.succ (Nat.log2 fn.ntmps) = n at *
      have hpow : fn.ntmps ≤ 2 ^ n := by
        rw [← hn]
        exact Nat.le_of_lt Nat.lt_log2_self
      cases hle : Nat.ble (len vs) (Nat.min fn.ntmps (fn.params.size + fn.nfree)) with
      | false => rw [hle] at h; cases h
      | true =>
        rw [hle] at h
        dsimp only at h
        have hle1 := ble_le hle
        rw [len_eq] at hle1
        have hle' : vs.length ≤ fn.ntmps := Nat.le_trans hle1 (Nat.min_le_left _ _)
        intro D R w xs hrel hx
        have hlx := concL_len hx
        constructor
        · have hn2 : ¬ fn.name = "runtime.NumGoroutine" := by simpa using hname
          simp [callFunc, hfun, hn2, hb]
        · refine (callsIn_wide (n := 0)).1 (callsIn_of_wp_marks hfun hb trivial ?_)
          have har2 := arC_spec _ 0 ar har vs (zN n) hle1 (by omega)
          rw [frOf_zN] at har2
          have fin : KX P B B W D R w fn.ntmps n (fun X s => Option.rec false (fun v => k v s) (rf X s.h)) (fun a2 w2 => LeavesInM Fence.wide 0 P fn a2.tmps (fun e w' => ∃ X, e = .returned X ∧ CameK P B W D R w (fun v s' => k v s' = true) X w') a2.defers .returning w2) := by
            intro B2 W2 X s2 R2 a2 w2 g2 m1 m2 m3 m4 m5 m6 m7
            dsimp only at m1
            cases hv : rf X s2.h with
            | none => rw [hv] at m1; cases m1
            | some v =>
              rw [hv] at m1
              obtain ⟨l, e1, e2, e3⟩ := m7
              obtain ⟨Y, x1, _⟩ := resF_run m3 m4 (rsF_spec hrf hv)
              rw [e1]
              refine leaves_marks (K := fun v s' => k v s' = true) m1 m2 x1 (fun w hw => ?_) l w2 e2 (fun d hd => ⟨(e3 d hd).1, (m3.old.block d (e3 d hd).2.1).trans (e3 d hd).2.2, fun b k x hk e => (m3.lo b k x hk).1 (e ▸ (e3 d hd).2.1)⟩) (m3.back g2) m6
              obtain ⟨Y2, y1, y2⟩ := resF_run hw m4 (rsF_spec hrf hv)
              rw [x1] at y1; simp only [Option.some.injEq] at y1; subst y1; exact y2
          exact cmp_spec hcf hm b c hc B B W D R _ s _ w _ _ _ _ none (fun _ => rfl) hG (fun _ h => h) (Mks.nil B B W) h hrel (by rw [har2]; exact FrR.args hx _) (by simp; omega) fin (fun i => KX.bad) fin
  · simp only [Cl.mk.injEq] at hf; subst hf; cases h
theorem goF_spec (hm : P.follows .mixedOrders = true) {fuel : Nat} {F : PT (Cl Fn)} {I : PT Intr} (hF : ∀ g c, g ≠ yNo → F.get (psOf g) = some c → ∃ fn, P.funcs[g]? = some fn ∧ c = fnc P G fuel fn) (hY : ∀ c, F.get (psOf yNo) = some c → c = .mk (yld P G fuel)) (hI : ∀ B W, GOk B W G → ∀ g f, I.get (psOf g) = some f → IntrOk P B W g f) : ∀ d, CFAll P G (goF F I d)
  | 0 => fun B W hG => ⟨fun g vs s k _ h => (by cases h), fun b vs s k h => (by cases h)⟩
  | d + 1 => by
    have ih := goF_spec hm hF hY hI d
    intro B W hG
    refine ⟨fun g vs s k hne h => ?_, fun b vs s k h => ?_⟩
    · have hd0 : (Bool.rec (Option.rec (Option.rec false (fun c => Cl.rec (fun f => f (goF F I d) vs s k) c) (F.get (psOf g))) (fun f => Option.rec (Option.rec false (fun c => Cl.rec (fun f => f (goF F I d) vs s k) c) (F.get (psOf g))) (fun r => k r.1 r.2) (f vs s)) (I.get (psOf g)))
        (Option.rec false (fun c => Cl.rec (fun f => f (goF F I d) vs s k) c) (F.get (psOf yNo))) (Nat.beq g yNo) : Bool) = true := h
      clear h
      rw [beq_dec, decide_eq_false hne] at hd0
      have hd : (Option.rec (Option.rec false (fun c => Cl.rec (fun f => f (goF F I d) vs s k) c) (F.get (psOf g))) (fun f => Option.rec (Option.rec false (fun c => Cl.rec (fun f => f (goF F I d) vs s k) c) (F.get (psOf g))) (fun r => k r.1 r.2) (f vs s)) (I.get (psOf g)) : Bool) = true := hd0
      clear hd0
      have run : (Option.rec false (fun c => Cl.rec (fun f => f (goF F I d) vs s k) c) (F.get (psOf g)) : Bool) = true → CallOk P B W g vs s fun v s' => k v s' = true := by
        intro h
        cases hg : F.get (psOf g) with
        | none => rw [hg] at h; cases h
        | some c =>
          rw [hg] at h
          obtain ⟨fn, h1, h2⟩ := hF g c hne hg
          cases c with
          | mk f => exact fnc_spec hG hm h1 h2.symm ih h
      cases hi : I.get (psOf g) with
      | none => rw [hi] at hd; exact run hd
      | some f =>
        rw [hi] at hd
        cases hv : f vs s with
        | none => dsimp only at hd; rw [hv] at hd; exact run hd
        | some r =>
          dsimp only at hd
          rw [hv] at hd
          intro D R w xs hrel hx
          obtain ⟨h1, h2⟩ := hI B W hG g f hi vs s r.2 r.1 hv D R w xs hrel hx
          refine ⟨h1, Calls.mono h2 ?_⟩
          rintro e w' ⟨Y, he, v, s', R', ⟨rfl, rfl⟩, q⟩
          exact ⟨Y, he, r.1, r.2, R', hd, q⟩
    · have hd0 : (Bool.rec (Option.rec (Option.rec false (fun c => Cl.rec (fun f => f (goF F I d) (.y b :: vs) s k) c) (F.get (psOf yNo))) (fun f => Option.rec (Option.rec false (fun c => Cl.rec (fun f => f (goF F I d) (.y b :: vs) s k) c) (F.get (psOf yNo))) (fun r => k r.1 r.2) (f (.y b :: vs) s)) (I.get (psOf yNo)))
        (Option.rec false (fun c => Cl.rec (fun f => f (goF F I d) (.y b :: vs) s k) c) (F.get (psOf yNo))) (Nat.beq yNo yNo) : Bool) = true := h
      clear h
      rw [Nat.beq_refl] at hd0
      have hd : (Option.rec false (fun c => Cl.rec (fun f => f (goF F I d) (.y b :: vs) s k) c) (F.get (psOf yNo)) : Bool) = true := hd0
      clear hd0
      cases hg : F.get (psOf yNo) with
      | none => rw [hg] at hd; cases hd
      | some c =>
        rw [hg] at hd
        obtain rfl := hY c hg
        exact yld_spec ih hm hG hd
end
end Go.Ev
