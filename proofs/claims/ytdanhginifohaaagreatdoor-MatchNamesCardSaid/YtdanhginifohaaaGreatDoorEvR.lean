/- A machine that runs a Go text by reckoning: code, calls, and what comes of a closed call. Of no program. -/
import Derived.Test.YtdanhginifohaaaGreatDoorEvQ
import Derived.LoopN
import Derived.Scope
namespace Go.Ev
open Go.RowKit

inductive Ex where | n | x (id : Nat) | r
def exOf : Ex → Exit
  | .n => .normal
  | .x i => .exit i
  | .r => .ret
abbrev Out := Option (List (Ex × Fr × S))
noncomputable def evL (P : Program) (G : PT (List AV)) (cf : Cf) (ops : List Oper) (N : Nat) (l : List Oper) : Fr → S → ROut :=
  List.rec (fun fr s => some [(fr, s)]) (fun o _ ih fr s => bif dstOk N o then (bif guardOk ops fr o then (match evOp P G cf o fr s with
    | some rs => bindO (fun r => ih (putF fr o.dst r.1) r.2) rs
    | none => none) else ih (putF fr o.dst und) s) else none) l
noncomputable def downG (l : List Oper) : Nat → Bool := List.rec (fun _ => true) (fun o _ ih j => bif Nat.ble (maskE o + 1) (2 ^ j) then ih (j + 1) else false) l
noncomputable def noSelL (l : List Oper) : Bool := List.rec true (fun o _ ih => match o.op with | .select .. => false | _ => ih) l
noncomputable def toX (l : List (Fr × S)) : List (Ex × Fr × S) := List.rec [] (fun x _ ih => (.n, x.1, x.2) :: ih) l
noncomputable def evReg (P : Program) (G : PT (List AV)) (cf : Cf) (N : Nat) (ops : List Oper) (draw : Bool) (fr : Fr) (s : S) : Out :=
  match (bif draw then (bif downG ops 0 then (bif noSelL ops then evS P G cf ops N (mkSc ops (len ops) 0) [] fr s else none) else none) else evL P G cf ops N ops fr s : ROut) with
  | some l => some (toX l)
  | none => none
noncomputable def leave (id : Nat) (l : List (Ex × Fr × S)) : List (Ex × Fr × S) := List.rec [] (fun x _ ih => (match x with
  | (.x i, fr, s) => bif Nat.beq i id then (.n, fr, s) else (.x i, fr, s)
  | x => x) :: ih) l
noncomputable def evLoop (body : Fr → S → Out) (n : Nat) : Fr → S → Out :=
  Nat.rec (fun _ _ => none) (fun _ ih fr s => match body fr s with
    | some rs => bindO (fun x => match x with
      | (.n, fr, s) => ih fr s
      | x => some [x]) rs
    | none => none) n
noncomputable def stepC (P : Program) (G : PT (List AV)) (cf : Cf) (fuel : Nat) (N : Nat) (ih : Code → Fr → S → Out) (c : Code) (fr : Fr) (s : S) : Out :=
  match c with
  | .skip => some [(.n, fr, s)]
  | .label _ => some [(.n, fr, s)]
  | .region _ ops d => evReg P G cf N ops.toList d fr s
  | .seq a b => (match ih a fr s with
    | some rs => bindO (fun x => match x with
      | (.n, fr, s) => ih b fr s
      | x => some [x]) rs
    | none => none)
  | .cond x a b => (match evx fr x with
    | some (.b true) => ih a fr s
    | some (.b false) => ih b fr s
    | _ => none)
  | .block id c => (match ih c fr s with
    | some rs => some (leave id rs)
    | none => none)
  | .loop c => evLoop (ih c) fuel fr s
  | .scope c => ih c fr s
  | .exit i => some [(.x i, fr, s)]
  | .ret => some [(.r, fr, s)]
  | _ => none
noncomputable def resAll (P : Program) (rs : List ResultVar) (l : List (Ex × Fr × S)) : Option (List (AV × S)) := List.rec (some []) (fun x _ ih => match x.1 with
  | .x _ => none
  | _ => (match resF P x.2.1 x.2.2.h rs, ih with
    | some v, some l => some ((v, x.2.2) :: l)
    | _, _ => none)) l
abbrev Intr := List AV → S → Option (AV × S)
noncomputable def callF (P : Program) (_G : PT (List AV)) (F : PT Func) (I : PT Intr) (ih : Nat → Code → Fr → S → Cf → Out) (cf : Cf) : Cf := fun g vs s =>
  match (match I.get (psOf g) with | some f => f vs s | none => none) with
  | some r => some [r]
  | none => match F.get (psOf g) with
    | some fn => (match fn.body with
      | some b => bif fn.name == "runtime.NumGoroutine" then none else (bif Nat.ble (len vs) fn.ntmps then (match ih fn.ntmps b (argF vs 0 .lf) s cf with
        | some rs => resAll P fn.results.toList rs
        | none => none) else none)
      | none => none)
    | none => none
/-- the machine: fuel is how deep calls may be within one another -/
noncomputable def evC (P : Program) (G : PT (List AV)) (cf : Cf) (fuel N : Nat) : Nat → Code → Fr → S → Out := fun n =>
  Nat.rec (fun _ _ _ => none) (fun _ ih c fr s => stepC P G cf fuel N ih c fr s) n
noncomputable def evF (P : Program) (G : PT (List AV)) (F : PT Func) (I : PT Intr) (fuel : Nat) : Nat → Cf := fun d =>
  Nat.rec (fun _ _ _ => none) (fun _ cf => fun g vs s => callF P G F I (fun N c fr s cf => evC P G cf fuel N fuel c fr s) cf g vs s) d
/-- a function that is told, not run -/
def IntrOk (P : Program) (B : Nat) (W : World) (g : FuncId) (f : Intr) : Prop :=
  ∀ (vs : List AV) (s s' : S) (v : AV) (R : Rf) (w : World) (xs : List Value), f vs s = some (v, s') → Rel P B W R s.h w → concL R vs = some xs →
    (callFunc g xs.toArray).run P w = .ok (.enter g xs.toArray) w ∧ Calls P g xs.toArray w fun e w' => ∃ X, e = .returned X ∧ Came P B W R w [(v, s')] X w'
section
variable {P : Program} {B : Nat} {W : World} {G : PT (List AV)} {cf : Cf}
theorem evL_run (hG : GOk B W G) (hcf : CfOk P B W cf) {ops : Array Oper} {N : Nat} {Q : Exit → Act → World → Prop} : ∀ (l : List Oper) (R : Rf) (fr : Fr) (s : S) (a : Act) (w : World) (rs : List (Fr × S)),
    Rel P B W R s.h w → FrR R fr a → a.tmps.size = N → evL P G cf ops.toList N l fr s = some rs → REnd P B W R w N rs Q → wpList P ops Q l a w
  | [], R, fr, s, a, w, rs, r, hf, hN, h, hQ => by
    have hd : some [(fr, s)] = some rs := h
    simp only [Option.some.injEq] at hd; subst hd
    exact wpList_nil (hQ fr s R a w List.mem_cons_self R.le_refl r hf hN (Below.refl B w))
  | o :: l, R, fr, s, a, w, rs, r, hf, hN, h, hQ => by
    have hd : (bif dstOk N o then (bif guardOk ops.toList fr o then (match evOp P G cf o fr s with
      | some rs => bindO (fun r => evL P G cf ops.toList N l (putF fr o.dst r.1) r.2) rs
      | none => none) else evL P G cf ops.toList N l (putF fr o.dst und) s) else none) = some rs := h
    clear h
    cases hdo : dstOk N o with
    | false => rw [hdo] at hd; cases hd
    | true =>
      rw [hdo, cond_true] at hd
      have hdst := dstOk_spec hdo
      have hg := guardOk_eq hf ops o
      cases hb : guardOk ops.toList fr o with
      | false =>
        rw [hb] at hd hg
        rw [cond_false] at hd
        obtain ⟨f1, f2⟩ := hf.put (d := o.dst) (v := und) (x := undef) (fun t e => by rw [hN]; exact hdst t e) rfl
        unfold wpList
        rw [if_neg (by rw [hg]; simp)]
        exact evL_run hG hcf l R _ s _ w rs r f1 (by rw [f2]; exact hN) hd hQ
      | true =>
        rw [hb] at hd hg
        rw [cond_true] at hd
        split at hd
        · rename_i q hq
          have hdo := evOp_run hG hcf r hf hq
          have next : ∀ X w', Came P B W R w q X w' → wpList P ops Q l (a.put o.dst X) w' := by
            rintro X w' ⟨v, s', R', h1, h2, h3, h4, h5⟩
            obtain ⟨rs', b1, b2⟩ := bindO_spec hd _ h1
            obtain ⟨f1, f2⟩ := (hf.mono h2).put (d := o.dst) (v := v) (x := X) (fun t e => by rw [hN]; exact hdst t e) h3
            exact evL_run hG hcf l R' _ s' _ w' rs' h4 f1 (by rw [f2]; exact hN) b1 (fun fr2 s2 R2 a2 w2 m1 m2 m3 m4 m5 m6 => hQ fr2 s2 R2 a2 w2 (b2 _ m1) (Rf.le_trans h2 m2) m3 m4 m5 (h5.trans m6))
          unfold wpList
          rw [if_pos (by rw [hg])]
          refine .inl ?_
          unfold Oper.wp
          rcases hdo with ⟨v, w', hr, hk⟩ | ⟨w', hr, hk⟩ | ⟨f, args, w', hr, hc⟩
          · rw [hr]; exact next _ _ hk
          · rw [hr]; exact next _ _ hk
          · rw [hr]
            exact Calls.mono hc fun e w'' ⟨v, he, hk⟩ => by subst he; exact next _ _ hk
        · cases hd
theorem downG_spec : ∀ {l : List Oper} {k : Nat}, downG l k = true → ∀ j o, l[j]? = some o → maskE o < 2 ^ (k + j)
  | [], _, _, j, o, h => by simp at h
  | a :: l, k, hd, j, o, h => by
    have hd' : (bif Nat.ble (maskE a + 1) (2 ^ k) then downG l (k + 1) else false) = true := hd
    cases hb : Nat.ble (maskE a + 1) (2 ^ k) with
    | false => rw [hb] at hd'; cases hd'
    | true =>
      rw [hb, cond_true] at hd'
      cases j with
      | zero => simp at h; subst h; exact ble_le hb
      | succ j => have := downG_spec hd' j o (by simpa using h); rwa [show k + 1 + j = k + (j + 1) by omega] at this
theorem down_waits {ops : Array Oper} (h : downG ops.toList 0 = true) (j i : Nat) (hw : Waits ops j i) : i < j := by
  obtain ⟨o, ho, e, he, hb, rfl⟩ := hw
  have h1 := downG_spec h j o (by rw [Array.getElem?_toList]; exact ho)
  rw [Nat.zero_add] at h1
  have h2 := (maskE_bit o e.on).2 ⟨e, he, hb, rfl⟩
  refine Classical.byContradiction fun hn => ?_
  have h3 : (maskE o).testBit e.on = false := Nat.testBit_lt_two_pow (Nat.lt_of_lt_of_le h1 (Nat.pow_le_pow_right (by decide) (by omega)))
  rw [h2] at h3; cases h3
theorem noSelL_spec : ∀ {l : List Oper}, noSelL l = true → ∀ o ∈ l, ∀ cs b, o.op ≠ .select cs b
  | [], _, o, ho => by cases ho
  | a :: l, h, o, ho => by
    have h' : (match a.op with | .select .. => false | _ => noSelL l) = true := h
    split at h'
    · cases h'
    · rename_i hne
      rcases List.mem_cons.1 ho with rfl | ho
      · exact fun cs b e => hne cs b e
      · exact noSelL_spec h' o ho
theorem toX_mem : ∀ {l : List (Fr × S)} {fr : Fr} {s : S}, (fr, s) ∈ l → (Ex.n, fr, s) ∈ toX l
  | x :: l, fr, s, h => by
    rcases List.mem_cons.1 h with rfl | h
    · exact List.mem_cons_self
    · exact List.mem_cons_of_mem _ (toX_mem h)
/-- what holds behind code -/
def CEnd (P : Program) (B : Nat) (W : World) (R : Rf) (w : World) (N : Nat) (rs : List (Ex × Fr × S)) (Q : Exit → Act → World → Prop) : Prop :=
  ∀ e fr' s' R' a' w', (e, fr', s') ∈ rs → R.le R' → Rel P B W R' s'.h w' → FrR R' fr' a' → a'.tmps.size = N → Below B w w' → Q (exOf e) a' w'
theorem CEnd.of {P : Program} {B : Nat} {W : World} {R R' : Rf} {w w' : World} {N : Nat} {rs rs' : List (Ex × Fr × S)} {Q : Exit → Act → World → Prop} (h : CEnd P B W R w N rs Q) (hs : ∀ y ∈ rs', y ∈ rs) (hr : R.le R') (hb : Below B w w') : CEnd P B W R' w' N rs' Q :=
  fun e fr2 s2 R2 a2 w2 m1 m2 m3 m4 m5 m6 => h e fr2 s2 R2 a2 w2 (hs _ m1) (Rf.le_trans hr m2) m3 m4 m5 (hb.trans m6)
theorem evReg_run (hG : GOk B W G) (hcf : CfOk P B W cf) (hm : P.follows .mixedOrders = true) {ops : Array Oper} {N : Nat} {Q : Exit → Act → World → Prop} {id : Nat} {d : Bool} {R : Rf} {fr : Fr} {s : S} {a : Act} {w : World} {rs : List (Ex × Fr × S)}
    (r : Rel P B W R s.h w) (hf : FrR R fr a) (hN : a.tmps.size = N) (h : evReg P G cf N ops.toList d fr s = some rs) (hQ : CEnd P B W R w N rs Q) : (Code.region id ops d).wp P Q a w := by
  unfold evReg at h
  cases d with
  | false =>
    rw [cond_false] at h
    split at h
    · rename_i l hl
      simp only [Option.some.injEq] at h; subst h
      exact wp_region_list (evL_run hG hcf ops.toList R fr s a w l r hf hN hl fun fr2 s2 R2 a2 w2 m1 => hQ .n fr2 s2 R2 a2 w2 (toX_mem m1))
    · cases h
  | true =>
    rw [cond_true] at h
    split at h
    · rename_i l hl
      simp only [Option.some.injEq] at h; subst h
      cases hd : downG ops.toList 0 with
      | false => rw [hd] at hl; cases hl
      | true =>
        rw [hd, cond_true] at hl
        cases hs : noSelL ops.toList with
        | false => rw [hs] at hl; cases hl
        | true =>
          rw [hs, cond_true] at hl
          have hdown := fun j i => down_waits hd j i
          have hsel : Region.noSelect ops = true := by
            unfold Region.noSelect
            rw [Array.all_eq_true_iff_forall_mem]
            intro o ho
            have := noSelL_spec hs o (by simpa using ho)
            split
            · rename_i cs b e; exact absurd e (this cs b)
            · rfl
          let L0 := Array.replicate ops.size false
          have hv0 : VOf ops.size 0 L0 := ⟨by simp [L0], fun i hi => by simp [L0, hi]⟩
          have hsd := (evS_run hG hcf hdown (mkSc ops.toList (len ops.toList) 0) 0 L0 [] [] R fr s a w.drew l hv0 r.drew hf hN trivial hl (fun fr2 s2 R2 a2 w2 m1 m2 m3 m4 m5 m6 => hQ .n fr2 s2 R2 a2 w2 (toX_mem m1) m2 m3 m4 m5 ((Below.refl B w).drew.trans m6))).1 (mkSc_ok _ _ _) _ (Nat.le_refl _)
          have ht : Told ops L0 a [] L0 a := ⟨by simp, (fun p hp => by cases hp), (fun p hp => by cases hp), fun i => ⟨fun h => ⟨h, fun p hp => by cases hp⟩, fun h => h.1⟩, by simp [L0], by simp [L0], (fun p hp => by cases hp), rfl⟩
          have := Sd_any (Q := Q) hsel hdown 0 _ L0 a [] L0 a w.drew ht (fun p hp => by cases hp) hsd
          have hlen : (L0.toList.filter (!·)).length = ops.size := by simp [L0]
          rw [hlen, Nat.zero_add] at this
          exact wp_region_any hm this
    · cases h
theorem leave_mem {id : Nat} {x : Ex × Fr × S} : ∀ {l : List (Ex × Fr × S)}, x ∈ l → (match x with | (.x i, fr, s) => bif Nat.beq i id then (Ex.n, fr, s) else (.x i, fr, s) | x => x) ∈ leave id l
  | y :: l, h => by
    rcases List.mem_cons.1 h with rfl | h
    · exact List.mem_cons_self
    · exact List.mem_cons_of_mem _ (leave_mem h)
/-- code -/
def CodeOk (P : Program) (B : Nat) (W : World) (N : Nat) (ev : Code → Fr → S → Out) : Prop :=
  ∀ (c : Code) (R : Rf) (fr : Fr) (s : S) (a : Act) (w : World) (rs : List (Ex × Fr × S)) (Q : Exit → Act → World → Prop), Rel P B W R s.h w → FrR R fr a → a.tmps.size = N → ev c fr s = some rs → CEnd P B W R w N rs Q → c.wp P Q a w
theorem evLoop_run {N : Nat} {ev : Code → Fr → S → Out} (hev : CodeOk P B W N ev) {c : Code} {Q : Exit → Act → World → Prop} : ∀ (n : Nat) (R : Rf) (fr : Fr) (s : S) (a : Act) (w : World) (rs : List (Ex × Fr × S)), Rel P B W R s.h w → FrR R fr a → a.tmps.size = N → evLoop (ev c) n fr s = some rs → CEnd P B W R w N rs Q → Code.rounds P c Q n a w
  | 0, _, _, _, _, _, _, _, _, _, h, _ => by cases h
  | n + 1, R, fr, s, a, w, rs, r, hf, hN, h, hQ => by
    have hd : (match ev c fr s with
      | some rs => bindO (fun x => match x with
        | (.n, fr, s) => evLoop (ev c) n fr s
        | x => some [x]) rs
      | none => none) = some rs := h
    clear h
    rw [rounds_succ]
    split at hd
    · rename_i q hq
      refine hev c R fr s a w q _ r hf hN hq fun e fr2 s2 R2 a2 w2 m1 m2 m3 m4 m5 m6 => ?_
      obtain ⟨rs', b1, b2⟩ := bindO_spec hd _ m1
      cases e with
      | n => exact evLoop_run hev n R2 fr2 s2 a2 w2 rs' m3 m4 m5 b1 (hQ.of b2 m2 m6)
      | x i =>
        simp only [Option.some.injEq] at b1; subst b1
        exact hQ (.x i) fr2 s2 R2 a2 w2 (b2 _ List.mem_cons_self) m2 m3 m4 m5 m6
      | r =>
        simp only [Option.some.injEq] at b1; subst b1
        exact hQ .r fr2 s2 R2 a2 w2 (b2 _ List.mem_cons_self) m2 m3 m4 m5 m6
    · cases hd
theorem stepC_run (hG : GOk B W G) (hcf : CfOk P B W cf) (hm : P.follows .mixedOrders = true) {N fuel : Nat} {ih : Code → Fr → S → Out} (hih : CodeOk P B W N ih) : CodeOk P B W N (stepC P G cf fuel N ih) := by
  intro c R fr s a w rs Q r hf hN h hQ
  have self : ∀ e, (e, fr, s) ∈ rs → Q (exOf e) a w := fun e he => hQ e fr s R a w he R.le_refl r hf hN (Below.refl B w)
  unfold stepC at h
  split at h
  · simp only [Option.some.injEq] at h; subst h
    exact wp_skip (self .n List.mem_cons_self)
  · simp only [Option.some.injEq] at h; subst h
    exact wp_label (self .n List.mem_cons_self)
  · exact evReg_run hG hcf hm r hf hN h hQ
  · split at h
    · rename_i x y q hq
      refine wp_seq (hih _ R fr s a w q _ r hf hN hq fun e fr2 s2 R2 a2 w2 m1 m2 m3 m4 m5 m6 => ?_)
      obtain ⟨rs', b1, b2⟩ := bindO_spec h _ m1
      cases e with
      | n => exact hih _ R2 fr2 s2 a2 w2 rs' Q m3 m4 m5 b1 (hQ.of b2 m2 m6)
      | x i =>
        simp only [Option.some.injEq] at b1; subst b1
        exact hQ (.x i) fr2 s2 R2 a2 w2 (b2 _ List.mem_cons_self) m2 m3 m4 m5 m6
      | r =>
        simp only [Option.some.injEq] at b1; subst b1
        exact hQ .r fr2 s2 R2 a2 w2 (b2 _ List.mem_cons_self) m2 m3 m4 m5 m6
    · cases h
  · split at h
    · rename_i hx
      have h1 := evx_conc hf hx
      simp only [conc, Option.some.injEq] at h1
      exact wp_cond_true h1.symm (hih _ R fr s a w rs Q r hf hN h hQ)
    · rename_i hx
      have h1 := evx_conc hf hx
      simp only [conc, Option.some.injEq] at h1
      exact wp_cond_false h1.symm (hih _ R fr s a w rs Q r hf hN h hQ)
    · cases h
  · split at h
    · rename_i bid c _ q hq
      simp only [Option.some.injEq] at h; subst h
      refine wp_block (hih _ R fr s a w q _ r hf hN hq fun e fr2 s2 R2 a2 w2 m1 m2 m3 m4 m5 m6 => ?_)
      have hmem := leave_mem (id := bid) m1
      cases e with
      | n => exact hQ .n fr2 s2 R2 a2 w2 hmem m2 m3 m4 m5 m6
      | r => exact hQ .r fr2 s2 R2 a2 w2 hmem m2 m3 m4 m5 m6
      | x i =>
        show (if i = bid then Q .normal a2 w2 else Q (.exit i) a2 w2)
        simp only [beq_dec] at hmem
        by_cases hi : i = bid
        · rw [if_pos hi]
          simp only [hi, decide_true, cond_true] at hmem
          exact hQ .n fr2 s2 R2 a2 w2 hmem m2 m3 m4 m5 m6
        · rw [if_neg hi]
          simp only [hi, decide_false, cond_false] at hmem
          exact hQ (.x i) fr2 s2 R2 a2 w2 hmem m2 m3 m4 m5 m6
    · cases h
  · exact wp_loop_rounds fuel (evLoop_run hih fuel R fr s a w rs r hf hN h hQ)
  · refine wp_scope_straight (hih _ R fr s a w rs _ r hf hN h fun e fr2 s2 R2 a2 w2 m1 m2 m3 m4 m5 m6 => ?_)
    have := hQ e fr2 s2 R2 a2 w2 m1 m2 m3 m4 m5 m6
    cases e <;> exact this
  · simp only [Option.some.injEq] at h; subst h
    exact wp_exit (self (.x _) List.mem_cons_self)
  · simp only [Option.some.injEq] at h; subst h
    exact wp_ret (self .r List.mem_cons_self)
  · cases h
theorem evC_run (hG : GOk B W G) (hcf : CfOk P B W cf) (hm : P.follows .mixedOrders = true) {N fuel : Nat} : ∀ n, CodeOk P B W N (evC P G cf fuel N n)
  | 0 => fun c R fr s a w rs Q _ _ _ h => by cases h
  | n + 1 => stepC_run hG hcf hm (evC_run hG hcf hm n)
theorem resAll_spec {rs : List ResultVar} : ∀ {l : List (Ex × Fr × S)} {q : List (AV × S)}, resAll P rs l = some q → ∀ e fr s, (e, fr, s) ∈ l → (∀ i, e ≠ .x i) ∧ ∃ v, resF P fr s.h rs = some v ∧ (v, s) ∈ q
  | [], _, _, e, fr, s, h => by cases h
  | x :: l, q, h, e, fr, s, hm => by
    have hd : (match x.1 with
      | .x _ => none
      | _ => (match resF P x.2.1 x.2.2.h rs, resAll P rs l with
        | some v, some l => some ((v, x.2.2) :: l)
        | _, _ => none)) = some q := h
    clear h
    have main : (∀ i, x.1 ≠ .x i) ∧ ∃ v l', resF P x.2.1 x.2.2.h rs = some v ∧ resAll P rs l = some l' ∧ q = (v, x.2.2) :: l' := by
      split at hd
      · cases hd
      · rename_i hne
        split at hd
        · rename_i v l' h1 h2
          simp only [Option.some.injEq] at hd
          exact ⟨fun i e => hne i e, v, l', h1, h2, hd.symm⟩
        · cases hd
    obtain ⟨m1, v, l', m2, m3, rfl⟩ := main
    rcases List.mem_cons.1 hm with rfl | hm
    · exact ⟨m1, v, m2, List.mem_cons_self⟩
    · obtain ⟨a1, u, a2, a3⟩ := resAll_spec m3 e fr s hm
      exact ⟨a1, u, a2, List.mem_cons_of_mem _ a3⟩
variable {F : PT Func} {I : PT Intr}
theorem evF_run (hG : GOk B W G) (hm : P.follows .mixedOrders = true) (hF : ∀ g fn, F.get (psOf g) = some fn → P.funcs[g]? = some fn) (hI : ∀ g f, I.get (psOf g) = some f → IntrOk P B W g f) (fuel : Nat) : ∀ d, CfOk P B W (evF P G F I fuel d)
  | 0 => fun g vs s rs R w xs h => by cases h
  | d + 1 => by
    have ih := evF_run hG hm hF hI fuel d
    intro g vs s rs R w xs h r hx
    have hd : callF P G F I (fun N c fr s cf => evC P G cf fuel N fuel c fr s) (evF P G F I fuel d) g vs s = some rs := h
    clear h
    unfold callF at hd
    split at hd
    · rename_i q hq
      split at hq
      · rename_i f hf
        simp only [Option.some.injEq] at hd; subst hd
        exact hI g f hf vs s q.2 q.1 R w xs hq r hx
      · cases hq
    · split at hd
      · rename_i fn hfn
        have hfun := hF g fn hfn
        split at hd
        · rename_i b hb
          cases hname : (fn.name == "runtime.NumGoroutine") with
          | true => rw [hname] at hd; cases hd
          | false =>
            rw [hname, cond_false] at hd
            cases hle : Nat.ble (len vs) fn.ntmps with
            | false => rw [hle] at hd; cases hd
            | true =>
              rw [hle, cond_true] at hd
              have hle' := ble_le hle
              rw [len_eq] at hle'
              have hlx := concL_len hx
              split at hd
              · rename_i q hq
                constructor
                · have hn2 : ¬ fn.name = "runtime.NumGoroutine" := by simpa using hname
                  simp [callFunc, hfun, hn2, hb]
                · refine calls_of_wp hfun hb ?_
                  refine evC_run hG ih hm fuel b R _ s _ w q _ r (FrR.args hx _) (by simp; omega) hq fun e fr2 s2 R2 a2 w2 m1 m2 m3 m4 m5 m6 => ?_
                  obtain ⟨k1, v, k2, k3⟩ := resAll_spec hd e fr2 s2 m1
                  obtain ⟨X, x1, x2⟩ := resF_run m3 m4 k2
                  have fin : a2.defers = [] ∧ ∃ v, (results fn a2.tmps).run P w2 = .ok v w2 ∧ ∃ Y, Ending.returned v = .returned Y ∧ Came P B W R w rs Y w2 := ⟨m4.defers, X, x2, X, rfl, v, s2, R2, k3, m2, x1, m3, m6⟩
                  cases e with
                  | n => exact fin
                  | r => exact fin
                  | x i => exact absurd rfl (k1 i)
              · cases hd
        · cases hd
      · cases hd
/-- **what a closed call comes to** -/
theorem closed (w : World) (hG : GOk w.heap.size w G) (hm : P.follows .mixedOrders = true) (hF : ∀ g fn, F.get (psOf g) = some fn → P.funcs[g]? = some fn) (hI : ∀ g f, I.get (psOf g) = some f → IntrOk P w.heap.size w g f) (fuel d : Nat) {g : FuncId} {rs : List (AV × S)} (h : evF P G F I fuel d g [] ⟨.lf, .h⟩ = some rs) {T : AV → Prop} (hT : ∀ q ∈ rs, T q.1) :
    Calls P g #[] w fun e w' => ∃ v X R', e = .returned X ∧ T v ∧ conc R' v = some X ∧ Below w.heap.size w w' := by
  have hr : Rel P w.heap.size w (fun _ => none) (⟨.lf, .h⟩ : S).h w := ⟨(fun b o e => by rw [PT.get_lf] at e; cases e), (fun b b' o o' k x x' e => by rw [PT.get_lf] at e; cases e), fun b _ => rfl, (fun b k x e => by cases e), Nat.le_refl _, Below.refl _ w⟩
  have := (evF_run hG hm hF hI fuel d g [] _ rs _ w [] h hr rfl).2
  exact Calls.mono this fun e w' ⟨X, he, v, s', R', h1, h2, h3, h4, h5⟩ => ⟨v, X, R', he, hT _ h1, h3, h5⟩
end
end Go.Ev
