/- A machine that runs a Go text by reckoning: regions run. Of no program. -/
import Derived.Test.YtdanhginifohaaaGreatDoorEvP
namespace Go.Ev
open Go.RowKit

noncomputable def evOp (P : Program) (G : PT (List AV)) (cf : Cf) (o : Oper) (fr : Fr) (s : S) : Option (List (AV × S)) :=
  match pop P fr o.op with
  | some v => some [(v, s)]
  | none => match lop P G fr s.h o.op with
    | some v => some [(v, s)]
    | none => match mop P fr s o.op with
      | some r => some [r]
      | none => match o.op with
        | .call c => (match c.callee with
          | .value f => (match evx fr f, evxs fr c.args.toList with
            | some (.f g caps), some vs => cf g (app vs caps) s
            | some (.fm g v), some vs => cf g (v :: vs) s
            | _, _ => none)
          | _ => none)
        | .next it false => (match evx fr it with
          | some (.p b 0) => evNext b s
          | _ => none)
        | _ => none
/-- what an operation that is wanted does -/
def OpDoes (P : Program) (o : Oper) (A : Act) (w : World) (K : Value → World → Prop) : Prop :=
  (∃ v w', (execOp A.eval o).run P w = .ok (.value v) w' ∧ K v w') ∨ (∃ w', (execOp A.eval o).run P w = .ok .skip w' ∧ K undef w') ∨
  (∃ f args w', (execOp A.eval o).run P w = .ok (.enter f args) w' ∧ Calls P f args w' (fun e w'' => ∃ v, e = .returned v ∧ K v w''))
theorem OpDoes.mono {P : Program} {o : Oper} {A : Act} {w : World} {K K' : Value → World → Prop} (h : OpDoes P o A w K) (hk : ∀ v w, K v w → K' v w) : OpDoes P o A w K' := by
  rcases h with ⟨v, w', hr, h⟩ | ⟨w', hr, h⟩ | ⟨f, args, w', hr, hc⟩
  · exact .inl ⟨v, w', hr, hk _ _ h⟩
  · exact .inr (.inl ⟨w', hr, hk _ _ h⟩)
  · exact .inr (.inr ⟨f, args, w', hr, Calls.mono hc fun e w'' ⟨v, he, h⟩ => ⟨v, he, hk _ _ h⟩⟩)
section
variable {P : Program} {B : Nat} {W : World} {G : PT (List AV)} {cf : Cf}
theorem evOp_run (hG : GOk B W G) (hcf : CfOk P B W cf) {R : Rf} {s : S} {w : World} (r : Rel P B W R s.h w) {fr : Fr} {a : Act} (hf : FrR R fr a) {o : Oper} {rs : List (AV × S)} (h : evOp P G cf o fr s = some rs) :
    OpDoes P o a w (Came P B W R w rs) := by
  unfold evOp at h
  split at h
  · rename_i v hv
    simp only [Option.some.injEq] at h; subst h
    obtain ⟨x, h1, h2⟩ := pop_run hf hv w
    exact .inl ⟨x, w, h2, v, s, R, List.mem_cons_self, R.le_refl, h1, r, Below.refl B w⟩
  · split at h
    · rename_i v hv
      simp only [Option.some.injEq] at h; subst h
      obtain ⟨x, h1, h2⟩ := lop_run hG r hf hv
      exact .inl ⟨x, w, h2, v, s, R, List.mem_cons_self, R.le_refl, h1, r, Below.refl B w⟩
    · split at h
      · rename_i q hq
        obtain ⟨v, s'⟩ := q
        simp only [Option.some.injEq] at h; subst h
        obtain ⟨R', x, w', a1, a2, a3, a4, a5⟩ := mop_run r hf hq
        rcases a2 with a2 | ⟨a2, rfl⟩
        · exact .inl ⟨x, w', a2, v, s', R', List.mem_cons_self, a1, a3, a4, a5⟩
        · exact .inr (.inl ⟨w', a2, v, s', R', List.mem_cons_self, a1, a3, a4, a5⟩)
      · split at h
        · rename_i c hop
          split at h
          · rename_i f hc
            split at h
            · rename_i g caps vs hg hvs
              obtain ⟨xs, hxs, he⟩ := conc_f (evx_conc hf hg)
              have hall : concL R (app vs caps) = some (c.args.toList.map a.eval ++ xs) := by rw [app_eq]; exact concL_app (evxs_conc hf hvs) hxs
              obtain ⟨h1, h2⟩ := hcf g _ s rs R w _ h r hall
              refine .inr (.inr ⟨g, _, w, ?_, h2⟩)
              obtain ⟨dst, op, type, pos, after, guard⟩ := o
              dsimp only at hop
              subst hop
              have ea : (#[] ++ c.args.map a.eval) ++ xs.toArray = (c.args.toList.map a.eval ++ xs).toArray := by apply Array.ext'; simp
              simp only [execOp, resolve, hc, he, Deferred.ofValue, Sem.run_bind, Sem.run_pure, Result.andThen_ok, invoke, ea]
              exact h1
            · rename_i g v vs hg hvs
              obtain ⟨y, hy, he⟩ := conc_fm (evx_conc hf hg)
              have hall : concL R (v :: vs) = some (y :: c.args.toList.map a.eval) := concL_cons.2 ⟨y, _, hy, evxs_conc hf hvs, rfl⟩
              obtain ⟨h1, h2⟩ := hcf g _ s rs R w _ h r hall
              refine .inr (.inr ⟨g, _, w, ?_, h2⟩)
              obtain ⟨dst, op, type, pos, after, guard⟩ := o
              dsimp only at hop
              subst hop
              have ea : (#[y] ++ c.args.map a.eval) ++ #[] = (y :: c.args.toList.map a.eval).toArray := by apply Array.ext'; simp
              simp only [execOp, resolve, hc, he, Deferred.ofValue, Sem.run_bind, Sem.run_pure, Result.andThen_ok, invoke, ea]
              exact h1
            · cases h
          · cases h
        · rename_i it hop
          split at h
          · rename_i b hb
            obtain ⟨z, w', h1, h2⟩ := evNext_run (ty := o.type) r (evx_conc hf hb) h
            obtain ⟨dst, op, type, pos, after, guard⟩ := o
            dsimp only at hop h1
            subst hop
            exact .inl ⟨z, w', by simp only [execOp, Sem.run_bind, h1, Result.andThen_ok, Sem.run_pure], h2⟩
          · cases h
        · cases h
end

/-! ## what is looked at ahead -/
noncomputable def qv (P : Program) (G : PT (List AV)) (ops : List Oper) (fr : Fr) (s : S) (o : Oper) : Option AV :=
  bif guardOk ops fr o then (match pop P fr o.op with
    | some v => some v
    | none => lop P G fr s.h o.op) else some und
noncomputable def chk (P : Program) (G : PT (List AV)) (ops : List Oper) (mask : Nat) (fr : Fr) (s : S) (O : List (Nat × AV)) : Option (List (Nat × AV)) :=
  List.rec (some []) (fun p _ ih => match ih with
    | some O' => bif Nat.testBit mask p.1 then some O' else (match nth ops p.1 with
      | some o => (match qv P G ops fr s o with
        | some v => bif avEq 20 p.2 v then some (p :: O') else none
        | none => none)
      | none => none)
    | none => none) O
noncomputable def dstOk (N : Nat) (o : Oper) : Bool := match o.dst with
  | some t => Nat.ble (t + 1) N
  | none => true
theorem dstOk_spec {N : Nat} {o : Oper} (h : dstOk N o = true) : ∀ t, o.dst = some t → t < N := by
  intro t ht
  unfold dstOk at h
  rw [ht] at h
  exact ble_le h
abbrev ROut := Option (List (Fr × S))
noncomputable def evS (P : Program) (G : PT (List AV)) (cf : Cf) (ops : List Oper) (N : Nat) (sc : Sc) : List (Nat × AV) → Fr → S → ROut :=
  Sc.rec (fun _ fr s => some [(fr, s)])
    (fun i _ ih O fr s => match nth ops i with
      | some o => bif dstOk N o then (match qv P G ops fr s o with
        | some v => ih ((i, v) :: O) (putF fr o.dst v) s
        | none => none) else none
      | none => none)
    (fun i _ ih O fr s => match nth ops i with
      | some o => bif dstOk N o then (bif guardOk ops fr o then (match evOp P G cf o fr s with
          | some rs => bindO (fun r => match chk P G ops (maskE o) (putF fr o.dst r.1) r.2 O with
            | some O' => ih O' (putF fr o.dst r.1) r.2
            | none => none) rs
          | none => none) else (match chk P G ops (maskE o) (putF fr o.dst und) s O with
          | some O' => ih O' (putF fr o.dst und) s
          | none => none)) else none
      | none => none)
    (fun i _ _ ih ih2 O fr s => match (match nth ops i with
      | some o => bif dstOk N o then (bif guardOk ops fr o then (match evOp P G cf o fr s with
          | some rs => bindO (fun r => match chk P G ops (maskE o) (putF fr o.dst r.1) r.2 O with
            | some O' => ih O' (putF fr o.dst r.1) r.2
            | none => none) rs
          | none => none) else (match chk P G ops (maskE o) (putF fr o.dst und) s O with
          | some O' => ih O' (putF fr o.dst und) s
          | none => none)) else none
      | none => none : ROut), ih2 O fr s with
      | some a, some b => some (app a b)
      | _, _ => none)
    (fun _ _ _ => none) sc
noncomputable def one (P : Program) (G : PT (List AV)) (cf : Cf) (ops : List Oper) (N : Nat) (i : Nat) (k : List (Nat × AV) → Fr → S → ROut) (O : List (Nat × AV)) (fr : Fr) (s : S) : ROut :=
  match nth ops i with
  | some o => bif dstOk N o then (bif guardOk ops fr o then (match evOp P G cf o fr s with
      | some rs => bindO (fun r => match chk P G ops (maskE o) (putF fr o.dst r.1) r.2 O with
        | some O' => k O' (putF fr o.dst r.1) r.2
        | none => none) rs
      | none => none) else (match chk P G ops (maskE o) (putF fr o.dst und) s O with
      | some O' => k O' (putF fr o.dst und) s
      | none => none)) else none
  | none => none
section
variable {P : Program} {G : PT (List AV)} {cf : Cf} {ops : List Oper} {N i : Nat} {sc r : Sc} {O : List (Nat × AV)} {fr : Fr} {s : S}
theorem evS_done : evS P G cf ops N .done O fr s = some [(fr, s)] := rfl
theorem evS_q : evS P G cf ops N (.q i sc) O fr s = (match nth ops i with
      | some o => bif dstOk N o then (match qv P G ops fr s o with
        | some v => evS P G cf ops N sc ((i, v) :: O) (putF fr o.dst v) s
        | none => none) else none
      | none => none) := rfl
theorem evS_l : evS P G cf ops N (.l i sc) O fr s = one P G cf ops N i (evS P G cf ops N sc) O fr s := rfl
theorem evS_alt : evS P G cf ops N (.alt i sc r) O fr s = (match one P G cf ops N i (evS P G cf ops N sc) O fr s, evS P G cf ops N r O fr s with
      | some a, some b => some (app a b)
      | _, _ => none) := rfl
theorem evS_bad : evS P G cf ops N .bad O fr s = none := rfl
end
/-- what a schedule must be -/
def ScOk (ops : List Oper) : Sc → Nat → Option (List Nat) → Prop
  | .done, V, none => rdyG V ops 0 = []
  | .done, _, some _ => False
  | .q i s, V, none => i ∈ rdyG V ops 0 ∧ qok ops i = true ∧ ScOk ops s (V ||| 2 ^ i) none
  | .q _ _, _, some _ => False
  | .l i s, V, none => rdyG V ops 0 = [i] ∧ ScOk ops s (V ||| 2 ^ i) none
  | .l i s, V, some rs => rs = [i] ∧ ScOk ops s (V ||| 2 ^ i) none
  | .alt i s r, V, none => (∃ rs', rdyG V ops 0 = i :: rs' ∧ ScOk ops r V (some rs')) ∧ ScOk ops s (V ||| 2 ^ i) none
  | .alt i s r, V, some rs => (∃ rs', rs = i :: rs' ∧ ScOk ops r V (some rs')) ∧ ScOk ops s (V ||| 2 ^ i) none
  | .bad, _, _ => True
theorem findQ_spec {ops : List Oper} : ∀ {l : List Nat} {q : Nat}, findQ ops l = some q → q ∈ l ∧ qok ops q = true
  | [], _, h => by cases h
  | i :: l, q, h => by
    have hd : (bif qok ops i then some i else findQ ops l) = some q := h
    cases hq : qok ops i with
    | true => rw [hq, cond_true] at hd; simp only [Option.some.injEq] at hd; subst hd; exact ⟨List.mem_cons_self, hq⟩
    | false => rw [hq, cond_false] at hd; have := findQ_spec hd; exact ⟨List.mem_cons_of_mem _ this.1, this.2⟩
theorem altsOf_ok {ops : List Oper} {f : Nat → Sc} {V : Nat} (hf : ∀ j, ScOk ops (f j) (V ||| 2 ^ j) none) : ∀ (l : List Nat) (i : Nat), (rdyG V ops 0 = i :: l → ScOk ops (altsOf f i l) V none) ∧ ScOk ops (altsOf f i l) V (some (i :: l))
  | [], i => ⟨fun h => ⟨h, hf i⟩, rfl, hf i⟩
  | j :: l, i => by
    have ih := altsOf_ok hf l j
    exact ⟨fun h => ⟨⟨j :: l, h, ih.2⟩, hf i⟩, ⟨j :: l, rfl, ih.2⟩, hf i⟩
theorem mkSc_ok (ops : List Oper) : ∀ (n V : Nat), ScOk ops (mkSc ops n V) V none
  | 0, V => by
    have hd : mkSc ops 0 V = (match rdyG V ops 0 with | [] => .done | _ => .bad) := rfl
    rw [hd]
    split
    · rename_i h; exact h
    · trivial
  | n + 1, V => by
    have hd : mkSc ops (n + 1) V = (match rdyG V ops 0 with
      | [] => .done
      | i :: l => match findQ ops (i :: l) with
        | some q => .q q (mkSc ops n (V ||| 2 ^ q))
        | none => altsOf (fun j => mkSc ops n (V ||| 2 ^ j)) i l) := rfl
    rw [hd]
    split
    · rename_i h; exact h
    · rename_i i l h
      split
      · rename_i q hq
        have := findQ_spec hq
        exact ⟨by rw [h]; exact this.1, this.2, mkSc_ok ops n _⟩
      · exact (altsOf_ok (fun j => mkSc_ok ops n _) l i).1 h
def dep : Sc → Nat
  | .done => 0
  | .q _ s => dep s + 1
  | .l _ s => dep s + 1
  | .alt _ s r => max (dep s + 1) (dep r)
  | .bad => 0
/-- what was told, abstract and concrete -/
def TR (R : Rf) : List (Nat × AV) → List (Nat × Value) → Prop
  | [], [] => True
  | p :: O, q :: C => p.1 = q.1 ∧ conc R p.2 = some q.2 ∧ TR R O C
  | _, _ => False
theorem TR.mono {R R' : Rf} (hr : R.le R') : ∀ {O : List (Nat × AV)} {C : List (Nat × Value)}, TR R O C → TR R' O C
  | [], [], _ => trivial
  | _ :: _, _ :: _, ⟨h1, h2, h3⟩ => ⟨h1, conc_mono hr _ _ h2, TR.mono hr h3⟩
  | [], _ :: _, h => h.elim
  | _ :: _, [], h => h.elim
section
variable {P : Program} {B : Nat} {W : World} {G : PT (List AV)} {cf : Cf}
theorem qv_run (hG : GOk B W G) {R : Rf} {s : S} {w : World} (r : Rel P B W R s.h w) {fr : Fr} {a : Act} (hf : FrR R fr a) {ops : Array Oper} {i : Nat} {o : Oper} (ho : ops[i]? = some o) {v : AV} (h : qv P G ops.toList fr s o = some v) :
    ∃ x, conc R v = some x ∧ YAt P ops i x a w := by
  unfold qv at h
  have hg := guardOk_eq hf ops o
  cases hb : guardOk ops.toList fr o with
  | false =>
    rw [hb] at h hg
    simp only [cond_false, Option.some.injEq] at h; subst h
    exact ⟨undef, rfl, o, ho, .inr ⟨hg, rfl⟩⟩
  | true =>
    rw [hb] at h hg
    rw [cond_true] at h
    split at h
    · rename_i u hu
      simp only [Option.some.injEq] at h; subst h
      obtain ⟨x, h1, h2⟩ := pop_run hf hu w
      exact ⟨x, h1, o, ho, .inl ⟨hg, h2⟩⟩
    · obtain ⟨x, h1, h2⟩ := lop_run hG r hf h
      exact ⟨x, h1, o, ho, .inl ⟨hg, h2⟩⟩
theorem chk_run (hG : GOk B W G) {R : Rf} {s : S} {w : World} (r : Rel P B W R s.h w) {fr : Fr} {a : Act} (hf : FrR R fr a) {ops : Array Oper} {j : Nat} {oj : Oper} (hoj : ops[j]? = some oj) : ∀ {O O' : List (Nat × AV)} {C : List (Nat × Value)}, chk P G ops.toList (maskE oj) fr s O = some O' → TR R O C →
    ∃ C', TR R O' C' ∧ (∀ p ∈ C, p ∈ C' ∨ Waits ops j p.1) ∧ ∀ p ∈ C', YAt P ops p.1 p.2 a w
  | [], O', C, h, ht => by
    have : O' = [] := by
      have hd : (some [] : Option (List (Nat × AV))) = some O' := h
      simp only [Option.some.injEq] at hd; exact hd.symm
    subst this
    cases C with
    | nil => exact ⟨[], trivial, (fun p hp => by cases hp), (fun p hp => by cases hp)⟩
    | cons q C => exact ht.elim
  | p :: O, O', C, h, ht => by
    cases C with
    | nil => exact ht.elim
    | cons q C =>
      obtain ⟨t1, t2, t3⟩ := ht
      have hd : chk P G ops.toList (maskE oj) fr s (p :: O) = (match chk P G ops.toList (maskE oj) fr s O with
        | some O' => bif Nat.testBit (maskE oj) p.1 then some O' else (match nth ops.toList p.1 with
          | some o => (match qv P G ops.toList fr s o with
            | some v => bif avEq 20 p.2 v then some (p :: O') else none
            | none => none)
          | none => none)
        | none => none) := rfl
      rw [hd] at h
      split at h
      · rename_i O1 h1
        obtain ⟨C', c1, c2, c3⟩ := chk_run hG r hf hoj h1 t3
        cases hb : Nat.testBit (maskE oj) p.1 with
        | true =>
          rw [hb] at h
          simp only [cond_true, Option.some.injEq] at h; subst h
          refine ⟨C', c1, fun x hx => ?_, c3⟩
          rcases List.mem_cons.1 hx with rfl | hx
          · refine .inr ?_
            obtain ⟨e, he, hbi, hon⟩ := (maskE_bit oj p.1).1 hb
            exact ⟨oj, hoj, e, he, hbi, by rw [hon, t1]⟩
          · exact c2 x hx
        | false =>
          rw [hb, cond_false] at h
          split at h
          · rename_i o ho
            rw [nth_eq, Array.getElem?_toList] at ho
            split at h
            · rename_i v hv
              cases he : avEq 20 p.2 v with
              | false => rw [he] at h; cases h
              | true =>
                rw [he] at h
                simp only [cond_true, Option.some.injEq] at h; subst h
                have := avEq_eq 20 _ _ he
                subst this
                obtain ⟨x, x1, x2⟩ := qv_run hG r hf ho hv
                rw [t2] at x1
                simp only [Option.some.injEq] at x1; subst x1
                refine ⟨q :: C', ⟨t1, t2, c1⟩, fun y hy => ?_, fun y hy => ?_⟩
                · rcases List.mem_cons.1 hy with rfl | hy
                  · exact .inl List.mem_cons_self
                  · rcases c2 y hy with e | e
                    · exact .inl (List.mem_cons_of_mem _ e)
                    · exact .inr e
                · rcases List.mem_cons.1 hy with rfl | hy
                  · rw [← t1]; exact x2
                  · exact c3 y hy
            · cases h
          · cases h
      · cases h
/-- what holds behind a region -/
def REnd (P : Program) (B : Nat) (W : World) (R : Rf) (w : World) (N : Nat) (rs : List (Fr × S)) (Q : Exit → Act → World → Prop) : Prop :=
  ∀ fr' s' R' a' w', (fr', s') ∈ rs → R.le R' → Rel P B W R' s'.h w' → FrR R' fr' a' → a'.tmps.size = N → Below B w w' → Q .normal a' w'
theorem one_run (hG : GOk B W G) (hcf : CfOk P B W cf) {R : Rf} {s : S} {w : World} (r : Rel P B W R s.h w) {fr : Fr} {a : Act} (hf : FrR R fr a) {N : Nat} (hN : a.tmps.size = N) {ops : Array Oper} {i : Nat} {k : List (Nat × AV) → Fr → S → ROut} {O : List (Nat × AV)} {C : List (Nat × Value)} (ht : TR R O C) {rs : List (Fr × S)}
    (h : one P G cf ops.toList N i k O fr s = some rs) {K : Act → World → Prop}
    (hK : ∀ O' fr' s' rs' R' a' w' C', k O' fr' s' = some rs' → (∀ y ∈ rs', y ∈ rs) → R.le R' → Rel P B W R' s'.h w' → FrR R' fr' a' → a'.tmps.size = N → Below B w w' → TR R' O' C' → (∀ p ∈ C, p ∈ C' ∨ Waits ops i p.1) → (∀ p ∈ C', YAt P ops p.1 p.2 a' w') → K a' w') :
    Does P ops i a w K := by
  unfold one at h
  rw [nth_eq, Array.getElem?_toList] at h
  split at h
  · rename_i o ho
    cases hdo : dstOk N o with
    | false => rw [hdo] at h; cases h
    | true =>
      rw [hdo, cond_true] at h
      have hd := dstOk_spec hdo
      have hg := guardOk_eq hf ops o
      cases hb : guardOk ops.toList fr o with
      | false =>
        rw [hb] at h hg
        rw [cond_false] at h
        split at h
        · rename_i O' hO'
          obtain ⟨f1, f2⟩ := hf.put (d := o.dst) (v := und) (x := undef) (fun t e => by rw [hN]; exact hd t e) rfl
          obtain ⟨C', c1, c2, c3⟩ := chk_run hG r f1 ho hO' ht
          exact ⟨o, ho, .inl ⟨hg, hK O' _ s rs R _ w C' h (fun y hy => hy) R.le_refl r f1 (by rw [f2]; exact hN) (Below.refl B w) c1 c2 c3⟩⟩
        · cases h
      | true =>
        rw [hb] at h hg
        rw [cond_true] at h
        split at h
        · rename_i q hq
          have hdo := evOp_run hG hcf r hf hq
          have next : ∀ X w', Came P B W R w q X w' → K (a.put o.dst X) w' := by
            rintro X w' ⟨v, s', R', h1, h2, h3, h4, h5⟩
            obtain ⟨rs', b1, b2⟩ := bindO_spec h _ h1
            dsimp only at b1
            split at b1
            · rename_i O' hO'
              obtain ⟨f1, f2⟩ := (hf.mono h2).put (d := o.dst) (v := v) (x := X) (fun t e => by rw [hN]; exact hd t e) h3
              obtain ⟨C', c1, c2, c3⟩ := chk_run hG h4 f1 ho hO' (ht.mono h2)
              exact hK O' _ s' rs' R' _ w' C' b1 b2 h2 h4 f1 (by rw [f2]; exact hN) h5 c1 c2 c3
            · cases b1
          refine ⟨o, ho, .inr ⟨hg, ?_⟩⟩
          rcases hdo with ⟨v, w', hr, hk⟩ | ⟨w', hr, hk⟩ | ⟨f, args, w', hr, hc⟩
          · exact .inl ⟨v, w', hr, next _ _ hk⟩
          · exact .inr (.inl ⟨w', hr, next _ _ hk⟩)
          · exact .inr (.inr ⟨f, args, w', hr, Calls.mono hc fun e w'' ⟨v, he, hk⟩ => ⟨v, he, next _ _ hk⟩⟩)
        · cases h
  · cases h
theorem evS_run (hG : GOk B W G) (hcf : CfOk P B W cf) {ops : Array Oper} {N : Nat} {Q : Exit → Act → World → Prop} (hdown : ∀ j i, Waits ops j i → i < j) : ∀ (sc : Sc) (V : Nat) (L : Array Bool) (O : List (Nat × AV)) (C : List (Nat × Value)) (R : Rf) (fr : Fr) (s : S) (a : Act) (w : World) (rs : List (Fr × S)),
    VOf ops.size V L → Rel P B W R s.h w → FrR R fr a → a.tmps.size = N → TR R O C → evS P G cf ops.toList N sc O fr s = some rs → REnd P B W R w N rs Q →
    (ScOk ops.toList sc V none → ∀ n, dep sc ≤ n → Sd P ops Q n L C a w) ∧
    (∀ l, ScOk ops.toList sc V (some l) → ∀ n, dep sc ≤ n + 1 → ∀ j ∈ l, Does P ops j a w fun A' w' => ∃ O', (∀ p ∈ C, p ∈ O' ∨ Waits ops j p.1) ∧ (∀ p ∈ O', YAt P ops p.1 p.2 A' w') ∧ Sd P ops Q n (setL L j) O' A' w') := by
  intro sc
  have hrd : ∀ {V : Nat} {L : Array Bool} (_ : VOf ops.size V L) {l : List Nat}, rdyG V ops.toList 0 = l → ∀ j, j ∈ Region.ready .any ops L ↔ j ∈ l := fun hv l e j => by rw [← e]; exact (rdy_iff hv hdown j).symm
  have hin : ∀ {V : Nat} {L : Array Bool} (_ : VOf ops.size V L) {j : Nat}, j ∈ rdyG V ops.toList 0 → j < ops.size := fun hv j h => by
    obtain ⟨_, _, o, ho, _⟩ := (rdyG_mem _ _ _ _).1 h
    simp only [Nat.sub_zero, Array.getElem?_toList] at ho
    exact (Array.getElem?_eq_some_iff.1 ho).1
  induction sc with
  | done =>
    intro V L O C R fr s a w rs hv r hf hN ht h hQ
    rw [evS_done] at h
    simp only [Option.some.injEq] at h; subst h
    have hq : Q .normal a w := hQ fr s R a w List.mem_cons_self R.le_refl r hf hN (Below.refl B w)
    refine ⟨fun hs n _ => ?_, fun l hs => hs.elim⟩
    have hre : Region.ready .any ops L = [] := by
      cases hr : Region.ready .any ops L with
      | nil => rfl
      | cons x xs =>
        have := (hrd hv hs x).1 (by rw [hr]; exact List.mem_cons_self)
        cases this
    cases n with
    | zero => exact ⟨hre, hq⟩
    | succ n => exact .inl ⟨hre, hq⟩
  | q i sc ih =>
    intro V L O C R fr s a w rs hv r hf hN ht h hQ
    rw [evS_q] at h
    refine ⟨fun hs n hn => ?_, fun l hs => hs.elim⟩
    obtain ⟨h1, h2, h3⟩ := hs
    rw [nth_eq, Array.getElem?_toList] at h
    split at h
    · rename_i o ho
      cases hdo : dstOk N o with
      | false => rw [hdo] at h; cases h
      | true =>
        rw [hdo, cond_true] at h
        have hd := dstOk_spec hdo
        split at h
        · rename_i v hqv
          obtain ⟨x, hx, hy⟩ := qv_run hG r hf ho hqv
          obtain ⟨f1, f2⟩ := hf.put (d := o.dst) (v := v) (x := x) (fun t e => by rw [hN]; exact hd t e) hx
          cases n with
          | zero => simp [dep] at hn
          | succ n =>
            have hi := hin hv h1
            have := (ih (V ||| 2 ^ i) (setL L i) ((i, v) :: O) ((i, x) :: C) R _ s _ w rs (hv.set hi) r f1 (by rw [f2]; exact hN) ⟨rfl, hx, ht⟩ h hQ).1 h3 n (by simp [dep] at hn; omega)
            have hdst : dstOf ops i = o.dst := by simp [dstOf, ho]
            exact .inr (.inl ⟨i, x, (rdy_iff hv hdown i).1 h1, qok_spec h2, hy, by rw [hdst]; exact this⟩)
        · cases h
    · cases h
  | l i sc ih =>
    intro V L O C R fr s a w rs hv r hf hN ht h hQ
    rw [evS_l] at h
    have body : ScOk ops.toList sc (V ||| 2 ^ i) none → i < ops.size → ∀ n, dep sc ≤ n → Does P ops i a w fun A' w' => ∃ O', (∀ p ∈ C, p ∈ O' ∨ Waits ops i p.1) ∧ (∀ p ∈ O', YAt P ops p.1 p.2 A' w') ∧ Sd P ops Q n (setL L i) O' A' w' := by
      intro hs hi n hn
      refine one_run hG hcf r hf hN ht h fun O' fr' s' rs' R' a' w' C' k1 k2 k3 k4 k5 k6 k7 k8 k9 k10 => ⟨C', k9, k10, ?_⟩
      exact (ih (V ||| 2 ^ i) (setL L i) O' C' R' fr' s' a' w' rs' (hv.set hi) k4 k5 k6 k8 k1 (fun fr2 s2 R2 a2 w2 m1 m2 m3 m4 m5 m6 => hQ fr2 s2 R2 a2 w2 (k2 _ m1) (Rf.le_trans k3 m2) m3 m4 m5 (k7.trans m6))).1 hs n hn
    constructor
    · rintro ⟨h1, h2⟩ n hn
      cases n with
      | zero => simp [dep] at hn
      | succ n =>
        refine .inr (.inr ⟨?_, fun j hj => ?_⟩)
        · intro e
          have := (hrd hv h1 i).2 List.mem_cons_self
          rw [e] at this; cases this
        · have := (hrd hv h1 j).1 hj
          have hji : j = i := by simpa using this
          subst hji
          exact body h2 (hin hv (by rw [h1]; exact List.mem_cons_self)) n (by simp [dep] at hn; omega)
    · rintro l ⟨h1, h2⟩ n hn j hj
      subst h1
      have hji : j = i := by simpa using hj
      subst hji
      by_cases hi : j < ops.size
      · exact body h2 hi n (by simp [dep] at hn; omega)
      · exfalso
        unfold one at h
        rw [nth_eq, Array.getElem?_toList, Array.getElem?_eq_none (by omega)] at h
        cases h
  | alt i sc rr ih ih2 =>
    intro V L O C R fr s a w rs hv r hf hN ht h hQ
    rw [evS_alt] at h
    split at h
    case h_2 => cases h
    rename_i ra rb ha hb
    simp only [Option.some.injEq, app_eq] at h
    have hQa : REnd P B W R w N ra Q := fun fr2 s2 R2 a2 w2 m1 => hQ fr2 s2 R2 a2 w2 (by rw [← h]; exact List.mem_append_left _ m1)
    have hQb : REnd P B W R w N rb Q := fun fr2 s2 R2 a2 w2 m1 => hQ fr2 s2 R2 a2 w2 (by rw [← h]; exact List.mem_append_right _ m1)
    have body : ScOk ops.toList sc (V ||| 2 ^ i) none → ∀ n, dep sc ≤ n → Does P ops i a w fun A' w' => ∃ O', (∀ p ∈ C, p ∈ O' ∨ Waits ops i p.1) ∧ (∀ p ∈ O', YAt P ops p.1 p.2 A' w') ∧ Sd P ops Q n (setL L i) O' A' w' := by
      intro hs n hn
      by_cases hi : i < ops.size
      · refine one_run hG hcf r hf hN ht ha fun O' fr' s' rs' R' a' w' C' k1 k2 k3 k4 k5 k6 k7 k8 k9 k10 => ⟨C', k9, k10, ?_⟩
        exact (ih (V ||| 2 ^ i) (setL L i) O' C' R' fr' s' a' w' rs' (hv.set hi) k4 k5 k6 k8 k1 (fun fr2 s2 R2 a2 w2 m1 m2 m3 m4 m5 m6 => hQa fr2 s2 R2 a2 w2 (k2 _ m1) (Rf.le_trans k3 m2) m3 m4 m5 (k7.trans m6))).1 hs n hn
      · exfalso
        unfold one at ha
        rw [nth_eq, Array.getElem?_toList, Array.getElem?_eq_none (by omega)] at ha
        cases ha
    have all : ∀ rs', ScOk ops.toList rr V (some rs') → ScOk ops.toList sc (V ||| 2 ^ i) none → ∀ n, dep (.alt i sc rr) ≤ n + 1 → ∀ j ∈ i :: rs', Does P ops j a w fun A' w' => ∃ O', (∀ p ∈ C, p ∈ O' ∨ Waits ops j p.1) ∧ (∀ p ∈ O', YAt P ops p.1 p.2 A' w') ∧ Sd P ops Q n (setL L j) O' A' w' := by
      intro rs' h1 h2 n hn j hj
      have hn' : dep sc ≤ n ∧ dep rr ≤ n + 1 := by simp only [dep] at hn; omega
      rcases List.mem_cons.1 hj with rfl | hj
      · exact body h2 n hn'.1
      · exact (ih2 V L O C R fr s a w rb hv r hf hN ht hb hQb).2 rs' h1 n hn'.2 j hj
    constructor
    · rintro ⟨⟨rs', h1, h2⟩, h3⟩ n hn
      cases n with
      | zero => simp only [dep] at hn; omega
      | succ n =>
        refine .inr (.inr ⟨?_, fun j hj => ?_⟩)
        · intro e
          have := (hrd hv h1 i).2 List.mem_cons_self
          rw [e] at this; cases this
        · exact all rs' h2 h3 n hn j ((hrd hv h1 j).1 hj)
    · rintro l ⟨⟨rs', h1, h2⟩, h3⟩ n hn j hj
      subst h1
      exact all rs' h2 h3 n hn j hj
  | bad =>
    intro V L O C R fr s a w rs hv r hf hN ht h hQ
    rw [evS_bad] at h; cases h
end
end Go.Ev
