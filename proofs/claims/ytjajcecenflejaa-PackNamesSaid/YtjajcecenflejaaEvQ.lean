/- A machine that runs a Go text by reckoning: what operations do, in whatever frame is alike. Of no program. -/
import Derived.Test.YtjajcecenflejaaEvX
namespace Go.Ev
open Go.RowKit

/-- what an operation that is wanted does -/
def OpDoes (P : Program) (o : Oper) (A : Act) (w : World) (K : Value → World → Prop) : Prop :=
  (∃ v w', (execOp A.eval o).run P w = .ok (.value v) w' ∧ K v w') ∨ (∃ w', (execOp A.eval o).run P w = .ok .skip w' ∧ K undef w') ∨
  (∃ f args w', (execOp A.eval o).run P w = .ok (.enter f args) w' ∧ Calls P f args w' (fun e w'' => ∃ v, e = .returned v ∧ K v w'')) ∨
  (∃ l f tmps as bd w', (execOp A.eval o).run P w = .ok (.round l f tmps as bd) w' ∧ RoundIn Fence.wide 0 P l f tmps as bd w' (fun e w'' => ∃ v, e = .returned v ∧ K v w''))
theorem OpDoes.mono {P : Program} {o : Oper} {A : Act} {w : World} {K K' : Value → World → Prop} (h : OpDoes P o A w K) (hk : ∀ v w, K v w → K' v w) : OpDoes P o A w K' := by
  rcases h with ⟨v, w', hr, h⟩ | ⟨w', hr, h⟩ | ⟨f, args, w', hr, hc⟩ | ⟨l, f, tmps, as, bd, w', hr, hc⟩
  · exact .inl ⟨v, w', hr, hk _ _ h⟩
  · exact .inr (.inl ⟨w', hr, hk _ _ h⟩)
  · exact .inr (.inr (.inl ⟨f, args, w', hr, Calls.mono hc fun e w'' ⟨v, he, h⟩ => ⟨v, he, hk _ _ h⟩⟩))
  · exact .inr (.inr (.inr ⟨l, f, tmps, as, bd, w', hr, RoundIn.mono hc fun e w'' ⟨v, he, h⟩ => ⟨v, he, hk _ _ h⟩⟩))
/-- what came -/
def CameK (P : Program) (B : Nat → Prop) (W : World) (D : Dn) (R : Rf) (w : World) (K : AV → S → Prop) (X : Value) (w' : World) : Prop :=
  ∃ v s' R', K v s' ∧ R.le R' ∧ conc R' v = some X ∧ Rel P B W D R' s'.h w' ∧ Kept B w w'
/-- what comes of an operation, in a frame that is alike to it -/
def OpOk (P : Program) (B : Nat → Prop) (W : World) (o : Oper) (fr : Fr) (s : S) (K : AV → S → Prop) : Prop :=
  ∀ (fr' : Fr) (D : Dn) (R : Rf) (w : World) (a : Act), Like fr' fr o.op.operands.toList → Rel P B W D R s.h w → FrR R fr' a → OpDoes P o a w (CameK P B W D R w K)
/-- what comes of a call -/
def CallOk (P : Program) (B : Nat → Prop) (W : World) (g : FuncId) (vs : List AV) (s : S) (K : AV → S → Prop) : Prop :=
  ∀ (D : Dn) (R : Rf) (w : World) (xs : List Value), Rel P B W D R s.h w → concL R vs = some xs →
    (callFunc g xs.toArray).run P w = .ok (.enter g xs.toArray) w ∧ Calls P g xs.toArray w fun e w' => ∃ X, e = .returned X ∧ CameK P B W D R w K X w'
section
variable {P : Program} {B : Nat → Prop} {W : World} {G : PT (List AV)} {o : Oper} {fr : Fr} {s : S} {K : AV → S → Prop}
theorem OpOk.mono {K' : AV → S → Prop} (h : OpOk P B W o fr s K) (hk : ∀ v s, K v s → K' v s) : OpOk P B W o fr s K' :=
  fun fr' D R w a h1 h2 h3 => (h fr' D R w a h1 h2 h3).mono fun _ _ ⟨v, s', R', a1, a2⟩ => ⟨v, s', R', hk _ _ a1, a2⟩
theorem opOk_pop {v : AV} (h : pop P fr o.op = some v) (hk : K v s) : OpOk P B W o fr s K := by
  intro fr' D R w a hl r hf
  rw [← pop_like hl] at h
  obtain ⟨x, h1, h2⟩ := pop_run hf h w
  exact .inl ⟨x, w, h2, v, s, R, hk, R.le_refl, h1, r, Kept.refl B w⟩
theorem opOk_lop (hG : GOk B W G) {v : AV} (h : lop P G fr s.h o.op = some v) (hk : K v s) : OpOk P B W o fr s K := by
  intro fr' D R w a hl r hf
  rw [← lop_like hl] at h
  obtain ⟨x, h1, h2⟩ := lop_run hG r hf h
  exact .inl ⟨x, w, h2, v, s, R, hk, R.le_refl, h1, r, Kept.refl B w⟩
theorem opOk_mop {v : AV} {s' : S} (h : mop P fr s o.op = some (v, s')) (hk : K v s') : OpOk P B W o fr s K := by
  intro fr' D R w a hl r hf
  rw [← mop_like hl] at h
  obtain ⟨R', x, w', a1, a2, a3, a4, a5⟩ := mop_run r hf h
  rcases a2 with a2 | ⟨a2, rfl⟩
  · exact .inl ⟨x, w', a2, v, s', R', hk, a1, a3, a4, a5⟩
  · exact .inr (.inl ⟨w', a2, v, s', R', hk, a1, a3, a4, a5⟩)
theorem opOk_next {it : Operand} (hop : o.op = .next it false) {b : Ps} (hb : evx fr it = some (.p b 0)) {rs : List (AV × S)} (h : evNext b s = some rs) (hk : ∀ q ∈ rs, K q.1 q.2) : OpOk P B W o fr s K := by
  intro fr' D R w a hl r hf
  have hb' : evx fr' it = some (.p b 0) := by rw [hl it (by rw [hop]; simp [Op.operands])]; exact hb
  obtain ⟨z, w', h1, h2⟩ := evNext_run (ty := o.type) r (evx_conc hf hb') h
  obtain ⟨dst, op, type, pos, after, guard⟩ := o
  dsimp only at hop h1
  subst hop
  obtain ⟨v, s', R', q1, q2, q3, q4, q5⟩ := h2
  exact .inl ⟨z, w', by simp only [execOp, Sem.run_bind, h1, Result.andThen_ok, Sem.run_pure], v, s', R', hk _ q1, q2, q3, q4, q5⟩
/-- a method expression, promoted through one embedded pointer: the function, and where the pointer stands -/
noncomputable def moOf (P : Program) (t : TypeId) (m : String) : Option (FuncId × Nat) := match P.info? t with
  | some i => (match i.methods.find? (·.name == m) with
    | some d => (match d.path.toList, d.func with
      | [s], some (g, true) => (match s.deref, P.underlying s.struct with
        | true, some (.struct fs) => (match fs[s.index]? with
          | some f => (match P.underlying f.type, P.info? f.type with
            | some (.pointer _), some j => bif Nat.beq j.size 0 then none else some (g, f.offset)
            | _, _ => none)
          | none => none)
        | _, _ => none)
      | _, _ => none)
    | none => none)
  | none => none
theorem mo_run {P : Program} {t e : TypeId} {m : String} {g : FuncId} {off : Nat} (ht : P.underlying t = some (.pointer e)) (h : moOf P t m = some (g, off)) (w : World) (k o : Nat) (y : Value) (hc : w.cell? ⟨k, o + off, none⟩ = some y) (args : Array Value) :
    (invoke (.fn (.methodOf t m) #[]) (#[.pointer (some ⟨k, o, none⟩)] ++ args)).run P w = (callFunc g (#[y] ++ args)).run P w := by
  unfold moOf at h
  split at h
  · rename_i i hi
    split at h
    · rename_i d hd
      split at h
      · rename_i s g hp hf
        split at h
        · rename_i fs hdr hs
          split at h
          · rename_i f hfs
            split at h
            · rename_i e' j hu hj
              cases hz : Nat.beq j.size 0 with
              | true => rw [hz] at h; cases h
              | false =>
                rw [hz, cond_false] at h
                simp only [Option.some.injEq, Prod.mk.injEq] at h
                obtain ⟨rfl, rfl⟩ := h
                have hz' : j.size ≠ 0 := fun e => by rw [e] at hz; cases hz
                have hld : w.cell? ⟨k, o + f.offset, none⟩ = some y := hc
                obtain ⟨pn, psg, pth, pfn⟩ := d
                obtain ⟨st, ix, dr⟩ := s
                dsimp only at hp hf hdr hfs hs
                subst hf hdr
                have hm : i.methods.find? (fun x => x.name == m) = some ⟨pn, psg, pth, some (g, true)⟩ := hd
                have hmeth : (method ((P.types.size + 99) + 1) t (.pointer (some ⟨k, o, none⟩)) m).run P w = .ok (g, y) w := by
                  have u1 : (underlying st).run P w = .ok (.struct fs) w := run_underlying hs w
                  have u2 : (underlying f.type).run P w = .ok (.pointer e') w := run_underlying hu w
                  have u3 : (typeInfo t).run P w = .ok i w := by simp [go_sem, typeInfo, hi]
                  have u4 : (sizeOf f.type).run P w = .ok j.size w := by simp [go_sem, sizeOf, typeInfo, hj]
                  have u5 : (isAgg f.type).run P w = .ok false w := by simp only [isAgg, Sem.run_bind, u2, Result.andThen_ok, Sem.run_pure]
                  have u7 : (Addr.add ⟨k, o, none⟩ f.offset) = ⟨k, o + f.offset, none⟩ := Addr.add_lit ..
                  have u8 : (fieldPlace ⟨k, o, none⟩ f).run P w = .ok ⟨k, o + f.offset, none⟩ w := by simp only [fieldPlace, Sem.run_bind, u4, Result.andThen_ok, if_neg hz', Sem.run_pure, u7]
                  have u9 : (follow [⟨st, ix, true⟩] t (.val (.pointer (some ⟨k, o, none⟩)))).run P w = .ok (f.type, .var ⟨k, o + f.offset, none⟩) w := by
                    simp only [follow, Sem.run_bind, u1, Result.andThen_ok, hfs, if_true, Place.get, Sem.run_pure, asAddr, u8]
                  rw [method]
                  simp [u3, Result.andThen_ok, hm, hp, u9, receiverAt, u2, Place.get, loadVar, u5, hld]
                have hmeth' : (method (P.types.size + 100) t (.pointer (some ⟨k, o, none⟩)) m).run P w = .ok (g, y) w := hmeth
                have h0 : (#[Value.pointer (some ⟨k, o, none⟩)] ++ args)[0]? = some (.pointer (some ⟨k, o, none⟩)) := by rw [Array.getElem?_append_left (by simp)]; rfl
                have h1 : (#[Value.pointer (some ⟨k, o, none⟩)] ++ args).extract 1 (#[Value.pointer (some ⟨k, o, none⟩)] ++ args).size = args := by
                  apply Array.ext'
                  simp
                have h2 : (underlying t).run P w = .ok (.pointer e) w := run_underlying ht w
                have h3 : (program).run P w = .ok P w := by simp [go_sem]
                simp only [invoke, h0, h1, Sem.run_bind, callMethod, Made.depth, h2, Result.andThen_ok, h3, hmeth']
            · cases h
          · cases h
        · cases h
      · cases h
    · cases h
  · cases h
theorem opOk_mo {c : Call} (hop : o.op = .call c) {f : Operand} (hc : c.callee = .value f) {t e : TypeId} {m : String} (hfv : evx fr f = some (.mo t m)) {b : Ps} {q : Nat} {vs : List AV} (hvs : evxs fr c.args.toList = some (.p b q :: vs))
    {g : FuncId} {off : Nat} (ht : P.underlying t = some (.pointer e)) (hm : moOf P t m = some (g, off)) {v : AV} (hv : ld1 s.h b (q + off) = some v) (h : CallOk P B W g (v :: vs) s K) : OpOk P B W o fr s K := by
  intro fr' D R w a hl r hf
  have hfv' : evx fr' f = some (.mo t m) := by rw [hl f (by rw [hop]; simp [Op.operands, Call.operands, hc])]; exact hfv
  have hvs' : evxs fr' c.args.toList = some (.p b q :: vs) := by
    rw [evxs_like fun x hx => hl x (by rw [hop]; simp [Op.operands, Call.operands]; exact .inr (by simpa using hx))]; exact hvs
  have he : a.eval f = .func (.methodOf t m) #[] #[] := by
    have := evx_conc hf hfv'
    simp only [conc, Option.some.injEq] at this
    exact this.symm
  obtain ⟨x0, xs, z1, z2, hz⟩ := concL_cons.1 (evxs_conc hf hvs')
  obtain ⟨k, x, hk, rfl⟩ := conc_p z1
  obtain ⟨k', x', y, h1, h2, h3⟩ := ld1_run r hv hk
  rw [hk] at h1
  simp only [Option.some.injEq, Prod.mk.injEq] at h1
  obtain ⟨rfl, rfl⟩ := h1
  obtain ⟨p1, p2⟩ := h D R w _ r (concL_cons.2 ⟨y, xs, h2, z2, rfl⟩)
  refine .inr (.inr (.inl ⟨g, _, w, ?_, p2⟩))
  obtain ⟨dst, op, type, pos, after, guard⟩ := o
  dsimp only at hop
  subst hop
  have ea : #[] ++ c.args.map a.eval = #[.pointer (some ⟨k, q, none⟩)] ++ xs.toArray := by apply Array.ext'; simpa using hz
  simp only [execOp, resolve, hc, he, Deferred.ofValue, Sem.run_bind, Sem.run_pure, Result.andThen_ok, ea]
  rw [mo_run ht hm w k q y h3]
  have eb : #[y] ++ xs.toArray = (y :: xs).toArray := by apply Array.ext'; simp
  rw [eb]
  exact p1
theorem opOk_call {c : Call} (hop : o.op = .call c) {f : Operand} (hc : c.callee = .value f) {fv : AV} (hfv : evx fr f = some fv) {vs : List AV} (hvs : evxs fr c.args.toList = some vs)
    {g : FuncId} {all : List AV} (hall : (∃ caps, fv = .f g caps ∧ all = app vs caps) ∨ (∃ v, fv = .fm g v ∧ all = v :: vs)) (h : CallOk P B W g all s K) : OpOk P B W o fr s K := by
  intro fr' D R w a hl r hf
  have hfv' : evx fr' f = some fv := by rw [hl f (by rw [hop]; simp [Op.operands, Call.operands, hc])]; exact hfv
  have hvs' : evxs fr' c.args.toList = some vs := by
    rw [evxs_like fun x hx => hl x (by rw [hop]; simp [Op.operands, Call.operands]; exact .inr (by simpa using hx))]; exact hvs
  rcases hall with ⟨caps, rfl, rfl⟩ | ⟨v, rfl, rfl⟩
  · obtain ⟨xs, hxs, he⟩ := conc_f (evx_conc hf hfv')
    have hall : concL R (app vs caps) = some (c.args.toList.map a.eval ++ xs) := by rw [app_eq]; exact concL_app (evxs_conc hf hvs') hxs
    obtain ⟨h1, h2⟩ := h D R w _ r hall
    refine .inr (.inr (.inl ⟨g, _, w, ?_, h2⟩))
    obtain ⟨dst, op, type, pos, after, guard⟩ := o
    dsimp only at hop
    subst hop
    have ea : (#[] ++ c.args.map a.eval) ++ xs.toArray = (c.args.toList.map a.eval ++ xs).toArray := by apply Array.ext'; simp
    simp only [execOp, resolve, hc, he, Deferred.ofValue, Sem.run_bind, Sem.run_pure, Result.andThen_ok, invoke, ea]
    exact h1
  · obtain ⟨y, hy, he⟩ := conc_fm (evx_conc hf hfv')
    have hall : concL R (v :: vs) = some (y :: c.args.toList.map a.eval) := concL_cons.2 ⟨y, _, hy, evxs_conc hf hvs', rfl⟩
    obtain ⟨h1, h2⟩ := h D R w _ r hall
    refine .inr (.inr (.inl ⟨g, _, w, ?_, h2⟩))
    obtain ⟨dst, op, type, pos, after, guard⟩ := o
    dsimp only at hop
    subst hop
    have ea : (#[y] ++ c.args.map a.eval) ++ #[] = (y :: c.args.toList.map a.eval).toArray := by apply Array.ext'; simp
    simp only [execOp, resolve, hc, he, Deferred.ofValue, Sem.run_bind, Sem.run_pure, Result.andThen_ok, invoke, ea]
    exact h1
/-- what comes of a call of yield of the loop of block b -/
def RoundOk (P : Program) (B : Nat → Prop) (W : World) (b : Ps) (vs : List AV) (s : S) (K : AV → S → Prop) : Prop :=
  ∀ (D : Dn) (R : Rf) (w : World) (xs : List Value) (k e : Nat), Rel P B W D R s.h w → concL R vs = some xs → R b = some (k, e) →
    ∃ f tmps as bd, (Instr.yield k xs.toArray).run P w = .ok (.round k f tmps as bd) w ∧ RoundIn Fence.wide 0 P k f tmps as bd w fun e w' => ∃ X, e = .returned X ∧ CameK P B W D R w K X w'
theorem opOk_yield {c : Call} (hop : o.op = .call c) {f : Operand} (hc : c.callee = .value f) {b : Ps} (hfv : evx fr f = some (.y b)) {vs : List AV} (hvs : evxs fr c.args.toList = some vs) (h : RoundOk P B W b vs s K) : OpOk P B W o fr s K := by
  intro fr' D R w a hl r hf
  have hfv' : evx fr' f = some (.y b) := by rw [hl f (by rw [hop]; simp [Op.operands, Call.operands, hc])]; exact hfv
  have hvs' : evxs fr' c.args.toList = some vs := by
    rw [evxs_like fun x hx => hl x (by rw [hop]; simp [Op.operands, Call.operands]; exact .inr (by simpa using hx))]; exact hvs
  obtain ⟨k, e, hk, he⟩ := conc_y (evx_conc hf hfv')
  obtain ⟨f1, tmps, as, bd, h1, h2⟩ := h D R w _ k e r (evxs_conc hf hvs') hk
  refine .inr (.inr (.inr ⟨k, f1, tmps, as, bd, w, ?_, h2⟩))
  obtain ⟨dst, op, type, pos, after, guard⟩ := o
  dsimp only at hop
  subst hop
  have ea : #[] ++ c.args.map a.eval = (c.args.toList.map a.eval).toArray := by apply Array.ext'; simp
  simp only [execOp, resolve, hc, he, Deferred.ofValue, Sem.run_bind, Sem.run_pure, Result.andThen_ok, invoke, ea]
  exact h1
end

/-! ## what is told ahead -/
/-- an operation, and the block that it makes -/
abbrev Tl := Nat × Option (Ps × AO)
noncomputable def qv (P : Program) (G : PT (List AV)) (ops : List Oper) (fr : Fr) (s : S) (o : Oper) : Option AV :=
  bif guardOk ops fr o then (match pop P fr o.op with
    | some v => some v
    | none => lop P G fr s.h o.op) else some und
/-- an operation that reads no memory -/
def kP : Op → Bool
  | .move _ => true | .assign _ => true | .pick .. => true | .build .. => true | .nilCheck _ => true | .binOp .. => true | .unOp .. => true | .makeFunc .. => true
  | .slice .. => true | .fieldAddr .. => true | .indexAddr .. => true | .field .. => true | .index .. => true | .extract .. => true
  | .alloc _ => true | .box .. => true | .buildSlice .. => true | .makeMap .. => true | .makeSlice .. => true
  | _ => false
theorem kP_lop {P : Program} {G : PT (List AV)} {fr : Fr} {h : PT AO} {op : Op} (hk : kP op = true) : lop P G fr h op = none := by
  cases op <;> first | rfl | cases hk
theorem alq_kP {P : Program} {fr : Fr} {op : Op} {x : AO × (Ps → AV)} (h : alq P fr op = some x) : kP op = true := by
  cases op <;> first | rfl | cases h
noncomputable def still (ops : List Oper) (d : Option Tmp) (o : Oper) : Bool := match d with
  | some d => bif memT d (looksL ops o) then false else true
  | none => true
noncomputable def dstOk (N : Nat) (o : Oper) : Bool := match o.dst with
  | some t => Nat.ble (t + 1) N
  | none => true
theorem dstOk_spec {N : Nat} {o : Oper} (h : dstOk N o = true) : ∀ t, o.dst = some t → t < N := by
  intro t ht
  unfold dstOk at h
  rw [ht] at h
  exact ble_le h
end Go.Ev
