/- YtjajcecenflejaaGreatCz29 -/
import Derived.Test.YtjajcecenflejaaGreatCz28
namespace Go.Ev
noncomputable def popIx (P : Program) (t : TypeId) (x i : AV) : Option AV :=
  match x, i with
  | .l b o n _, .i _ (.ofNat i) => (match P.underlying t with
    | some (.slice e) => (match P.info? e with
      | some f => bif Nat.ble (i + 1) n then some (.p b (o + i * f.size)) else none
      | none => none)
    | _ => none)
  | .p b o, .i _ (.ofNat i) => (match P.underlying t with
    | some (.array n e) => (match P.info? e with
      | some f => bif Nat.ble (i + 1) n then some (.p b (o + i * f.size)) else none
      | none => none)
    | _ => none)
  | .gp g o, .i _ (.ofNat i) => (match P.underlying t with
    | some (.array n e) => (match P.info? e with
      | some f => bif Nat.ble (i + 1) n then some (.gp g (o + i * f.size)) else none
      | none => none)
    | _ => none)
  | .lx b o n _, .i _ (.ofNat i) => (match P.underlying t with
    | some (.slice e) => (match P.info? e with
      | some f => bif Nat.ble (i + 1) n then some (.p b (o + i * f.size)) else none
      | none => none)
    | _ => none)
  | _, _ => none
noncomputable def popIdx (P : Program) (t : TypeId) (x i : AV) : Option AV :=
  match x, i with
  | .a c, .i _ (.ofNat i) => (match P.underlying t with
    | some (.array n e) => (match P.info? e with
      | some f => bif Nat.ble (i + 1) n then partA P e c (i * f.size) else none
      | none => none)
    | _ => none)
  | .s l, .i _ (.ofNat i) => (match P.underlying t with
    | some .string => (match nth l i with
      | some c => some (.i .u8 (.ofNat c.toNat))
      | none => none)
    | _ => none)
  | _, _ => none
noncomputable def popB (P : Program) (b : Builtin) (ts : List TypeId) (xs : List AV) : Option AV :=
  match b, ts, xs with
  | .len, t :: _, [x] => (match x with
    | .l0 => (match P.underlying t with | some (.slice _) => some (.i .i64 0) | _ => none)
    | .l _ _ n _ => (match P.underlying t with | some (.slice _) => some (.i .i64 (.ofNat n)) | _ => none)
    | .le .. => (match P.underlying t with | some (.slice _) => some (.i .i64 0) | _ => none)
    | .lx _ _ n _ => (match P.underlying t with | some (.slice _) => some (.i .i64 (.ofNat n)) | _ => none)
    | .s l => (match P.underlying t with | some .string => some (.i .i64 (.ofNat (len l))) | _ => none)
    | _ => none)
  | .cap, t :: _, [x] => (match x with
    | .l0 => (match P.underlying t with | some (.slice _) => some (.i .i64 0) | _ => none)
    | .lx _ _ _ c => (match P.underlying t with | some (.slice _) => some (.i .i64 (.ofNat c)) | _ => none)
    | _ => none)
  | .min, _, [.i k a, .i k' b] => bif kEq k k' then some (.i k (bif iLt b a then b else a)) else none
  | .max, _, [.i k a, .i k' b] => bif kEq k k' then some (.i k (bif iLt a b then b else a)) else none
  | _, _, _ => none
noncomputable def pop (P : Program) (fr : Fr) (op : Op) : Option AV :=
  match op with
  | .move x => evx fr x
  | .assign x => evx fr x
  | .pick c a b => (match evx fr c with
    | some (.b true) => (match evx fr b with | some _ => evx fr a | none => none)
    | some (.b false) => evx fr b
    | _ => none)
  | .build t ps => popBuild P fr t ps.toList
  | .nilCheck x => (match evx fr x with
    | some (.p b o) => some (.p b o)
    | some (.f g c) => some (.f g c)
    | some (.fm g c) => some (.fm g c)
    | _ => none)
  | .binOp op t x y _ => (match evx fr x, evx fr y with
    | some u, some v => popBin P op t u v
    | _, _ => none)
  | .unOp .neg _ x => (match evx fr x with
    | some (.i k n) => some (.i k (wr k (Int.sub 0 n)))
    | _ => none)
  | .unOp .not _ x => (match evx fr x with
    | some (.b b) => some (.b (!b))
    | _ => none)
  | .convert s d x => (match P.underlying s, P.underlying d, evx fr x with
    | some _, some (.int k), some (.i _ n) => some (.i k (wr k n))
    | some _, some .string, some (.s l) => some (.s l)
    | _, _, _ => none)
  | .makeFunc (.func f) first c => bif first.isEmpty then (match evxs fr c.toList with | some vs => some (.f f vs) | none => none) else (match first.toList, c.toList with
    | [x], [] => (match evx fr x with | some v => some (.fm f v) | none => none)
    | _, _ => none)
  | .makeFunc (.methodOf u m) first c => bif first.isEmpty then (bif c.isEmpty then some (.mo u m) else none) else none
  | .slice t x lo hi none => (match evx fr x with
    | some u => popSl P fr t u lo hi
    | none => none)
  | .slice t x none (some hi) (some mx) => (match evx fr x with
    | some u => popSm P fr t u hi mx
    | none => none)
  | .fieldAddr t x f => (match evx fr x, P.underlying t with
    | some (.p b o), some (.struct fs) => (match nth fs.toList f with
      | some fl => (match P.info? fl.type with
        | some i => bif Nat.beq i.size 0 then none else some (.p b (o + fl.offset))
        | none => none)
      | none => none)
    | _, _ => none)
  | .indexAddr t x i => (match evx fr x, evx fr i with
    | some u, some v => popIx P t u v
    | _, _ => none)
  | .field t x f => (match evx fr x, P.underlying t with
    | some (.a c), some (.struct fs) => (match nth fs.toList f with
      | some fl => partA P fl.type c fl.offset
      | none => none)
    | _, _ => none)
  | .index t x i => (match evx fr x, evx fr i with
    | some u, some v => popIdx P t u v
    | _, _ => none)
  | .extract x n => (match evx fr x with
    | some (.t c) => nth c n
    | _ => none)
  | .call c => (match c.callee with
    | .builtin b => (match evxs fr c.args.toList with
      | some vs => popB P b c.argTypes.toList vs
      | none => none)
    | _ => none)
  | _ => none
theorem add_at (k o n : Nat) : (⟨k, o, none⟩ : Addr).add n = ⟨k, o + n, none⟩ := by unfold Addr.add; split <;> simp_all
theorem popIx_run {P : Program} {R : Rf} {t : TypeId} {u v r : AV} {X Y : Value} (h : popIx P t u v = some r) (hu : conc R u = some X) (hv : conc R v = some Y) (w : World) :
    ∃ z, conc R r = some z ∧ (Instr.indexAt t X Y).run P w = .ok z w := by
  unfold popIx at h
  split at h
  · rename_i b o n c k i
    obtain ⟨kb, e, hk, rfl⟩ := conc_l hu
    simp only [conc, Option.some.injEq] at hv; subst hv
    split at h
    · rename_i el ht
      split at h
      · rename_i f hf
        cases hb : Nat.ble (i + 1) n with
        | false => rw [hb] at h; cases h
        | true =>
          have hin := ble_le hb
          rw [hb] at h
          simp only [cond_true, Option.some.injEq] at h; subst h
          refine ⟨.pointer (some ⟨kb, o + i * f.size, none⟩), by simp only [conc, hk, Option.map_some], ?_⟩
          have hlt : i < n := hin
          simp [Instr.indexAt, asIntOf, run_underlying ht, run_sizeOf hf, hlt, add_at]
      · cases h
    · cases h
  · rename_i b o k i
    obtain ⟨kb, e, hk, rfl⟩ := conc_p hu
    simp only [conc, Option.some.injEq] at hv; subst hv
    split at h
    · rename_i n el ht
      split at h
      · rename_i f hf
        cases hb : Nat.ble (i + 1) n with
        | false => rw [hb] at h; cases h
        | true =>
          have hin := ble_le hb
          rw [hb] at h
          simp only [cond_true, Option.some.injEq] at h; subst h
          refine ⟨.pointer (some ⟨kb, o + i * f.size, none⟩), by simp only [conc, hk, Option.map_some], ?_⟩
          have hlt : i < n := hin
          simp [Instr.indexAt, asIntOf, run_underlying ht, run_sizeOf hf, hlt, add_at, Instr.sureAddr]
      · cases h
    · cases h
  · rename_i g o k i
    simp only [conc, Option.some.injEq] at hu hv; subst hu; subst hv
    split at h
    · rename_i n el ht
      split at h
      · rename_i f hf
        cases hb : Nat.ble (i + 1) n with
        | false => rw [hb] at h; cases h
        | true =>
          have hin := ble_le hb
          rw [hb] at h
          simp only [cond_true, Option.some.injEq] at h; subst h
          refine ⟨.pointer (some ⟨g, o + i * f.size, none⟩), rfl, ?_⟩
          have hlt : i < n := hin
          simp [Instr.indexAt, asIntOf, run_underlying ht, run_sizeOf hf, hlt, add_at, Instr.sureAddr]
      · cases h
    · cases h
  · rename_i b o n c k i
    obtain ⟨kb, e, hk, rfl⟩ := conc_lx hu
    simp only [conc, Option.some.injEq] at hv; subst hv
    split at h
    · rename_i el ht
      split at h
      · rename_i f hf
        cases hb : Nat.ble (i + 1) n with
        | false => rw [hb] at h; cases h
        | true =>
          have hin := ble_le hb
          rw [hb] at h
          simp only [cond_true, Option.some.injEq] at h; subst h
          refine ⟨.pointer (some ⟨kb, o + i * f.size, none⟩), by simp only [conc, hk, Option.map_some], ?_⟩
          have hlt : i < n := hin
          simp [Instr.indexAt, asIntOf, run_underlying ht, run_sizeOf hf, hlt, add_at]
      · cases h
    · cases h
  · cases h
theorem popIdx_run {P : Program} {R : Rf} {t : TypeId} {u v r : AV} {X Y : Value} (h : popIdx P t u v = some r) (hu : conc R u = some X) (hv : conc R v = some Y) (w : World) :
    ∃ z, conc R r = some z ∧ (Instr.index t X Y).run P w = .ok z w := by
  unfold popIdx at h
  split at h
  · rename_i c k i
    obtain ⟨xs, hxs, rfl⟩ := conc_a hu
    simp only [conc, Option.some.injEq] at hv; subst hv
    split at h
    · rename_i n el ht
      split at h
      · rename_i f hf
        cases hb : Nat.ble (i + 1) n with
        | false => rw [hb] at h; cases h
        | true =>
          have hin := ble_le hb
          rw [hb, cond_true] at h
          obtain ⟨x, hx, hr⟩ := partA_run h hxs w
          refine ⟨x, hx, ?_⟩
          have hlt : i < n := hin
          simp [Instr.index, asIntOf, run_underlying ht, run_sizeOf hf, hlt, hr]
      · cases h
    · cases h
  · rename_i l k i
    simp only [conc, Option.some.injEq] at hu hv; subst hu; subst hv
    split at h
    · rename_i ht
      split at h
      · rename_i c hc
        rw [nth_eq] at hc
        simp only [Option.some.injEq] at h; subst h
        refine ⟨_, rfl, ?_⟩
        have hg : (⟨l.toArray⟩ : ByteArray)[i]? = some c := by
          have hi := (List.getElem?_eq_some_iff.1 hc).1
          have hi2 : i < (⟨l.toArray⟩ : ByteArray).size := by simpa [ByteArray.size] using hi
          rw [getElem?_pos _ i hi2]
          congr 1
          have := (List.getElem?_eq_some_iff.1 hc).2
          simpa [ByteArray.getElem_eq_getElem_data] using this
        simp [Instr.index, asIntOf, run_underlying ht, hg]
      · cases h
    · cases h
  · cases h
theorem popB_run {P : Program} {R : Rf} {b : Builtin} {ts : Array TypeId} {ty : TypeId} {cs : Array Bool} {vs : List AV} {r : AV} {xs : List Value} (h : popB P b ts.toList vs = some r) (hv : concL R vs = some xs) (w : World) :
    ∃ z, conc R r = some z ∧ (builtin b ts ty cs xs.toArray).run P w = .ok (.value z) w := by
  unfold popB at h
  split at h
  · rename_i t ts' x hts
    obtain ⟨X, ys, hX, hys, rfl⟩ := concL_cons.1 hv
    simp only [concL, Option.some.injEq] at hys; subst hys
    have ht0 : ts[0]? = some t := by
      have := congrArg (·[0]?) hts
      simpa using this
    split at h
    · split at h
      · rename_i e ht
        simp only [Option.some.injEq] at h; subst h
        simp only [conc, Option.some.injEq] at hX; subst hX
        exact ⟨_, rfl, by simp [builtin, Builtin.len_, ht0, run_underlying ht, goInt]⟩
      · cases h
    · split at h
      · rename_i e ht
        simp only [Option.some.injEq] at h; subst h
        obtain ⟨k, e, hk, rfl⟩ := conc_l hX
        exact ⟨_, rfl, by simp [builtin, Builtin.len_, ht0, run_underlying ht, goInt]⟩
      · cases h
    · split at h
      · rename_i e ht
        simp only [Option.some.injEq] at h; subst h
        simp only [conc, Option.map_eq_some_iff] at hX
        obtain ⟨_, _, rfl⟩ := hX
        exact ⟨_, rfl, by simp [builtin, Builtin.len_, ht0, run_underlying ht, goInt]⟩
      · cases h
    · split at h
      · rename_i e ht
        simp only [Option.some.injEq] at h; subst h
        obtain ⟨k, e, hk, rfl⟩ := conc_lx hX
        exact ⟨_, rfl, by simp [builtin, Builtin.len_, ht0, run_underlying ht, goInt]⟩
      · cases h
    · rename_i l
      split at h
      · rename_i ht
        simp only [Option.some.injEq] at h; subst h
        simp only [conc, Option.some.injEq] at hX; subst hX
        refine ⟨_, rfl, ?_⟩
        have hl : (⟨l.toArray⟩ : ByteArray).size = l.length := by simp [ByteArray.size]
        simp [builtin, Builtin.len_, ht0, run_underlying ht, goInt, hl, len_eq]
      · cases h
    · cases h
  · rename_i t ts' x hts
    obtain ⟨X, ys, hX, hys, rfl⟩ := concL_cons.1 hv
    simp only [concL, Option.some.injEq] at hys; subst hys
    have ht0 : ts[0]? = some t := by
      have := congrArg (·[0]?) hts
      simpa using this
    split at h
    · split at h
      · rename_i e ht
        simp only [Option.some.injEq] at h; subst h
        simp only [conc, Option.some.injEq] at hX; subst hX
        exact ⟨_, rfl, by simp [builtin, Builtin.cap_, ht0, run_underlying ht, goInt]⟩
      · cases h
    · split at h
      · rename_i e ht
        simp only [Option.some.injEq] at h; subst h
        obtain ⟨k, e, hk, rfl⟩ := conc_lx hX
        exact ⟨_, rfl, by simp [builtin, Builtin.cap_, ht0, run_underlying ht, goInt]⟩
      · cases h
    · cases h
  · rename_i k a k' b
    cases hk : kEq k k' with
    | false => rw [hk] at h; cases h
    | true =>
      rw [hk] at h
      obtain rfl := kEq_eq hk
      simp only [cond_true, Option.some.injEq, iLt_eq] at h; subst h
      obtain ⟨X, ys, hX, hys, rfl⟩ := concL_cons.1 hv
      obtain ⟨Y, zs, hY, hzs, rfl⟩ := concL_cons.1 hys
      simp only [concL, Option.some.injEq] at hzs; subst hzs
      simp only [conc, Option.some.injEq] at hX hY; subst hX; subst hY
      refine ⟨_, rfl, ?_⟩
      have := run_min_int2 (P := P) w ts ty k k a b
      simp only [builtin, Sem.run_bind, this, Result.andThen_ok, Sem.run_pure]
      by_cases hlt : b < a <;> simp [hlt]
  · rename_i k a k' b
    cases hk : kEq k k' with
    | false => rw [hk] at h; cases h
    | true =>
      rw [hk] at h
      obtain rfl := kEq_eq hk
      simp only [cond_true, Option.some.injEq, iLt_eq] at h; subst h
      obtain ⟨X, ys, hX, hys, rfl⟩ := concL_cons.1 hv
      obtain ⟨Y, zs, hY, hzs, rfl⟩ := concL_cons.1 hys
      simp only [concL, Option.some.injEq] at hzs; subst hzs
      simp only [conc, Option.some.injEq] at hX hY; subst hX; subst hY
      refine ⟨_, rfl, ?_⟩
      have := run_max_int2 (P := P) w ts ty k k a b
      simp only [builtin, Sem.run_bind, this, Result.andThen_ok, Sem.run_pure]
      by_cases hlt : a < b <;> simp [hlt]
  · cases h
theorem pop_run {P : Program} {R : Rf} {fr : Fr} {a : Act} (hf : FrR R fr a) {o : Oper} {v : AV} (h : pop P fr o.op = some v) (w : World) :
    ∃ x, conc R v = some x ∧ (execOp a.eval o).run P w = .ok (.value x) w := by
  obtain ⟨dst, op, type, pos, after, guard⟩ := o
  dsimp only at h
  unfold pop at h
  split at h
  · exact ⟨_, evx_conc hf h, rfl⟩
  · exact ⟨_, evx_conc hf h, rfl⟩
  · split at h
    · rename_i hc
      have h1 := evx_conc hf hc
      split at h
      · simp only [conc, Option.some.injEq] at h1
        exact ⟨_, evx_conc hf h, by simp [execOp, asBool, ← h1]⟩
      · cases h
    · rename_i hc
      have h1 := evx_conc hf hc
      simp only [conc, Option.some.injEq] at h1
      exact ⟨_, evx_conc hf h, by simp [execOp, asBool, ← h1]⟩
    · cases h
  · rename_i t ps
    obtain ⟨x, h1, h2⟩ := popBuild_run hf h w
    exact ⟨x, h1, by simp only [execOp, Sem.run_bind, h2, Result.andThen_ok, Sem.run_pure]⟩
  · split at h
    · rename_i b o hx
      simp only [Option.some.injEq] at h; subst h
      have h1 := evx_conc hf hx
      obtain ⟨k, e, hk, he⟩ := conc_p h1
      exact ⟨_, h1, by simp [execOp, he]⟩
    · rename_i g c hx
      simp only [Option.some.injEq] at h; subst h
      have h1 := evx_conc hf hx
      obtain ⟨xs, hk, he⟩ := conc_f h1
      exact ⟨_, h1, by simp [execOp, he]⟩
    · rename_i g c hx
      simp only [Option.some.injEq] at h; subst h
      have h1 := evx_conc hf hx
      obtain ⟨y, hk, he⟩ := conc_fm h1
      exact ⟨_, h1, by simp [execOp, he]⟩
    · cases h
  · split at h
    · rename_i op t x y yt _ _ u v hu hv
      obtain ⟨z, h1, h2⟩ := popBin_run (x := x) (y := y) h (evx_conc hf hu) (evx_conc hf hv) w
      refine ⟨z, h1, ?_⟩
      simp only [execOp, Sem.run_bind] at h2 ⊢
      rw [h2]; rfl
    · cases h
  · split at h
    · rename_i k n hx
      simp only [Option.some.injEq] at h; subst h
      have h1 := evx_conc hf hx
      simp only [conc, Option.some.injEq] at h1
      refine ⟨_, rfl, ?_⟩
      simp only [execOp, Sem.run_bind, ← h1, wr_eq]
      rfl
    · cases h
  · split at h
    · rename_i b hx
      simp only [Option.some.injEq] at h; subst h
      have h1 := evx_conc hf hx
      simp only [conc, Option.some.injEq] at h1
      refine ⟨_, rfl, ?_⟩
      simp only [execOp, Sem.run_bind, ← h1]
      rfl
    · cases h
  · split at h
    · rename_i d k k' n hs hd hx
      simp only [Option.some.injEq] at h; subst h
      have h1 := evx_conc hf hx
      simp only [conc, Option.some.injEq] at h1
      refine ⟨_, rfl, ?_⟩
      simp only [execOp, Sem.run_bind, ← h1, wr_eq]
      simp [convert, run_underlying hs, run_underlying hd, Conv.intToInt]
    · rename_i d l hs hd hx
      simp only [Option.some.injEq] at h; subst h
      have h1 := evx_conc hf hx
      simp only [conc, Option.some.injEq] at h1
      refine ⟨_, rfl, ?_⟩
      simp only [execOp, Sem.run_bind, ← h1]
      simp [convert, run_underlying hs, run_underlying hd]
    · cases h
  · rename_i f first c
    cases hb : first.isEmpty with
    | false =>
      rw [hb, cond_false] at h
      split at h
      · rename_i x hx hc
        split at h
        · rename_i v hv
          simp only [Option.some.injEq] at h; subst h
          have h1 := evx_conc hf hv
          have e1 : first = #[x] := Array.toList_inj.1 hx
          have e2 : c = #[] := Array.toList_inj.1 hc
          subst e1; subst e2
          exact ⟨_, by rw [conc, h1]; rfl, by simp [execOp, Instr.makeFunc]⟩
        · cases h
      · cases h
    | true =>
      rw [hb, cond_true] at h
      split at h
      · rename_i vs hvs
        simp only [Option.some.injEq] at h; subst h
        have h1 := evxs_conc hf hvs
        have h0 : first = #[] := by simpa using hb
        subst h0
        refine ⟨_, by rw [conc, h1]; rfl, ?_⟩
        have e : (c.map a.eval) = (c.toList.map a.eval).toArray := by apply Array.ext'; simp
        simp [execOp, Instr.makeFunc, e]
      · cases h
  · rename_i u m first c
    cases hb : first.isEmpty with
    | false => rw [hb, cond_false] at h; cases h
    | true =>
      cases hc : c.isEmpty with
      | false => rw [hb, hc, cond_true, cond_false] at h; cases h
      | true =>
        rw [hb, hc, cond_true, cond_true] at h
        simp only [Option.some.injEq] at h; subst h
        have h0 : first = #[] := by simpa using hb
        have h1 : c = #[] := by simpa using hc
        subst h0 h1
        exact ⟨_, rfl, by simp [execOp, Instr.makeFunc]⟩
  · split at h
    · rename_i t x lo hi u hu
      obtain ⟨z, h1, h2⟩ := popSl_run hf h (evx_conc hf hu) w
      refine ⟨z, h1, ?_⟩
      simp only [execOp, Sem.run_bind, Option.map_none, h2, Result.andThen_ok, Sem.run_pure]
    · cases h
  · split at h
    · rename_i t x hi mx u hu
      obtain ⟨z, h1, h2⟩ := popSm_run hf h (evx_conc hf hu) w
      refine ⟨z, h1, ?_⟩
      simp only [execOp, Sem.run_bind, Option.map_none, Option.map_some, h2, Result.andThen_ok, Sem.run_pure]
    · cases h
  · split at h
    · rename_i b o fs hx ht
      split at h
      · rename_i fl hfl
        rw [nth_eq] at hfl
        split at h
        · rename_i i hi
          cases hb : Nat.beq i.size 0 with
          | true => rw [hb] at h; cases h
          | false =>
            rw [hb] at h
            simp only [cond_false, Option.some.injEq] at h; subst h
            have h1 := evx_conc hf hx
            obtain ⟨k, e, hk, he⟩ := conc_p h1
            refine ⟨.pointer (some ⟨k, o + fl.offset, none⟩), by simp only [conc, hk, Option.map_some], ?_⟩
            have hz : i.size ≠ 0 := bne_of_beq hb
            simp only [Array.getElem?_toList] at hfl
            have hfl2 := hfl
            simp [execOp, he, Instr.fieldAt, Instr.sureAddr, run_underlying ht, hfl2, fieldPlace, run_sizeOf hi, hz, add_at]
        · cases h
      · cases h
    · cases h
  · split at h
    · rename_i t x i u v hu hv
      obtain ⟨z, h1, h2⟩ := popIx_run h (evx_conc hf hu) (evx_conc hf hv) w
      exact ⟨z, h1, by simp only [execOp, Sem.run_bind, h2, Result.andThen_ok, Sem.run_pure]⟩
    · cases h
  · split at h
    · rename_i c fs hx ht
      split at h
      · rename_i fl hfl
        rw [nth_eq] at hfl
        have h1 := evx_conc hf hx
        obtain ⟨xs, hxs, he⟩ := conc_a h1
        obtain ⟨z, h2, h3⟩ := partA_run h hxs w
        simp only [Array.getElem?_toList] at hfl
        have hfl2 := hfl
        exact ⟨z, h2, by simp [execOp, he, Instr.field, run_underlying ht, hfl2, asAgg, h3]⟩
      · cases h
    · cases h
  · split at h
    · rename_i t x i u v hu hv
      obtain ⟨z, h1, h2⟩ := popIdx_run h (evx_conc hf hu) (evx_conc hf hv) w
      exact ⟨z, h1, by simp only [execOp, Sem.run_bind, h2, Result.andThen_ok, Sem.run_pure]⟩
    · cases h
  · split at h
    · rename_i c hx
      rw [nth_eq] at h
      have h1 := evx_conc hf hx
      obtain ⟨xs, hxs, he⟩ := conc_t h1
      obtain ⟨x, h2, h3⟩ := concL_get hxs h
      exact ⟨x, h3, by simp [execOp, he, Instr.extract, h2]⟩
    · cases h
  · rename_i c
    split at h
    · rename_i b hb
      split at h
      · rename_i vs hvs
        have h1 := evxs_conc hf hvs
        obtain ⟨z, h2, h3⟩ := popB_run (ty := type) (cs := c.args.map fun | .const _ => true | _ => false) h h1 w
        refine ⟨z, h2, ?_⟩
        have e : (c.args.map a.eval) = (c.args.toList.map a.eval).toArray := by apply Array.ext'; simp
        simp only [execOp, resolve, hb, Sem.run_bind, Sem.run_pure, Result.andThen_ok, invoke]
        rw [e]; exact h3
      · cases h
    · cases h
  · cases h
end Go.Ev
