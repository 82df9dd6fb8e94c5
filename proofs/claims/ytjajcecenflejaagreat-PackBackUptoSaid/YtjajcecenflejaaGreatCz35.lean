/- YtjajcecenflejaaGreatCz35 -/
import Derived.Test.YtjajcecenflejaaGreatCz34
import Derived.Test.YtjajcecenflejaaGreatCz27
namespace Go.Ev
open Go.RowKit
theorem getF_putF_ne {fr : Fr} {d : Option Tmp} {v : AV} {t : Nat} (h : d ≠ some t) : getF (putF fr d v) t = getF fr t := by
  unfold putF
  cases d with
  | none => rfl
  | some u => exact getF_set_ne fr v fun e => h (by rw [e])
theorem getF_putF {fr : Fr} {v : AV} {t : Nat} : getF (putF fr (some t) v) t = v := getF_set fr t v
section
variable {P : Program} {B : Nat → Prop} {W : World} {G : PT (List AV)} {ops : Array Oper} {N : Nat}
theorem like_of {fr fr' : Fr} {o : Oper} (h : ∀ d ∈ o.looksAt ops, getF fr d = getF fr' d) : Like fr fr' o.op.operands.toList ∧ guardOk ops.toList fr o = guardOk ops.toList fr' o := by
  constructor
  · intro x hx
    cases x with
    | tmp t =>
      simp only [evx]
      rw [h t]
      exact List.mem_append_left _ (List.mem_filterMap.2 ⟨.tmp t, hx, rfl⟩)
    | const v => rfl
    | global g => rfl
    | func f => rfl
  · unfold guardOk
    split
    · rfl
    · rename_i j w hg
      split
      · rename_i oj hj
        split
        · rename_i t ht
          rw [h t]
          refine List.mem_append_right _ ?_
          rw [hg]
          rw [nth_eq, Array.getElem?_toList] at hj
          simp [hj, ht]
        · rfl
      · rfl
theorem qv_like {fr fr' : Fr} {s : S} {o : Oper} (h : ∀ d ∈ o.looksAt ops, getF fr d = getF fr' d) : qv P G ops.toList fr s o = qv P G ops.toList fr' s o := by
  obtain ⟨h1, h2⟩ := like_of h
  unfold qv
  rw [h2, pop_like h1, lop_like h1]
def pendL (O : List Tl) : Dn := O.filterMap (·.2)
def Ent (P : Program) (G : PT (List AV)) (ops : Array Oper) (N : Nat) (fr : Fr) (s : S) (p : Tl) : Prop :=
  ∃ o v, ops[p.1]? = some o ∧ dstOk N o = true ∧ (∀ d, o.dst = some d → getF fr d = v) ∧ (p.2 = none → qv P G ops.toList fr s o = some v) ∧ (∀ b, p.2 = some b → guardOk ops.toList fr o = true ∧ ∃ mk, alq P fr o.op = some (b.2, mk) ∧ v = mk b.1)
theorem Ent.like {fr fr' : Fr} {s : S} {p : Tl} (h : Ent P G ops N fr s p) (hl : ∀ o, ops[p.1]? = some o → (∀ d ∈ o.looksAt ops, getF fr d = getF fr' d) ∧ ∀ d, o.dst = some d → getF fr d = getF fr' d) : Ent P G ops N fr' s p := by
  obtain ⟨o, v, h1, h2, h0, h3, h4⟩ := h
  obtain ⟨hlo, hld⟩ := hl o h1
  obtain ⟨e1, e2⟩ := like_of hlo
  refine ⟨o, v, h1, h2, (fun d hd => by rw [← hld d hd]; exact h0 d hd), fun hn => ?_, fun b hb => ?_⟩
  · rw [← qv_like hlo]; exact h3 hn
  · obtain ⟨g1, mk, g2, g3⟩ := h4 b hb
    exact ⟨by rw [← e2]; exact g1, mk, by rw [← alq_like e1]; exact g2, g3⟩
structure St (P : Program) (B : Nat → Prop) (W : World) (G : PT (List AV)) (D0 : Dn) (ops : Array Oper) (N : Nat) (L : Array Bool) (R : Rf) (fr0 : Fr) (a : Act) (w : World) (V : Nat) (T : List Nat) (O : List Tl) (fr : Fr) (s : S) : Prop where
  lsz : L.size = ops.size
  mem : ∀ i, i < ops.size → (V.testBit i = false ↔ L.getD i true = false ∧ ∀ p ∈ O, p.1 ≠ i)
  nodup : (O.map (·.1)).Nodup
  sub : ∀ p ∈ O, p.1 ∈ T
  qok : ∀ p ∈ O, QOk ops p.1
  out : ∀ p ∈ O, L.getD p.1 true = false
  pre : ∀ p ∈ O, ∀ i, Waits ops p.1 i → V.testBit i = true
  same : ∀ t, (∀ p ∈ O, dstOf ops p.1 ≠ some t) → getF fr t = getF fr0 t
  rel : Rel P B W (pendL O ++ D0) R s.h w
  frr : FrR R fr0 a
  asz : a.tmps.size = N
  ent : ∀ p ∈ O, Ent P G ops N fr s p
theorem rdyV {V j : Nat} : j ∈ rdyG V ops.toList 0 ↔ V.testBit j = false ∧ (∃ o, ops[j]? = some o) ∧ ∀ i, Waits ops j i → V.testBit i = true := by
  rw [rdyG_mem]
  simp only [Nat.zero_le, true_and, Nat.sub_zero, Array.getElem?_toList]
  constructor
  · rintro ⟨h1, o, ho, hg⟩
    refine ⟨h1, ⟨o, ho⟩, ?_⟩
    rintro i ⟨o2, ho2, e, he, hb, rfl⟩
    rw [ho] at ho2; simp only [Option.some.injEq] at ho2; subst ho2
    exact (goodM_iff o V).1 hg e he hb
  · rintro ⟨h1, ⟨o, ho⟩, h3⟩
    exact ⟨h1, o, ho, (goodM_iff o V).2 fun e he hb => h3 e.on ⟨o, ho, e, he, hb, rfl⟩⟩
theorem lt_of_get {i : Nat} {o : Oper} (h : ops[i]? = some o) : i < ops.size := (Array.getElem?_eq_some_iff.1 h).1
theorem testBit_set {V i j : Nat} : (V ||| 2 ^ i).testBit j = false ↔ V.testBit j = false ∧ j ≠ i := by
  rw [Nat.testBit_or, Nat.testBit_two_pow]
  by_cases h : i = j
  · subst h; simp
  · have h' : ¬ j = i := fun e => h e.symm
    simp [h, h']
theorem testBit_mono {V i j : Nat} (h : V.testBit j = true) : (V ||| 2 ^ i).testBit j = true := by
  rw [Nat.testBit_or, h]; rfl
section
variable {D0 : Dn} {L : Array Bool} {R R' : Rf} {fr0 : Fr} {a : Act} {w w' : World} {V : Nat} {T : List Nat} {O : List Tl} {fr : Fr} {s s' : S}
theorem St.tell (t : St P B W G D0 ops N L R fr0 a w V T O fr s) {i : Nat} (hi : i ∈ rdyG V ops.toList 0) {o : Oper} (ho : ops[i]? = some o) (hdo : dstOk N o = true) (hq : QOk ops i) (v : AV) (e : Option (Ps × AO))
    (hrel : Rel P B W (pendL ((i, e) :: O) ++ D0) R s'.h w) (hold : ∀ p ∈ O, Ent P G ops N fr s' p) (hn1 : e = none → qv P G ops.toList fr s' o = some v) (hn2 : ∀ b, e = some b → guardOk ops.toList fr o = true ∧ ∃ mk, alq P fr o.op = some (b.2, mk) ∧ v = mk b.1) :
    St P B W G D0 ops N L R fr0 a w (V ||| 2 ^ i) (i :: T) ((i, e) :: O) (putF fr o.dst v) s' := by
  obtain ⟨hV, _, hw⟩ := rdyV.1 hi
  have hlt := lt_of_get ho
  obtain ⟨hLi, hOi⟩ := (t.mem i hlt).1 hV
  have hq' := hq
  obtain ⟨oi, hoi, _, hqd⟩ := hq
  rw [ho] at hoi; simp only [Option.some.injEq] at hoi; subst hoi
  have hdi : dstOf ops i = o.dst := by simp [dstOf, ho]
  have hself : ∀ d ∈ o.looksAt ops, getF fr d = getF (putF fr o.dst v) d := fun d hd => (getF_putF_ne fun e2 => (hqd d e2).1 hd).symm
  refine ⟨t.lsz, ?_, ?_, ?_, ?_, ?_, ?_, ?_, hrel, t.frr, t.asz, ?_⟩
  · intro j hj
    rw [testBit_set, t.mem j hj]
    constructor
    · rintro ⟨⟨q1, q2⟩, q3⟩
      refine ⟨q1, fun p hp => ?_⟩
      rcases List.mem_cons.1 hp with rfl | hp
      · exact fun e => q3 e.symm
      · exact q2 p hp
    · rintro ⟨q1, q2⟩
      exact ⟨⟨q1, fun p hp => q2 p (List.mem_cons_of_mem _ hp)⟩, fun e2 => q2 (i, e) List.mem_cons_self e2.symm⟩
  · rw [List.map_cons, List.nodup_cons]
    exact ⟨fun hm => by obtain ⟨p, hp, e2⟩ := List.mem_map.1 hm; exact hOi p hp e2, t.nodup⟩
  · intro p hp
    rcases List.mem_cons.1 hp with rfl | hp
    · exact List.mem_cons_self
    · exact List.mem_cons_of_mem _ (t.sub p hp)
  · intro p hp
    rcases List.mem_cons.1 hp with rfl | hp
    · exact hq'
    · exact t.qok p hp
  · intro p hp
    rcases List.mem_cons.1 hp with rfl | hp
    · exact hLi
    · exact t.out p hp
  · intro p hp j hj
    refine testBit_mono ?_
    rcases List.mem_cons.1 hp with rfl | hp
    · exact hw j hj
    · exact t.pre p hp j hj
  · intro u hu
    rw [getF_putF_ne (by rw [← hdi]; exact hu _ List.mem_cons_self)]
    exact t.same u fun p hp => hu p (List.mem_cons_of_mem _ hp)
  · intro p hp
    rcases List.mem_cons.1 hp with rfl | hp
    · refine ⟨o, v, ho, hdo, (fun d hd => by rw [hd]; exact getF_putF), fun hn => ?_, fun b hb => ?_⟩
      · rw [← qv_like hself]; exact hn1 hn
      · obtain ⟨g1, mk, g2, g3⟩ := hn2 b hb
        obtain ⟨e1, e2⟩ := like_of hself
        exact ⟨by rw [← e2]; exact g1, mk, by rw [← alq_like e1]; exact g2, g3⟩
    · refine (hold p hp).like fun op hop => ⟨fun d hd => ?_, fun d hd => ?_⟩
      · refine (getF_putF_ne fun e => ?_).symm
        obtain ⟨ed, he, hb, hon⟩ := ((hqd d e).2 p.1 op hop (hOi p hp)).2 hd
        have := t.pre p hp i ⟨op, hop, ed, he, hb, hon⟩
        rw [hV] at this; cases this
      · refine (getF_putF_ne fun e => ?_).symm
        exact ((hqd d e).2 p.1 op hop (hOi p hp)).1 hd
theorem St.blind (t : St P B W G D0 ops N L R fr0 a w V T O fr s) {k : Nat} {o : Oper} (ho : ops[k]? = some o) (hr : k ∈ Region.ready .any ops L) : ∀ d ∈ o.looksAt ops, getF fr d = getF fr0 d := by
  intro d hl
  refine t.same d fun p hp hd => ?_
  obtain ⟨oi, hoi, _, hq⟩ := t.qok p hp
  simp only [dstOf, hoi, Option.bind_some] at hd
  by_cases hpk : k = p.1
  · subst hpk
    rw [ho] at hoi; simp only [Option.some.injEq] at hoi; subst hoi
    exact (hq d hd).1 hl
  · obtain ⟨e, he, hb, hon⟩ := ((hq d hd).2 k o ho hpk).2 hl
    have h1 := (ready_iff.1 hr).2.2 p.1 ⟨o, ho, e, he, hb, hon⟩
    have h2 := t.out p hp
    rw [getD_dual (getD_lt h2), h1] at h2
    cases h2
theorem St.come (t : St P B W G D0 ops N L R fr0 a w V T O fr s) {k : Nat} {v : AV} {e : Option (Ps × AO)} (hp : (k, e) ∈ O) {o : Oper} (ho : ops[k]? = some o) (hle : R.le R') {x : Value} (hx : conc R' v = some x) (hv : ∀ d, o.dst = some d → getF fr d = v)
    (hdo : dstOk N o = true) (hrel : Rel P B W (pendL (O.filter fun p => p.1 != k) ++ D0) R' s.h w') :
    St P B W G D0 ops N (setL L k) R' (putF fr0 o.dst v) (a.put o.dst x) w' V T (O.filter fun p => p.1 != k) fr s := by
  have hmem : ∀ p, p ∈ O.filter (fun p => p.1 != k) ↔ p ∈ O ∧ p.1 ≠ k := fun p => by simp
  have hlk := getD_lt (t.out _ hp)
  obtain ⟨f1, f2⟩ := (t.frr.mono hle).put (d := o.dst) (v := v) (x := x) (fun u e => by rw [t.asz]; exact dstOk_spec hdo u e) hx
  have hdk : dstOf ops k = o.dst := by simp [dstOf, ho]
  refine ⟨by rw [setL_size]; exact t.lsz, ?_, t.nodup.sublist (List.Sublist.map _ List.filter_sublist), fun p hp => t.sub p ((hmem p).1 hp).1, fun p hp => t.qok p ((hmem p).1 hp).1, ?_, fun p hp => t.pre p ((hmem p).1 hp).1, ?_, hrel, f1, by rw [f2]; exact t.asz, fun p hp => t.ent p ((hmem p).1 hp).1⟩
  · intro i hi
    rw [t.mem i hi, setL_getD hlk]
    constructor
    · rintro ⟨h1, h2⟩
      exact ⟨⟨h1, fun e => h2 _ hp e.symm⟩, fun p hp => h2 p ((hmem p).1 hp).1⟩
    · rintro ⟨⟨h1, h2⟩, h3⟩
      refine ⟨h1, fun p hp e => ?_⟩
      by_cases hpk : p.1 = k
      · exact h2 (by rw [← e, hpk])
      · exact h3 p ((hmem p).2 ⟨hp, hpk⟩) e
  · intro p hp
    obtain ⟨h1, h2⟩ := (hmem p).1 hp
    exact (setL_getD hlk).2 ⟨t.out p h1, h2⟩
  · intro u hu
    by_cases hku : o.dst = some u
    · rw [hv u hku, hku]
      exact getF_putF.symm
    · rw [getF_putF_ne hku]
      refine t.same u fun p hp' => ?_
      by_cases hpk : p.1 = k
      · rw [hpk, hdk]; exact hku
      · exact hu p ((hmem p).2 ⟨hp', hpk⟩)
theorem St.loud (t : St P B W G D0 ops N L R fr0 a w V T O fr s) {k : Nat} (hk : k ∈ Region.ready .any ops L) (hkO : ∀ p ∈ O, p.1 ≠ k) {o : Oper} (hdo : dstOk N o = true) (hle : R.le R') {v : AV} {x : Value} (hx : conc R' v = some x)
    (hrel : Rel P B W (pendL O ++ D0) R' s'.h w') (hc : ∀ p : Tl, p.1 ∈ T → QOk ops p.1 → p.1 ≠ k → ¬ Waits ops k p.1 → Ent P G ops N fr s p → Ent P G ops N (putF fr o.dst v) s' p) :
    St P B W G D0 ops N (setL L k) R' (putF fr0 o.dst v) (a.put o.dst x) w' (V ||| 2 ^ k) T O (putF fr o.dst v) s' := by
  have hkr := ready_iff.1 hk
  have hlk := getD_lt hkr.1
  obtain ⟨f1, f2⟩ := (t.frr.mono hle).put (d := o.dst) (v := v) (x := x) (fun u e => by rw [t.asz]; exact dstOk_spec hdo u e) hx
  have hsp : ∀ p ∈ O, Ent P G ops N (putF fr o.dst v) s' p := fun p hp => hc p (t.sub p hp) (t.qok p hp) (hkO p hp) (fun h => by
    have h1 := hkr.2.2 p.1 h
    have h2 := t.out p hp
    rw [getD_dual (getD_lt h2), h1] at h2; cases h2) (t.ent p hp)
  refine ⟨by rw [setL_size]; exact t.lsz, ?_, t.nodup, t.sub, t.qok, ?_, fun p hp j hj => testBit_mono (t.pre p hp j hj), ?_, hrel, f1, by rw [f2]; exact t.asz, hsp⟩
  · intro i hi
    rw [testBit_set, t.mem i hi, setL_getD hlk]
    exact ⟨fun ⟨⟨q1, q2⟩, q3⟩ => ⟨⟨q1, q3⟩, q2⟩, fun ⟨⟨q1, q3⟩, q2⟩ => ⟨⟨q1, q2⟩, q3⟩⟩
  · exact fun p hp => (setL_getD hlk).2 ⟨t.out p hp, hkO p hp⟩
  · intro u hu
    by_cases hku : o.dst = some u
    · rw [hku, getF_putF, getF_putF]
    · rw [getF_putF_ne hku, getF_putF_ne hku]; exact t.same u hu
theorem St.none_left (t : St P B W G D0 ops N L R fr0 a w V T O fr s) (hdown : ∀ j i, Waits ops j i → i < j) (hrl : Region.ready .any ops L = []) : O = [] ∧ rdyG V ops.toList 0 = [] := by
  have key : ∀ (x : Nat) (p : Tl), p ∈ O → p.1 = x → False := by
    intro x
    induction x using Nat.strongRecOn with
    | _ x ihx =>
      intro p hp hpx
      obtain ⟨op, hop, _⟩ := t.qok p hp
      have : p.1 ∈ Region.ready .any ops L := by
        refine ready_iff.2 ⟨t.out p hp, ⟨op, hop⟩, fun y hw => ?_⟩
        have hv := t.pre p hp y hw
        have hy : y < ops.size := by have := hdown _ _ hw; have := lt_of_get hop; omega
        cases hl : L.getD y false with
        | true => rfl
        | false =>
          have hl' : L.getD y true = false := by rw [getD_dual (by rw [t.lsz]; exact hy)]; exact hl
          have hex : ∃ q ∈ O, q.1 = y := by
            refine Classical.byContradiction fun hno => ?_
            have := (t.mem y hy).2 ⟨hl', fun q hq e => hno ⟨q, hq, e⟩⟩
            rw [hv] at this; cases this
          obtain ⟨q, hq, e⟩ := hex
          exact absurd (ihx y (by have := hdown _ _ hw; omega) q hq e) id
      rw [hrl] at this; cases this
  have hO : O = [] := by
    cases hO : O with
    | nil => rfl
    | cons p0 O0 => exact absurd (key p0.1 p0 (by rw [hO]; exact List.mem_cons_self) rfl) id
  refine ⟨hO, ?_⟩
  subst hO
  cases hr : rdyG V ops.toList 0 with
  | nil => rfl
  | cons x xs =>
    have hx : x ∈ rdyG V ops.toList 0 := by rw [hr]; exact List.mem_cons_self
    obtain ⟨q1, ⟨ox, hox⟩, q3⟩ := rdyV.1 hx
    have : x ∈ Region.ready .any ops L := by
      refine ready_iff.2 ⟨((t.mem x (lt_of_get hox)).1 q1).1, ⟨ox, hox⟩, fun y hw => ?_⟩
      have hv := q3 y hw
      have hy : y < ops.size := by have := hdown _ _ hw; have := lt_of_get hox; omega
      cases hl : L.getD y false with
      | true => rfl
      | false =>
        have := (t.mem y hy).2 ⟨by rw [getD_dual (by rw [t.lsz]; exact hy)]; exact hl, fun q hq => by cases hq⟩
        rw [hv] at this; cases this
    rw [hrl] at this; cases this
end
theorem hcount (L : Array Bool) (k : Nat) (hk : L.getD k true = false) : ((setL L k).toList.filter (!·)).length + 1 = (L.toList.filter (!·)).length := by
  have hlt := getD_lt hk
  have hf : L[k] = false := by simpa [hlt] using hk
  have : ∀ (l : List Bool) (k : Nat) (h : k < l.length), l[k] = false → ((l.set k true).filter (!·)).length + 1 = (l.filter (!·)).length := by
    intro l
    induction l with
    | nil => intro k h; simp at h
    | cons b l ih =>
      intro k h hb
      cases k with
      | zero => simp at hb; subst hb; simp
      | succ k =>
        have := ih k (by simpa using h) (by simpa using hb)
        cases b <;> simp [this]
  simpa [setL] using this L.toList k (by simpa using hlt) (by simpa using hf)
def REnd (P : Program) (B : Nat → Prop) (W : World) (D : Dn) (R : Rf) (w : World) (N : Nat) (ds : List Deferred) (K : Fr → S → Prop) (Q : Exit → Act → World → Prop) : Prop :=
  ∀ fr' s' R' a' w', K fr' s' → R.le R' → Rel P B W D R' s'.h w' → FrR R' fr' a' → a'.tmps.size = N → Kept B w w' → a'.defers = ds → Q .normal a' w'
theorem REnd.of {D : Dn} {R R' : Rf} {w w' : World} {ds : List Deferred} {K : Fr → S → Prop} {Q : Exit → Act → World → Prop} (h : REnd P B W D R w N ds K Q) (hr : R.le R') (hb : Kept B w w') : REnd P B W D R' w' N ds K Q :=
  fun fr2 s2 R2 a2 w2 m1 m2 m3 m4 m5 m6 m7 => h fr2 s2 R2 a2 w2 m1 (Rf.le_trans hr m2) m3 m4 m5 (hb.trans m6) m7
theorem put_defers (a : Act) (d : Option Tmp) (v : Value) : (a.put d v).defers = a.defers := by cases d <;> rfl
theorem REnd.put {D : Dn} {R : Rf} {w : World} {a : Act} {K : Fr → S → Prop} {Q : Exit → Act → World → Prop} (h : REnd P B W D R w N a.defers K Q) (d : Option Tmp) (v : Value) : REnd P B W D R w N (a.put d v).defers K Q := by
  rw [put_defers]; exact h
def Ext (K : Fr → S → Prop) : Prop := ∀ fr fr' s, (∀ t, getF fr t = getF fr' t) → K fr s → K fr' s
def Sound (P : Program) (B : Nat → Prop) (W : World) (G : PT (List AV)) (ops : Array Oper) (N : Nat) (V : Nat) (T : List Nat) (fr : Fr) (s : S) (K : Fr → S → Prop) : Prop :=
  ∀ (D0 : Dn) (L : Array Bool) (R : Rf) (fr0 : Fr) (a : Act) (w : World) (O : List Tl) (Q : Exit → Act → World → Prop) (m : Nat) (ρ : Option Nat), St P B W G D0 ops N L R fr0 a w V T O fr s → REnd P B W D0 R w N a.defers K Q → wpAnyIn (Fw ρ) 0 P .any ops Q (m + (L.toList.filter (!·)).length) L a w
section
variable {V : Nat} {T : List Nat} {fr : Fr} {s : S} {K : Fr → S → Prop}
theorem sound_tell {i : Nat} (hi : i ∈ rdyG V ops.toList 0) {o : Oper} (ho : ops[i]? = some o) (hdo : dstOk N o = true) (hq : QOk ops i) {v : AV} (hv : qv P G ops.toList fr s o = some v)
    (h : Sound P B W G ops N (V ||| 2 ^ i) (i :: T) (putF fr o.dst v) s K) : Sound P B W G ops N V T fr s K :=
  fun D0 L R fr0 a w O Q m ρ t hQ => h D0 L R fr0 a w _ Q m ρ (t.tell (s' := s) hi ho hdo hq v none t.rel t.ent (fun _ => hv) fun b hb => by cases hb) hQ
theorem sound_tellA {i : Nat} (hi : i ∈ rdyG V ops.toList 0) {o : Oper} (ho : ops[i]? = some o) (hdo : dstOk N o = true) (hq : QOk ops i) (hg : guardOk ops.toList fr o = true) {ob : AO} {mk : Ps → AV} (hm : alq P fr o.op = some (ob, mk)) {p : Ps} {s' : S} (hn : newO ob s = some (p, s'))
    (h : Sound P B W G ops N (V ||| 2 ^ i) (i :: T) (putF fr o.dst (mk p)) s' K) : Sound P B W G ops N V T fr s K := by
  intro D0 L R fr0 a w O Q m ρ t hQ
  obtain ⟨n1, n2⟩ := newO_spec hn
  have hrel : Rel P B W (pendL ((i, some (p, ob)) :: O) ++ D0) R s'.h w := by
    rw [n2]; exact t.rel.tell n1 ob
  refine h D0 L R fr0 a w _ Q m ρ (t.tell (s' := s') hi ho hdo hq (mk p) (some (p, ob)) hrel (fun q hq => ?_) (fun hb => by cases hb) fun b hb => ?_) hQ
  · obtain ⟨o2, v2, g1, g2, g0, g3, g4⟩ := t.ent q hq
    refine ⟨o2, v2, g1, g2, g0, fun hn => ?_, g4⟩
    have := g3 hn
    unfold qv at this ⊢
    cases hgo : guardOk ops.toList fr o2 with
    | false => rw [hgo] at this; exact this
    | true =>
      rw [hgo, cond_true] at this
      rw [cond_true]
      split at this
      · exact this
      · rw [n2]; exact lop_new ob n1 this
  · simp only [Option.some.injEq] at hb; subst hb
    exact ⟨hg, mk, hm, rfl⟩
def Loud (P : Program) (B : Nat → Prop) (W : World) (G : PT (List AV)) (ops : Array Oper) (N : Nat) (V : Nat) (T : List Nat) (fr : Fr) (s : S) (K : Fr → S → Prop) (k : Nat) : Prop :=
  ∃ o, ops[k]? = some o ∧ dstOk N o = true ∧
    ((guardOk ops.toList fr o = false ∧ (∀ p : Tl, p.1 ∈ T → QOk ops p.1 → p.1 ≠ k → ¬ Waits ops k p.1 → Ent P G ops N fr s p → Ent P G ops N (putF fr o.dst und) s p) ∧ Sound P B W G ops N (V ||| 2 ^ k) T (putF fr o.dst und) s K) ∨
     (guardOk ops.toList fr o = true ∧ OpOk P B W o fr s fun v s' => (∀ p : Tl, p.1 ∈ T → QOk ops p.1 → p.1 ≠ k → ¬ Waits ops k p.1 → Ent P G ops N fr s p → Ent P G ops N (putF fr o.dst v) s' p) ∧ Sound P B W G ops N (V ||| 2 ^ k) T (putF fr o.dst v) s' K))
theorem sound_node (hG : GOk B W G) (hdown : ∀ j i, Waits ops j i → i < j) (hK : Ext K) (h1 : rdyG V ops.toList 0 = [] → K fr s) (h2 : ∀ k ∈ rdyG V ops.toList 0, Loud P B W G ops N V T fr s K k) : Sound P B W G ops N V T fr s K := by
  intro D0 L R fr0 a w O Q m ρ t hQ
  generalize hc : (L.toList.filter (!·)).length = c
  induction c generalizing L R fr0 a w O with
  | zero =>
    have hall : ∀ i, L.getD i true = true := by
      intro i
      cases hi : L.getD i true with
      | true => rfl
      | false => have := hcount L i hi; omega
    have hrd : Region.ready .any ops L = [] := by
      cases hr : Region.ready .any ops L with
      | nil => rfl
      | cons x xs =>
        have : x ∈ Region.ready .any ops L := by rw [hr]; exact List.mem_cons_self
        have := (ready_iff.1 this).1
        rw [hall] at this; cases this
    have hfin : Q .normal a w := by
      obtain ⟨rfl, hr⟩ := t.none_left hdown hrd
      refine hQ fr0 s R a w (hK fr fr0 s (fun u => t.same u fun p hp => by cases hp) (h1 hr)) R.le_refl t.rel t.frr t.asz (Kept.refl B w) rfl
    cases m with
    | zero => exact ⟨hrd, hfin⟩
    | succ m => exact ⟨fun _ => hfin, fun i hi => by rw [hrd] at hi; cases hi⟩
  | succ c ih =>
    show wpAnyIn (Fw ρ) 0 P .any ops Q ((m + c) + 1) L a w
    refine ⟨fun hrl => ?_, fun k hk => ?_⟩
    · obtain ⟨rfl, hr⟩ := t.none_left hdown hrl
      refine hQ fr0 s R a w (hK fr fr0 s (fun u => t.same u fun p hp => by cases hp) (h1 hr)) R.le_refl t.rel t.frr t.asz (Kept.refl B w) rfl
    have hkr := ready_iff.1 hk
    have hcn := hcount L k hkr.1
    have hcc : ((setL L k).toList.filter (!·)).length = c := by omega
    obtain ⟨o, ho⟩ := hkr.2.1
    have hbl := t.blind ho hk
    obtain ⟨hlike, hgd⟩ := like_of hbl
    have hwg := guardOk_eq t.frr ops o
    refine Does.wpOp ⟨o, ho, ?_⟩
    by_cases hkO : ∃ p ∈ O, p.1 = k
    · obtain ⟨⟨k', e⟩, hp, rfl⟩ := hkO
      dsimp only at hk hkr hcc ho hcn
      obtain ⟨o2, v, g1, g2, g0, g3, g4⟩ := t.ent _ hp
      dsimp only at g1
      rw [ho] at g1; simp only [Option.some.injEq] at g1; subst g1
      have hsub : (pendL (O.filter fun p => p.1 != k') ++ D0).Sublist (pendL O ++ D0) := List.Sublist.append (List.Sublist.filterMap _ List.filter_sublist) (List.Sublist.refl _)
      cases e with
      | none =>
        have hv := g3 rfl
        rw [qv_like hbl] at hv
        unfold qv at hv
        have next : ∀ x, conc R v = some x → wpAnyIn (Fw ρ) 0 P .any ops Q (m + c) (setL L k') (a.put o.dst x) w := fun x hx =>
          ih _ _ _ _ _ _ (t.come hp ho R.le_refl hx g0 g2 (t.rel.fewer hsub)) (hQ.put _ _) hcc
        cases hb : guardOk ops.toList fr0 o with
        | false =>
          rw [hb] at hv hwg
          simp only [cond_false, Option.some.injEq] at hv; subst hv
          exact .inl ⟨hwg, next undef rfl⟩
        | true =>
          rw [hb, cond_true] at hv
          rw [hb] at hwg
          split at hv
          · rename_i u hu
            simp only [Option.some.injEq] at hv; subst hv
            obtain ⟨x, h1, h2⟩ := pop_run t.frr hu w
            exact .inr ⟨hwg, .inl ⟨x, w, h2, next x h1⟩⟩
          · obtain ⟨x, h1, h2⟩ := lop_run hG t.rel t.frr hv
            exact .inr ⟨hwg, .inl ⟨x, w, h2, next x h1⟩⟩
      | some b =>
        obtain ⟨q1, mk, q2, q3⟩ := g4 b rfl
        obtain ⟨b, ob⟩ := b
        dsimp only at q2 q3
        subst q3
        rw [hgd] at q1
        rw [alq_like hlike] at q2
        obtain ⟨O1, X, r1, r2⟩ := alq_run t.frr q2 w
        have hbm : (b, ob) ∈ pendL O ++ D0 := List.mem_append_left _ (List.mem_filterMap.2 ⟨_, hp, rfl⟩)
        obtain ⟨p1, p2⟩ := t.rel.pend b ob hbm
        have hnot : b ∉ (pendL (O.filter fun p => p.1 != k') ++ D0).map (·.1) := by
          have hnd := t.rel.nd
          intro hin
          obtain ⟨l1, l2, hl⟩ := List.append_of_mem hp
          have hnd2 := t.nodup
          rw [hl] at hnd hnd2 hin
          simp only [List.map_append, List.map_cons, pendL, List.filterMap_append, List.filterMap_cons] at hnd hnd2
          have hf1 : ∀ q ∈ l1, q.1 ≠ k' := fun q hq e => by
            rw [List.nodup_append] at hnd2
            exact hnd2.2.2 q.1 (List.mem_map_of_mem hq) k' List.mem_cons_self e
          have hf2 : ∀ q ∈ l2, q.1 ≠ k' := fun q hq e => by
            rw [List.nodup_append] at hnd2
            exact (List.nodup_cons.1 hnd2.2.1).1 (e ▸ List.mem_map_of_mem hq)
          have hfe : ((l1 ++ (k', some (b, ob)) :: l2).filter fun p => p.1 != k') = l1 ++ l2 := by
            rw [List.filter_append, List.filter_cons_of_neg (by simp), List.filter_eq_self.2 (fun q hq => by simpa using hf1 q hq), List.filter_eq_self.2 (fun q hq => by simpa using hf2 q hq)]
          rw [hfe] at hin
          simp only [pendL, List.filterMap_append, List.map_append, List.append_assoc, List.mem_append] at hin
          rw [List.append_assoc, List.nodup_append] at hnd
          rcases hin with hin | hin
          · exact hnd.2.2 b hin b (List.mem_append_left _ List.mem_cons_self) rfl
          · refine (List.nodup_cons.1 hnd.2.1).1 ?_
            simpa using hin
        have hbw := (Kept.refl B w).alloc t.rel.base O1
        have hle := Rf.le_put (w.heap.size, 0) p2
        obtain ⟨a1, a2⟩ := r2 (R.put b (w.heap.size, 0)) (w.alloc O1) b hle (Rf.put_at ..) (alloc_at w O1)
        obtain ⟨hrel, _⟩ := t.rel.grow (w' := w.alloc O1) (h' := s.h) (fun y hy => hsub.subset hy) (t.rel.nd.sublist (hsub.map _)) p2 (by simp) (fun j hj => RowKit.Below.heap_alloc w O1 j hj) hbw p1 (fun _ _ => rfl) hnot a1
        refine .inr ⟨by rw [hwg]; exact q1, .inl ⟨X, w.alloc O1, r1, ?_⟩⟩
        exact ih _ _ _ _ _ _ (t.come hp ho hle a2 g0 g2 hrel) ((hQ.of hle hbw).put _ _) hcc
    · have hkn : ∀ p ∈ O, p.1 ≠ k := fun p hp e => hkO ⟨p, hp, e⟩
      have hsubL : ∀ i, L.getD i false = true → i < ops.size → V.testBit i = true := fun i hi hlt => by
        cases hv : V.testBit i with
        | true => rfl
        | false =>
          have := ((t.mem i hlt).1 hv).1
          rw [getD_dual (by rw [t.lsz]; exact hlt), hi] at this; cases this
      have hkV : k ∈ rdyG V ops.toList 0 := rdyV.2 ⟨(t.mem k (lt_of_get ho)).2 ⟨hkr.1, hkn⟩, ⟨o, ho⟩, fun y hw => hsubL y (hkr.2.2 y hw) (by have := hdown _ _ hw; have := lt_of_get ho; omega)⟩
      obtain ⟨o2, ho2, hdo, hl⟩ := h2 k hkV
      rw [ho] at ho2; simp only [Option.some.injEq] at ho2; subst ho2
      rcases hl with ⟨hb, hc1, hs⟩ | ⟨hb, hop⟩
      · refine .inl ⟨by rw [hwg, ← hgd]; exact hb, ?_⟩
        have := hs D0 _ R _ _ w O Q m ρ (t.loud hk hkn hdo R.le_refl (x := undef) rfl t.rel hc1) (hQ.put _ _)
        rw [hcc] at this; exact this
      · have hdo2 := hop fr0 _ R w a (fun x hx => (hlike x hx).symm) t.rel t.frr
        have next : ∀ X w', CameK P B W (pendL O ++ D0) R w (fun v s' => (∀ p : Tl, p.1 ∈ T → QOk ops p.1 → p.1 ≠ k → ¬ Waits ops k p.1 → Ent P G ops N fr s p → Ent P G ops N (putF fr o.dst v) s' p) ∧ Sound P B W G ops N (V ||| 2 ^ k) T (putF fr o.dst v) s' K) X w' → wpAnyIn (Fw ρ) 0 P .any ops Q (m + c) (setL L k) (a.put o.dst X) w' := by
          rintro X w' ⟨v, s', R', ⟨c1, hs⟩, h2, h3, h4, h5⟩
          have := hs D0 _ R' _ _ w' O Q m ρ (t.loud hk hkn hdo h2 h3 h4 c1) ((hQ.of h2 h5).put _ _)
          rw [hcc] at this; exact this
        refine .inr ⟨by rw [hwg, ← hgd]; exact hb, ?_⟩
        rcases hdo2 with ⟨v, w', hr, hkk⟩ | ⟨w', hr, hkk⟩ | ⟨f, args, w', hr, hcl⟩ | ⟨l, f, tmps, as, bd, w', hr, hcl⟩
        · exact .inl ⟨v, w', hr, next _ _ hkk⟩
        · exact .inr (.inl ⟨w', hr, next _ _ hkk⟩)
        · exact .inr (.inr (.inl ⟨f, args, w', hr, Calls.mono hcl fun e w'' ⟨v, he, hkk⟩ => ⟨v, he, next _ _ hkk⟩⟩))
        · exact .inr (.inr (.inr ⟨l, f, tmps, as, bd, w', hr, RoundIn.mono hcl fun e w'' ⟨v, he, hkk⟩ => ⟨v, he, next _ _ hkk⟩⟩))
end
end
end Go.Ev
namespace Go.Ev
section
variable {α : Type}
noncomputable def fN (n : Nat) (k : Nat → α) : α := Nat.rec (k 0) (fun m _ => k (Nat.succ m)) n
theorem fN_eq (n : Nat) (k : Nat → α) : fN n k = k n := by cases n <;> rfl
noncomputable def fI (n : Int) (k : Int → α) : α := Int.rec (fun m => fN m fun m => k (.ofNat m)) (fun m => fN m fun m => k (.negSucc m)) n
theorem fI_eq (n : Int) (k : Int → α) : fI n k = k n := by
  cases n with
  | ofNat m => exact fN_eq m fun m => k (.ofNat m)
  | negSucc m => exact fN_eq m fun m => k (.negSucc m)
end
end Go.Ev
