/- YtjajcecenflejaaGreatCz38 -/
import Derived.Test.YtjajcecenflejaaGreatCz37
namespace Go.Ev
open Go.RowKit
section
variable {n : Nat} {P : Program} {B : Nat → Prop} {W : World} {G : PT (List AV)} {cf : CF}
def Kp (n : Nat) (k : K n) : Fr → S → Prop := fun fr s => ∃ X, (∀ t, getF fr t = getF (frOf n X) t) ∧ k X s = true
theorem Kp.ext (k : K n) : Ext (Kp n k) := fun _ _ _ h ⟨X, h1, h2⟩ => ⟨X, fun t => (h t).symm.trans (h1 t), h2⟩
theorem Kp.of {k : K n} {X : TT n} {s : S} (h : k X s = true) : Kp n k (frOf n X) s := ⟨X, fun _ => rfl, h⟩
def Still (P : Program) (G : PT (List AV)) (ops : Array Oper) (N : Nat) (T : List Nat) (k : Nat) (fr : Fr) (s : S) (fr' : Fr) (s' : S) : Prop :=
  ∀ p : Tl, p.1 ∈ T → QOk ops p.1 → p.1 ≠ k → ¬ Waits ops k p.1 → Ent P G ops N fr s p → Ent P G ops N fr' s' p
theorem rechk_spec {ops : Array Oper} {N : Nat} {oj : Oper} {k : Nat} (hoj : ops[k]? = some oj) : ∀ {T : List Nat} {c : Option (Cl (TT n → S → Bool))}, rechk n P G ops.toList oj T = some c → ∀ {fr : Fr} {s : S} {X' : TT n} {s' : S} {v : AV}, frOf n X' = putF fr oj.dst v → ckT n c X' s' = true → Still P G ops N T k fr s (putF fr oj.dst v) s'
  | [], _, _, fr, s, X', s', v, _, _ => fun p hp => by cases hp
  | i :: T, c, h, fr, s, X', s', v, hX, hc => by
    have h' : (match rechk n P G ops.toList oj T with
      | some c => bif tb (maskE oj) i then some c else (match nth ops.toList i with
        | some o => bif kP o.op then (bif still ops.toList oj.dst o then some c else none) else (match o.dst with
          | some d => (match c with
            | some (.mk c) => some (some (.mk fun X s => match qv P G ops.toList (frOf n X) s o with
              | some v => Bool.rec false (c X s) (avEq 20 (frOf n X d) v)
              | none => false))
            | none => some (some (.mk fun X s => match qv P G ops.toList (frOf n X) s o with
              | some v => avEq 20 (frOf n X d) v
              | none => false)))
          | none => none)
        | none => none)
      | none => none) = some c := h
    clear h
    rw [tb_eq] at h'
    split at h'
    · rename_i c0 h0
      have tail : ckT n c0 X' s' = true → ∀ p : Tl, p.1 ∈ T → QOk ops p.1 → p.1 ≠ k → ¬ Waits ops k p.1 → Ent P G ops N fr s p → Ent P G ops N (putF fr oj.dst v) s' p := fun hc0 => rechk_spec hoj h0 hX hc0
      cases hb : Nat.testBit (maskE oj) i with
      | true =>
        rw [hb] at h'
        simp only [cond_true, Option.some.injEq] at h'; subst h'
        intro p hp hq hk hw he
        rcases List.mem_cons.1 hp with e | hp
        · obtain ⟨e1, he1, hbi, hon⟩ := (maskE_bit oj i).1 hb
          exact absurd ⟨oj, hoj, e1, he1, hbi, by rw [hon, e]⟩ hw
        · exact tail hc p hp hq hk hw he
      | false =>
        rw [hb, cond_false] at h'
        split at h'
        · rename_i o ho
          rw [nth_eq, Array.getElem?_toList] at ho
          have own : ∀ p : Tl, p.1 = i → QOk ops p.1 → p.1 ≠ k → ∀ d, o.dst = some d → getF fr d = getF (putF fr oj.dst v) d := fun p e hq hk d hd => by
            refine (getF_putF_ne fun e2 => ?_).symm
            obtain ⟨oi, hoi, _, hqd⟩ := hq
            rw [e, ho] at hoi; simp only [Option.some.injEq] at hoi; subst hoi
            exact ((hqd d hd).2 k oj hoj (fun e3 => hk e3.symm)).1 e2
          cases hk : kP o.op with
          | true =>
            rw [hk, cond_true] at h'
            cases hs : still ops.toList oj.dst o with
            | false => rw [hs] at h'; cases h'
            | true =>
              rw [hs] at h'
              simp only [cond_true, Option.some.injEq] at h'; subst h'
              have hstill : ∀ d ∈ o.looksAt ops, getF fr d = getF (putF fr oj.dst v) d := by
                intro d hl
                refine (getF_putF_ne fun e => ?_).symm
                unfold still at hs
                rw [e] at hs
                dsimp only at hs
                rw [(memT_iff d _).2 (looksL_mem hl)] at hs
                cases hs
              intro p hp hq hpk hw he
              rcases List.mem_cons.1 hp with e | hp
              · have he' := he.like (fr' := putF fr oj.dst v) fun o2 ho2 => by
                  rw [e, ho] at ho2; simp only [Option.some.injEq] at ho2; subst ho2
                  exact ⟨hstill, own p e hq hpk⟩
                obtain ⟨o2, v2, g1, g2, g0, g3, g4⟩ := he'
                have g1' := g1
                rw [e, ho] at g1'; simp only [Option.some.injEq] at g1'; subst g1'
                refine ⟨o, v2, g1, g2, g0, fun hn => ?_, g4⟩
                have := g3 hn
                unfold qv at this ⊢
                rw [kP_lop hk] at this ⊢
                exact this
              · exact tail hc p hp hq hpk hw he
          | false =>
            rw [hk, cond_false] at h'
            split at h'
            · rename_i d hd
              have main : ∀ (hv : ∃ u, qv P G ops.toList (frOf n X') s' o = some u ∧ avEq 20 (frOf n X' d) u = true) (hc0 : ckT n c0 X' s' = true), Still P G ops N (i :: T) k fr s (putF fr oj.dst v) s' := by
                rintro ⟨u, hu, hav⟩ hc0 p hp hq hpk hw he
                rcases List.mem_cons.1 hp with e | hp
                · obtain ⟨o2, v2, g1, g2, g0, g3, g4⟩ := he
                  have g1' := g1
                  rw [e, ho] at g1'; simp only [Option.some.injEq] at g1'; subst g1'
                  have hu2 := avEq_eq 20 _ _ hav
                  rw [hX] at hu hu2
                  refine ⟨o, u, g1, g2, fun d' hd' => ?_, fun _ => hu, fun b hb => ?_⟩
                  · rw [hd] at hd'; simp only [Option.some.injEq] at hd'; subst hd'; exact hu2
                  · obtain ⟨_, mk, q2, _⟩ := g4 b hb
                    rw [alq_kP q2] at hk; cases hk
                · exact tail hc0 p hp hq hpk hw he
              split at h'
              · rename_i c1
                simp only [Option.some.injEq] at h'; subst h'
                simp only [ckT] at hc
                split at hc
                · rename_i u hu
                  cases hav : avEq 20 (frOf n X' d) u with
                  | false => rw [hav] at hc; cases hc
                  | true => rw [hav] at hc; exact main ⟨u, hu, hav⟩ hc
                · cases hc
              · simp only [Option.some.injEq] at h'; subst h'
                simp only [ckT] at hc
                split at hc
                · rename_i u hu; exact main ⟨u, hu, hc⟩ rfl
                · cases hc
            · cases h'
        · cases h'
    · cases h'
theorem lou_spec (hG : GOk B W G) (hcf : CFOk P B W cf) {ops : Array Oper} {N V i : Nat} {T : List Nat} {o : Oper} (ho : ops[i]? = some o) {rest w : Rn n} {k : K n} (hrest : ∀ X s, rest cf X s k = true → Sound P B W G ops N (V ||| 2 ^ i) T (frOf n X) s (Kp n k))
    (hw : lou n P G ops.toList N T o rest = .mk w) {X : TT n} {s : S} (h : w cf X s k = true) : Loud P B W G ops N V T (frOf n X) s (Kp n k) i := by
  have fin : ∀ (c : Option (Cl (TT n → S → Bool))) (rest' : Rn n), rechk n P G ops.toList o T = some c → (∀ X s, rest' cf X s k = true → ckT n c X s = true ∧ rest cf X s k = true) → ∀ w, stp n P G ops.toList N o rest' = .mk w → w cf X s k = true → Loud P B W G ops N V T (frOf n X) s (Kp n k) i := by
    intro c rest' hc hr w hw h
    obtain ⟨h1, h2⟩ := stp_spec hG hcf hw h
    refine ⟨o, ho, h1, ?_⟩
    rcases h2 with ⟨a1, X', a2, a3⟩ | ⟨a1, a2⟩
    · obtain ⟨b1, b2⟩ := hr _ _ a3
      refine .inl ⟨a1, rechk_spec ho hc a2 b1, ?_⟩
      rw [← a2]; exact hrest _ _ b2
    · refine .inr ⟨a1, a2.mono ?_⟩
      rintro v s' ⟨X', a3, a4⟩
      obtain ⟨b1, b2⟩ := hr _ _ a4
      refine ⟨rechk_spec ho hc a3 b1, ?_⟩
      rw [← a3]; exact hrest _ _ b2
  unfold lou at hw
  split at hw
  · rename_i hc
    exact fin none rest hc (fun X s h => ⟨rfl, h⟩) w hw h
  · rename_i c hc
    refine fin (some (.mk c)) (fun cf X s k => Bool.rec false (rest cf X s k) (c X s)) hc (fun X s h => ?_) w hw h
    have h' : (Bool.rec false (rest cf X s k) (c X s) : Bool) = true := h
    cases hb : c X s with
    | false => rw [hb] at h'; cases h'
    | true => rw [hb] at h'; exact ⟨hb, h'⟩
  · simp only [Cl.mk.injEq] at hw; subst hw; cases h
theorem alts_spec {f : Nat → Cl (Rn n)} {k : K n} {X : TT n} {s : S} : ∀ {l : List Nat} {w : Rn n}, alts n f l = .mk w → w cf X s k = true → ∀ i ∈ l, ∃ a, f i = .mk a ∧ a cf X s k = true
  | [], _, _, _, i, hi => by cases hi
  | j :: l, w, hw, h, i, hi => by
    have hw' : (match f j, alts n f l with | .mk a, .mk r => Cl.mk fun cf X s k => (Bool.rec false (r cf X s k) (a cf X s k) : Bool)) = .mk w := hw
    split at hw'
    rename_i a r ha hr
    simp only [Cl.mk.injEq] at hw'; subst hw'; dsimp only at h
    cases hb : a cf X s k with
    | false => rw [hb] at h; cases h
    | true =>
      rw [hb] at h
      rcases List.mem_cons.1 hi with rfl | hi
      · exact ⟨a, ha, hb⟩
      · exact alts_spec hr h i hi
theorem PT.set_comm {α : Type} (x y : Option α) : ∀ (p q : Ps) (t : PT α), p ≠ q → PT.set y q (PT.set x p t) = PT.set x p (PT.set y q t)
  | .h, .h, _, h => absurd rfl h
  | .h, .o _, .lf, _ => rfl
  | .h, .o _, .nd .., _ => rfl
  | .h, .i _, .lf, _ => rfl
  | .h, .i _, .nd .., _ => rfl
  | .o _, .h, .lf, _ => rfl
  | .o _, .h, .nd .., _ => rfl
  | .i _, .h, .lf, _ => rfl
  | .i _, .h, .nd .., _ => rfl
  | .o p, .o q, .lf, h => congrArg (fun l => PT.nd l none .lf) (PT.set_comm x y p q .lf fun e => h (e ▸ rfl))
  | .o p, .o q, .nd l v r, h => congrArg (fun l => PT.nd l v r) (PT.set_comm x y p q l fun e => h (e ▸ rfl))
  | .i p, .i q, .lf, h => congrArg (fun r => PT.nd .lf none r) (PT.set_comm x y p q .lf fun e => h (e ▸ rfl))
  | .i p, .i q, .nd l v r, h => congrArg (fun r => PT.nd l v r) (PT.set_comm x y p q r fun e => h (e ▸ rfl))
  | .o _, .i _, .lf, _ => rfl
  | .o _, .i _, .nd .., _ => rfl
  | .i _, .o _, .lf, _ => rfl
  | .i _, .o _, .nd .., _ => rfl
theorem sto_store {s : S} {t : TypeId} {a v : AV} {x : Ps × AO} (h : sto P s t a v = some x) : mStore P s t a v = some (und, putO s x) := by
  unfold sto at h
  unfold mStore
  split at h
  · rename_i b o i hi
    rw [hi]
    dsimp only
    cases hb : Nat.beq (len (cellsA v)) i.size with
    | false => rw [hb] at h; cases h
    | true =>
      cases hb2 : allOne (cellsA v) with
      | false => rw [hb, hb2] at h; cases h
      | true =>
        rw [hb, hb2, cond_true, cond_true] at h
        rw [cond_true, cond_true]
        split at h
        · rename_i c e ex hg
          rw [hg]
          dsimp only
          split at h
          · rename_i c' hc
            simp only [Option.some.injEq] at h; subst h
            rw [hc]; rfl
          · cases h
        · cases h
  · cases h
theorem sto_put {s : S} {t : TypeId} {a v : AV} {x y : Ps × AO} (h : sto P s t a v = some x) (hne : y.1 ≠ x.1) : sto P (putO s y) t a v = some x := by
  unfold sto at h ⊢
  split at h
  · rename_i b o i hi
    cases hb : Nat.beq (len (cellsA v)) i.size with
    | false => rw [hb] at h; cases h
    | true =>
      cases hb2 : allOne (cellsA v) with
      | false => rw [hb, hb2] at h; cases h
      | true =>
        rw [hb, hb2, cond_true, cond_true] at h
        rw [cond_true, cond_true]
        split at h
        · rename_i c e ex hg
          split at h
          · rename_i c' hc
            simp only [Option.some.injEq] at h; subst h
            have : (putO s y).h.get b = some (.cells c e ex) := by
              unfold putO; dsimp only
              rw [PT.get_set_ne _ _ _ _ hne]; exact hg
            rw [this]
            dsimp only
            rw [hc]
          · cases h
        · cases h
  · cases h
theorem stoC_spec {o : Oper} {f : TT n → S → Option (Ps × AO)} (h : stoC n P o = some (.mk f)) : o.dst = none ∧ o.guard = none ∧ ∀ X s x, f X s = some x → mop P (frOf n X) s o.op = some (und, putO s x) ∧ ∀ y : Ps × AO, y.1 ≠ x.1 → f X (putO s y) = some x := by
  unfold stoC at h
  split at h
  · rename_i t a x hop hd hg
    split at h
    · rename_i g g' hgg hg'
      simp only [Option.some.injEq, Cl.mk.injEq] at h; subst h
      refine ⟨hd, hg, fun X s y hf => ⟨?_, fun z hz => sto_put hf hz⟩⟩
      rw [hop]
      simp only [mop, gx_spec hgg, gx_spec hg']
      exact sto_store hf
    · cases h
  · cases h
theorem isN_spec {l : List Nat} (h : isN l = true) : l = [] := by
  unfold isN at h; split at h
  · rfl
  · cases h
theorem is1_spec {j : Nat} {l : List Nat} (h : is1 j l = true) : l = [j] := by
  unfold is1 at h; split at h
  · rw [Nat.eq_of_beq_eq_true h]
  · cases h
theorem two_spec (hG : GOk B W G) {ops : Array Oper} (hdown : ∀ j i, Waits ops j i → i < j) {N V i j : Nat} {T : List Nat} (hV : rdyG V ops.toList 0 = [i, j]) {w : Rn n} (hw : two n P G ops.toList T V i j = some (.mk w)) {X : TT n} {s : S} {k : K n} (h : w cf X s k = true) :
    Sound P B W G ops N V T (frOf n X) s (Kp n k) := by
  unfold two at hw
  split at hw
  · rename_i oi oj hoi hoj
    rw [nth_eq, Array.getElem?_toList] at hoi hoj
    split at hw
    · rename_i f g c d hf hg hc hd
      cases b1 : is1 j (rdyG (Nat.lor V (2 ^ i)) ops.toList 0) with
      | false => rw [b1] at hw; cases hw
      | true =>
      cases b2 : is1 i (rdyG (Nat.lor V (2 ^ j)) ops.toList 0) with
      | false => rw [b1, b2] at hw; cases hw
      | true =>
      cases b3 : isN (rdyG (Nat.lor (Nat.lor V (2 ^ i)) (2 ^ j)) ops.toList 0) with
      | false => rw [b1, b2, b3] at hw; cases hw
      | true =>
      cases b4 : isN (rdyG (Nat.lor (Nat.lor V (2 ^ j)) (2 ^ i)) ops.toList 0) with
      | false => rw [b1, b2, b3, b4] at hw; cases hw
      | true =>
      rw [b1, b2, b3, b4] at hw
      simp only [cond_true, Option.some.injEq, Cl.mk.injEq] at hw; subst hw; dsimp only at h
      split at h
      · rename_i x y hx hy
        cases c0 : Ps.beq x.1 y.1 with
        | true => rw [c0] at h; cases h
        | false =>
        cases c1 : ckT n c X (putO s x) with
        | false => rw [c0, c1] at h; cases h
        | true =>
        cases c2 : ckT n d X (putO s y) with
        | false => rw [c0, c1, c2] at h; cases h
        | true =>
        cases c3 : ckT n c X (putO (putO s y) x) with
        | false => rw [c0, c1, c2, c3] at h; cases h
        | true =>
        cases c4 : ckT n d X (putO (putO s x) y) with
        | false => rw [c0, c1, c2, c3, c4] at h; cases h
        | true =>
        rw [c0, c1, c2, c3, c4, cond_false, cond_true, cond_true, cond_true, cond_true] at h
        have hk : k X (putO (putO s x) y) = true := by
          cases hk : k X (putO (putO s x) y) with
          | true => rfl
          | false => rw [hk] at h; cases h
        have hne : x.1 ≠ y.1 := fun e => by rw [(Ps.beq_iff _ _).2 e] at c0; cases c0
        obtain ⟨fd, fg, fs⟩ := stoC_spec hf
        obtain ⟨gd', gg, gs⟩ := stoC_spec hg
        obtain ⟨f1, f2⟩ := fs X s x hx
        obtain ⟨g1, g2⟩ := gs X s y hy
        obtain ⟨f3, _⟩ := fs X _ x (f2 y (fun e => hne e.symm))
        obtain ⟨g3, _⟩ := gs X _ y (g2 x hne)
        have hswap : putO (putO s y) x = putO (putO s x) y := by
          unfold putO; dsimp only
          rw [PT.set_comm (some x.2) (some y.2) x.1 y.1 s.h hne]
        have hgi : guardOk ops.toList (frOf n X) oi = true := by unfold guardOk; rw [fg]
        have hgj : guardOk ops.toList (frOf n X) oj = true := by unfold guardOk; rw [gg]
        have hdi : dstOk N oi = true := by unfold dstOk; rw [fd]
        have hdj : dstOk N oj = true := by unfold dstOk; rw [gd']
        have pi : ∀ v, putF (frOf n X) oi.dst v = frOf n X := fun v => by rw [fd]; rfl
        have pj : ∀ v, putF (frOf n X) oj.dst v = frOf n X := fun v => by rw [gd']; rfl
        have rc := fun {fr s s'} (h : ckT n c X s' = true) (e : frOf n X = putF fr oi.dst und) => rechk_spec (N := N) hoi hc (s := s) e h
        have rd := fun {fr s s'} (h : ckT n d X s' = true) (e : frOf n X = putF fr oj.dst und) => rechk_spec (N := N) hoj hd (s := s) e h
        refine sound_node hG hdown (Kp.ext k) (fun e => by rw [hV] at e; cases e) fun q hq => ?_
        rw [hV] at hq
        rcases List.mem_cons.1 hq with rfl | hq
        · refine ⟨oi, hoi, hdi, .inr ⟨hgi, opOk_mop f1 ⟨rc c1 (pi und).symm, ?_⟩⟩⟩
          rw [pi]
          refine sound_node hG hdown (Kp.ext k) (fun e => by rw [show V ||| 2 ^ q = Nat.lor V (2 ^ q) from rfl, is1_spec b1] at e; cases e) fun q' hq' => ?_
          rw [show V ||| 2 ^ q = Nat.lor V (2 ^ q) from rfl, is1_spec b1] at hq'
          obtain rfl : q' = j := by simpa using hq'
          refine ⟨oj, hoj, hdj, .inr ⟨hgj, opOk_mop g3 ⟨rd c4 (pj und).symm, ?_⟩⟩⟩
          rw [pj]
          refine sound_node hG hdown (Kp.ext k) (fun _ => Kp.of hk) fun q2 hq2 => ?_
          rw [show V ||| 2 ^ q ||| 2 ^ q' = Nat.lor (Nat.lor V (2 ^ q)) (2 ^ q') from rfl, isN_spec b3] at hq2; cases hq2
        · obtain rfl : q = j := by simpa using hq
          refine ⟨oj, hoj, hdj, .inr ⟨hgj, opOk_mop g1 ⟨rd c2 (pj und).symm, ?_⟩⟩⟩
          rw [pj]
          refine sound_node hG hdown (Kp.ext k) (fun e => by rw [show V ||| 2 ^ q = Nat.lor V (2 ^ q) from rfl, is1_spec b2] at e; cases e) fun q' hq' => ?_
          rw [show V ||| 2 ^ q = Nat.lor V (2 ^ q) from rfl, is1_spec b2] at hq'
          obtain rfl : q' = i := by simpa using hq'
          refine ⟨oi, hoi, hdi, .inr ⟨hgi, opOk_mop f3 ⟨rc c3 (pi und).symm, ?_⟩⟩⟩
          rw [pi]
          refine sound_node hG hdown (Kp.ext k) (fun _ => by rw [hswap]; exact Kp.of hk) fun q2 hq2 => ?_
          rw [show V ||| 2 ^ q ||| 2 ^ q' = Nat.lor (Nat.lor V (2 ^ q)) (2 ^ q') from rfl, isN_spec b4] at hq2; cases hq2
      · cases h
    · cases hw
  · cases hw
theorem findQ_spec {ops : List Oper} : ∀ {l : List Nat} {q : Nat}, findQ ops l = some q → q ∈ l ∧ qok ops q = true
  | [], _, h => by cases h
  | i :: l, q, h => by
    have hd : (bif qok ops i then some i else findQ ops l) = some q := h
    cases hq : qok ops i with
    | true => rw [hq, cond_true] at hd; simp only [Option.some.injEq] at hd; subst hd; exact ⟨List.mem_cons_self, hq⟩
    | false => rw [hq, cond_false] at hd; have := findQ_spec hd; exact ⟨List.mem_cons_of_mem _ this.1, this.2⟩
theorem drR_spec (hG : GOk B W G) (hcf : CFOk P B W cf) {ops : Array Oper} (hdown : ∀ j i, Waits ops j i → i < j) {N : Nat} {k : K n} : ∀ (m V : Nat) (T : List Nat) (w : Rn n), drR n P G ops.toList N m V T = .mk w → ∀ (X : TT n) (s : S), w cf X s k = true → Sound P B W G ops N V T (frOf n X) s (Kp n k)
  | 0, V, T, w, hw, X, s, h => by
    have hw' : (match rdyF V ops.toList 0 with | [] => (Cl.mk (fun _ X s k => k X s) : Cl (Rn n)) | _ => .mk (bad n)) = .mk w := hw
    rw [rdyF_eq] at hw'
    split at hw'
    · rename_i hr
      simp only [Cl.mk.injEq] at hw'; subst hw'
      exact sound_node hG hdown (Kp.ext k) (fun _ => Kp.of h) fun q hq => by rw [hr] at hq; cases hq
    · simp only [Cl.mk.injEq] at hw'; subst hw'; cases h
  | m + 1, V, T, w, hw, X, s, h => by
    have hw' : (match rdyF V ops.toList 0 with
      | [] => (Cl.mk (fun _ X s k => k X s) : Cl (Rn n))
      | i :: l => match findF ops.toList (i :: l) with
        | some q => (match nth ops.toList q, drR n P G ops.toList N m (Nat.lor V (Nat.pow 2 q)) (q :: T) with
          | some o, .mk r => tel n P G ops.toList N o r
          | none, _ => .mk (bad n))
        | none => Option.rec (alts n (fun j => match nth ops.toList j, drR n P G ops.toList N m (Nat.lor V (Nat.pow 2 j)) T with
            | some o, .mk r => lou n P G ops.toList N T o r
            | none, _ => .mk (bad n)) (i :: l)) (fun c => c) (match l with | [j] => two n P G ops.toList T V i j | _ => none)) = .mk w := hw
    clear hw
    rw [rdyF_eq] at hw'
    split at hw'
    · rename_i hr
      simp only [Cl.mk.injEq] at hw'; subst hw'
      exact sound_node hG hdown (Kp.ext k) (fun _ => Kp.of h) fun q hq => by rw [hr] at hq; cases hq
    · rename_i i l hr
      rw [findF_eq] at hw'
      split at hw'
      · rename_i q hq
        obtain ⟨q1, q2⟩ := findQ_spec hq
        rw [← hr] at q1
        split at hw'
        · rename_i o r ho hrr
          rw [nth_eq, Array.getElem?_toList] at ho
          have ih := drR_spec (k := k) hG hcf hdown m _ _ r hrr
          obtain ⟨t1, t2⟩ := tel_spec hw' h
          rcases t2 with ⟨v, X', a1, a2, a3⟩ | ⟨a0, ob, mk, p, s', X', a1, a2, a3, a4⟩
          · have := ih X' s a3
            rw [a2] at this
            exact sound_tell q1 ho t1 (qok_spec q2) a1 this
          · have := ih X' s' a4
            rw [a3] at this
            exact sound_tellA q1 ho t1 (qok_spec q2) a0 a1 a2 this
        · simp only [Cl.mk.injEq] at hw'; subst hw'; cases h
      · have all : ∀ w, alts n (fun j => match nth ops.toList j, drR n P G ops.toList N m (Nat.lor V (Nat.pow 2 j)) T with
            | some o, .mk r => lou n P G ops.toList N T o r
            | none, _ => .mk (bad n)) (i :: l) = .mk w → w cf X s k = true → Sound P B W G ops N V T (frOf n X) s (Kp n k) := by
          intro w hw h
          refine sound_node hG hdown (Kp.ext k) (fun e => by rw [hr] at e; cases e) fun q hq => ?_
          rw [hr] at hq
          obtain ⟨a, ha, h'⟩ := alts_spec hw h q hq
          split at ha
          · rename_i o r ho hrr
            rw [nth_eq, Array.getElem?_toList] at ho
            exact lou_spec hG hcf ho (fun X s h => drR_spec hG hcf hdown m _ _ r hrr X s h) ha h'
          · simp only [Cl.mk.injEq] at ha; subst ha; cases h'
        split at hw'
        · rename_i j _
          cases ht : two n P G ops.toList T V i j with
          | none => rw [ht] at hw'; exact all w hw' h
          | some c =>
            rw [ht] at hw'
            dsimp only at hw'
            subst hw'
            exact two_spec hG hdown hr ht h
        · exact all w hw' h
end
end Go.Ev
