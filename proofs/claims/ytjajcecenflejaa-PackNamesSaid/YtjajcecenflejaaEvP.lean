/- A machine that runs a Go text by reckoning: operations with calls, regions. Of no program. -/
import Derived.Test.YtjajcecenflejaaEvO
namespace Go.Ev
open Go.RowKit

noncomputable def bindO {α β : Type} (f : α → Option (List β)) (l : List α) : Option (List β) := List.rec (some []) (fun x _ ih => match f x with
  | some a => (match ih with
    | some b => some (app a b)
    | none => none)
  | none => none) l
theorem bindO_spec {α β : Type} {f : α → Option (List β)} : ∀ {l : List α} {r : List β}, bindO f l = some r → ∀ x ∈ l, ∃ a, f x = some a ∧ ∀ y ∈ a, y ∈ r
  | [], _, _, x, hx => by cases hx
  | x :: l, r, h, y, hy => by
    have hd : bindO f (x :: l) = (match f x with | some a => (match bindO f l with | some b => some (app a b) | none => none) | none => none) := rfl
    rw [hd] at h
    split at h
    · rename_i a ha
      split at h
      · rename_i b hb
        simp only [Option.some.injEq, app_eq] at h; subst h
        rcases List.mem_cons.1 hy with rfl | hy
        · exact ⟨a, ha, fun z hz => List.mem_append_left _ hz⟩
        · obtain ⟨a', h1, h2⟩ := bindO_spec hb y hy
          exact ⟨a', h1, fun z hz => List.mem_append_right _ (h2 z hz)⟩
      · cases h
    · cases h
abbrev Cf := FuncId → List AV → S → Option (List (AV × S))
/-- what came of a call, or of an operation -/
def Came (P : Program) (B : Nat → Prop) (W : World) (D : Dn) (R : Rf) (w : World) (rs : List (AV × S)) (X : Value) (w' : World) : Prop :=
  ∃ v s' R', (v, s') ∈ rs ∧ R.le R' ∧ conc R' v = some X ∧ Rel P B W D R' s'.h w' ∧ Kept B w w'
def CfOk (P : Program) (B : Nat → Prop) (W : World) (cf : Cf) : Prop :=
  ∀ (D : Dn) (g : FuncId) (vs : List AV) (s : S) (rs : List (AV × S)) (R : Rf) (w : World) (xs : List Value), cf g vs s = some rs → Rel P B W D R s.h w → concL R vs = some xs →
    (callFunc g xs.toArray).run P w = .ok (.enter g xs.toArray) w ∧ Calls P g xs.toArray w fun e w' => ∃ X, e = .returned X ∧ Came P B W D R w rs X w'
noncomputable def notIn (n : Nat) (l : List Nat) : Bool := List.rec true (fun x _ ih => bif Nat.beq x n then false else ih) l
theorem notIn_iff (n : Nat) : ∀ l, notIn n l = true ↔ n ∉ l
  | [] => by simp [notIn]
  | x :: l => by
    have ih := notIn_iff n l
    show (bif Nat.beq x n then false else notIn n l) = true ↔ _
    rw [beq_dec]
    by_cases h : x = n
    · simp [h]
    · have h' : ¬ n = x := fun e => h e.symm
      simp [h, h', ih]
noncomputable def leftE (seen : List Nat) (es : List (AV × AV × Nat)) : List (AV × AV × Nat) := List.rec [] (fun e _ ih => bif notIn e.2.2 seen then e :: ih else ih) es
noncomputable def bornOk (since last : Nat) (es : List (AV × AV × Nat)) : Bool := List.rec true (fun e _ ih => bif Nat.ble (e.2.2 + 1) since then (bif Nat.ble (e.2.2 + 1) last then ih else false) else false) es
noncomputable def nextR (b m : Ps) (n cl : Nat) (seen : List Nat) (s : S) (l : List (AV × AV × Nat)) : List (AV × S) := List.rec [] (fun e _ ih => (.t [.b true, e.1, e.2.1], ⟨s.h.set (some (.iter m n (e.2.2 :: seen) cl)) b, s.n⟩) :: ih) l
noncomputable def evNext (b : Ps) (s : S) : Option (List (AV × S)) :=
  match s.h.get b with
  | some (.iter m n seen last) => (match s.h.get m with
    | some (.map es cl) => bif bornOk n last es then (match leftE seen es with
        | [] => some [(.t [.b false], ⟨s.h.set (some .dead) b, s.n⟩)]
        | e :: l => some (nextR b m n cl seen s (e :: l))) else none
    | _ => none)
  | some .iter0 => some [(.t [.b false], s)]
  | _ => none
section
variable {P : Program} {B : Nat → Prop} {W : World} {D : Dn} {R : Rf} {s : S} {w : World}
theorem leftE_conc (seen : List Nat) : ∀ {es : List (AV × AV × Nat)} {ys : List MapEntry}, entC R es = some ys → entC R (leftE seen es) = some (ys.filter fun e => !(seen.reverse.toArray).contains e.born)
  | [], ys, h => by simp only [entC, Option.some.injEq] at h; subst h; rfl
  | (k, v, n) :: es, ys, h => by
    obtain ⟨x, y, zs, h1, h2, h3, rfl⟩ := entC_cons.1 h
    have ih := leftE_conc seen h3
    have hd : leftE seen ((k, v, n) :: es) = bif notIn n seen then (k, v, n) :: leftE seen es else leftE seen es := rfl
    rw [hd]
    cases hb : notIn n seen with
    | true =>
      have hn := (notIn_iff n seen).1 hb
      rw [cond_true, List.filter_cons_of_pos (by simpa using hn)]
      exact entC_cons.2 ⟨x, y, _, h1, h2, ih, rfl⟩
    | false =>
      have hn : n ∈ seen := by
        refine Classical.byContradiction fun h => ?_
        rw [(notIn_iff n seen).2 h] at hb; cases hb
      rw [cond_false, List.filter_cons_of_neg (by simpa using hn)]
      exact ih
theorem bornOk_conc {since last : Nat} : ∀ {es : List (AV × AV × Nat)} {ys : List MapEntry}, bornOk since last es = true → entC R es = some ys → ∀ e ∈ ys, e.born < since ∧ e.born < last
  | [], ys, _, h, e, he => by simp only [entC, Option.some.injEq] at h; subst h; cases he
  | (k, v, n) :: es, ys, hb, h, e, he => by
    obtain ⟨x, y, zs, h1, h2, h3, rfl⟩ := entC_cons.1 h
    have hd : (bif Nat.ble (n + 1) since then (bif Nat.ble (n + 1) last then bornOk since last es else false) else false) = true := hb
    cases h4 : Nat.ble (n + 1) since with
    | false => rw [h4] at hd; cases hd
    | true =>
      cases h5 : Nat.ble (n + 1) last with
      | false => rw [h4, h5] at hd; cases hd
      | true =>
        rw [h4, h5, cond_true, cond_true] at hd
        rcases List.mem_cons.1 he with rfl | he
        · exact ⟨ble_le h4, ble_le h5⟩
        · exact bornOk_conc hd h3 e he
theorem nextR_mem {b m : Ps} {n cl : Nat} {seen : List Nat} {e : AV × AV × Nat} : ∀ {l : List (AV × AV × Nat)}, e ∈ l → (AV.t [.b true, e.1, e.2.1], (⟨s.h.set (some (.iter m n (e.2.2 :: seen) cl)) b, s.n⟩ : S)) ∈ nextR b m n cl seen s l
  | a :: l, h => by
    rcases List.mem_cons.1 h with rfl | h
    · exact List.mem_cons_self
    · exact List.mem_cons_of_mem _ (nextR_mem h)
theorem entC_mem : ∀ {l : List (AV × AV × Nat)} {es : List MapEntry} {i : Nat} {e : MapEntry}, entC R l = some es → es[i]? = some e → ∃ k v, (k, v, e.born) ∈ l ∧ conc R k = some e.key ∧ conc R v = some e.val
  | [], es, i, e, h, he => by simp only [entC, Option.some.injEq] at h; subst h; simp at he
  | (k, v, n) :: l, es, i, e, h, he => by
    obtain ⟨x, y, zs, h1, h2, h3, rfl⟩ := entC_cons.1 h
    cases i with
    | zero => simp at he; subst he; exact ⟨k, v, List.mem_cons_self, h1, h2⟩
    | succ i =>
      obtain ⟨k', v', a1, a2⟩ := entC_mem h3 (by simpa using he)
      exact ⟨k', v', List.mem_cons_of_mem _ a1, a2⟩
theorem evNext_run (r : Rel P B W D R s.h w) {b : Ps} {rs : List (AV × S)} {ty : TypeId} {X : Value} (hX : conc R (.p b 0) = some X) (h : evNext b s = some rs) :
    ∃ z w', (Instr.next X false ty).run P w = .ok z w' ∧ Came P B W D R w rs z w' := by
  obtain ⟨k, e, hk, rfl⟩ := conc_p hX
  unfold evNext at h
  split at h
  · rename_i m n seen last hb
    obtain ⟨y, hm, hheap⟩ := r.obj b _ k e hb hk
    have hlo := r.lo b k e hk
    have hk2 := hk
    have hgi : (getObj k).run P w = .ok (.mapIter (some y.1) n seen.reverse.toArray last) w := by simp [getObj, Sem.run, hheap]
    split at h
    · rename_i es cl hmm
      obtain ⟨km, xm, ys, hkm, hys, hmheap⟩ := map_at r hmm hm
      rw [hm] at hkm
      simp only [Option.some.injEq] at hkm
      have hkm1 : y.1 = km := by rw [hkm]
      have hgm : (getObj y.1).run P w = .ok (.map ys.toArray cl) w := by rw [hkm1]; exact run_getMap hmheap
      cases hbo : bornOk n last es with
      | false => rw [hbo] at h; cases h
      | true =>
        rw [hbo, cond_true] at h
        have hborn := bornOk_conc hbo hys
        have hleft := leftE_conc (R := R) seen hys
        have hgate : (!seen.reverse.toArray.isEmpty && !ys.toArray.isEmpty && ys.toArray.all (fun e => decide (e.born ≥ last))) = false := by
          cases ys with
          | nil => simp
          | cons y0 ys =>
            have := (hborn y0 List.mem_cons_self).2
            have h1 : ((y0 :: ys).toArray.all (fun e => decide (e.born ≥ last))) = false := by
              simp only [List.all_toArray, List.all_cons]
              rw [decide_eq_false (by omega)]; rfl
            rw [h1, Bool.and_false]
        have hfil : (ys.toArray.filter fun e => !seen.reverse.toArray.contains e.born) = (ys.filter fun e => !(seen.reverse.toArray).contains e.born).toArray := by simp
        have hold : (((ys.filter fun e => !(seen.reverse.toArray).contains e.born).toArray).filter fun e => decide (e.born < n)) = (ys.filter fun e => !(seen.reverse.toArray).contains e.born).toArray := by
          apply Array.ext'
          simp only [List.filter_toArray]
          refine List.filter_eq_self.2 fun e he => ?_
          have := (hborn e (List.mem_filter.1 he).1).1
          simpa using this
        have hnew : (((ys.filter fun e => !(seen.reverse.toArray).contains e.born).toArray).filter fun e => decide (e.born ≥ n)) = #[] := by
          apply Array.ext'
          simp only [List.filter_toArray]
          refine List.filter_eq_nil_iff.2 fun e he => ?_
          have := (hborn e (List.mem_filter.1 he).1).1
          simp; omega
        generalize hL : (ys.filter fun e => !(seen.reverse.toArray).contains e.born) = L at hleft hfil hold hnew
        split at h
        · rename_i hl
          simp only [Option.some.injEq] at h; subst h
          rw [hl] at hleft
          simp only [entC, Option.some.injEq] at hleft
          subst hleft
          refine ⟨.tuple #[.bool false], w, ?_, .t [.b false], _, R, List.mem_cons_self, R.le_refl, rfl, r.write hb rfl hk2 (Kept.refl B w) rfl trivial (fun j _ => rfl), Kept.refl B w⟩
          simp only [Instr.next, Sem.run_bind, hgi, Result.andThen_ok, hgm]
          rw [hgate]
          simp only [Bool.false_eq_true, if_false, hfil, hold, hnew]
          simp [Question.forced]
        · rename_i e0 l0 hl
          simp only [Option.some.injEq] at h; subst h
          rw [hl] at hleft
          have hLlen : L ≠ [] := by
            intro e; subst e
            have := entC_len hleft
            simp at this
          have hLe : L.toArray.isEmpty = false := by cases L with | nil => exact absurd rfl hLlen | cons a L => rfl
          -- which comes
          obtain ⟨i, wd, hrun, hbl, hrel, hi⟩ : ∃ i wd, ((choose (.mapNext ((L.toArray ++ #[]).map some).size)).run P w = .ok i wd) ∧ Kept B w wd ∧ Rel P B W D R s.h wd ∧ i < L.length := by
            rw [run_choose]
            have hsz : ((L.toArray ++ #[]).map some).size = L.length := by simp
            have hpos : 0 < L.length := List.length_pos_iff.2 hLlen
            rw [hsz]
            split
            · exact ⟨0, w, rfl, Kept.refl B w, r, hpos⟩
            · exact ⟨_, _, rfl, (Kept.refl B w).drew, r.drew, Nat.mod_lt _ hpos⟩
          have hgd : wd.heap[k]? = w.heap[k]? := by
            have : ∀ q, (choose q).run P w = .ok i wd → wd.heap = w.heap := by
              intro q hq
              rw [run_choose] at hq
              split at hq <;> (simp only [Result.ok.injEq] at hq; rw [← hq.2])
            rw [this _ hrun]
          have hseto : (setObj k (.mapIter (some y.1) n (seen.reverse.toArray.push (L[i]).born) cl)).run P wd = .ok () (setO wd k (.mapIter (some y.1) n (seen.reverse.toArray.push (L[i]).born) cl)) := by simp [setObj, Sem.run, hgd, hheap, setO]
          obtain ⟨kk, vv, hmem, hck, hcv⟩ := entC_mem hleft (List.getElem?_eq_getElem hi)
          refine ⟨.tuple #[.bool true, L[i].key, L[i].val], setO wd k (.mapIter (some y.1) n (seen.reverse.toArray.push (L[i]).born) cl), ?_, _, _, R, nextR_mem hmem, R.le_refl, ?_, ?_, hbl.trans (setO_below _ hlo.1)⟩
          · simp only [Instr.next, Sem.run_bind, hgi, Result.andThen_ok, hgm]
            rw [hgate]
            simp only [Bool.false_eq_true, if_false, hfil, hold, hnew, hLe, Array.empty_append]
            rw [Sem.run_bind, hrun]
            have hgi2 : ((L.toArray ++ #[]).map some)[i]? = some (some L[i]) := by simp [hi]
            simp only [Result.andThen_ok, hgi2, Sem.run_bind, hseto, Sem.run_pure]
          · simp only [conc, concL, hck, hcv, Option.map_some]
          · have hlo2 := hrel.lo b k _ hk2
            refine hrel.write hb rfl hk2 (setO_below _ hlo2.1) (setO_size ..) ⟨y, hm, ?_⟩ (fun j hj => setO_ne wd _ hj)
            rw [setO_at hlo2.2]
            congr 2
            simp
    · cases h
  · rename_i hb
    simp only [Option.some.injEq] at h; subst h
    have hheap := r.obj b _ k e hb hk
    have hgi : (getObj k).run P w = .ok (.mapIter none 0 #[] 0) w := by
      have : w.heap[k]? = some (.mapIter none 0 #[] 0) := hheap
      simp [getObj, Sem.run, this]
    refine ⟨.tuple #[.bool false], w, ?_, .t [.b false], s, R, List.mem_cons_self, R.le_refl, rfl, r, Kept.refl B w⟩
    simp [Instr.next, hgi]
  · cases h
end
end Go.Ev
