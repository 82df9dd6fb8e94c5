/- YtjajcecenflejaaGreatCz41 -/
import Derived.Test.YtjajcecenflejaaGreatCz40
import Derived.Lib.TrailingZeros
import Derived.Shelf.SlIter.Nil
import Derived.LaidMore
import Derived.LaidLaws
import Derived.OpenShut
namespace Go.Ev
open Go.RowKit
end Go.Ev
namespace Go.Ev
open Go.RowKit Go.Maps Go.Sort Go.Proofs
section
variable {P : Program} {B : Nat → Prop} {W : World} {D : Dn} {R : Rf} {w w' : World}
theorem Rel.below {h : PT AO} (r : Rel P B W D R h w) (hb : Below w.heap.size w w') : Rel P B W D R h w' := by
  refine ⟨fun b o k x e hk => (r.obj b o k x e hk).mono R.le_refl (hb.block k (r.lo b k x hk).2), r.pend, r.nd, r.inj, r.new, fun b k x e => ?_, (fun k hk => Nat.lt_of_lt_of_le (r.base k hk) hb.size), r.old.trans (Kept.of_below hb r.base)⟩
  have := r.lo b k x e
  exact ⟨this.1, Nat.lt_of_lt_of_le this.2 hb.size⟩
theorem came_one {v : AV} {s' : S} {X : Value} (h : Came P B W D R w [(v, s')] X w') : CameK P B W D R w (fun u t => u = v ∧ t = s') X w' := by
  obtain ⟨u, t, R', h1, h2⟩ := h
  have : (u, t) = (v, s') := by simpa using h1
  simp only [Prod.mk.injEq] at this
  exact ⟨u, t, R', this, h2⟩
end
end Go.Ev
namespace Go.Ev
open Go.RowKit
theorem GOk.lf {B : Nat → Prop} {W : World} : GOk B W .lf := fun g c h => by rw [PT.get_lf] at h; cases h
theorem GOk.put {B : Nat → Prop} {W : World} {G : PT (List AV)} (hG : GOk B W G) {g0 : Nat} {c : List AV} {xs : List Value} {e : TypeId} {fz : Nat × Nat} (hc : concL (fun _ => none) c = some xs) (hW : W.heap[g0]? = some (.cells xs.toArray e fz)) (hB : ∀ k, k < W.heap.size → B k) :
    GOk B W (G.set (some c) (psOf g0)) := by
  intro g c' h
  by_cases hg : g = g0
  · subst hg
    rw [PT.get_set] at h
    simp only [Option.some.injEq] at h; subst h
    have := (Array.getElem?_eq_some_iff.1 hW).1
    exact ⟨hB _ this, xs, [], e, fz, hc, by simpa using hW⟩
  · rw [PT.get_set_ne _ _ _ _ (fun e => hg (psOf_inj e).symm)] at h
    exact hG g c' h
def AllF (P : Program) : List (Nat × Func) → Prop
  | [] => True
  | p :: l => P.funcs[p.1]? = some p.2 ∧ AllF P l
theorem tabI_ok {P : Program} {B : Nat → Prop} {W : World} {I : PT Intr} (hI : ∀ g f, I.get (psOf g) = some f → IntrOk P B W g f) {g0 : Nat} {f0 : Intr} (h0 : IntrOk P B W g0 f0) : ∀ g f, (I.set (some f0) (psOf g0)).get (psOf g) = some f → IntrOk P B W g f := by
  intro g f h
  by_cases e : g = g0
  · subst e
    rw [PT.get_set] at h
    simp only [Option.some.injEq] at h; subst h
    exact h0
  · rw [PT.get_set_ne _ _ _ _ (fun e' => e (psOf_inj e').symm)] at h
    exact hI g f h
theorem tabI_lf {P : Program} {B : Nat → Prop} {W : World} : ∀ g f, (PT.lf : PT Intr).get (psOf g) = some f → IntrOk P B W g f := fun g f h => by rw [PT.get_lf] at h; cases h
theorem tabD_ok {P : Program} {G : PT (List AV)} {fuel : Nat} : ∀ {l : List (Nat × Func)}, AllF P l → ∀ g c, (tabD P G fuel l).get (psOf g) = some c → ∃ fn, P.funcs[g]? = some fn ∧ c = fnc P G fuel fn
  | [], _, g, c, h => by
    have h' : (PT.lf : PT (Cl Fn)).get (psOf g) = some c := h
    rw [PT.get_lf] at h'; cases h'
  | p :: l, h, g, c, hg => by
    have h' : ((tabD P G fuel l).set (some (fnc P G fuel p.2)) (psOf p.1)).get (psOf g) = some c := hg
    by_cases e : g = p.1
    · subst e
      rw [PT.get_set] at h'
      simp only [Option.some.injEq] at h'; subst h'
      exact ⟨p.2, h.1, rfl⟩
    · rw [PT.get_set_ne _ _ _ _ (fun e' => e (psOf_inj e').symm)] at h'
      exact tabD_ok h.2 g c h'
theorem tabC_ok {P : Program} {G : PT (List AV)} {fuel : Nat} {l : List (Nat × Func)} (hl : AllF P l) (g : Nat) (c : Cl Fn) (hne : g ≠ yNo) (h : (tabC P G fuel l).get (psOf g) = some c) : ∃ fn, P.funcs[g]? = some fn ∧ c = fnc P G fuel fn := by
  unfold tabC at h
  rw [PT.get_set_ne _ _ _ _ (fun e' => hne (psOf_inj e').symm)] at h
  exact tabD_ok hl g c h
theorem tabC_yNo {P : Program} {G : PT (List AV)} {fuel : Nat} {l : List (Nat × Func)} (c : Cl Fn) (h : (tabC P G fuel l).get (psOf yNo) = some c) : c = .mk (yld P G fuel) := by
  unfold tabC at h
  rw [PT.get_set] at h
  simp only [Option.some.injEq] at h
  exact h.symm
theorem comes_true {P : Program} {w : World} {G : PT (List AV)} {l : List (Nat × Func)} {I : PT Intr} (hG : GOk (fun k => k < w.heap.size) w G) (hm : P.follows .mixedOrders = true) (hl : AllF P l) (hI : ∀ B W, GOk B W G → ∀ g f, I.get (psOf g) = some f → IntrOk P B W g f)
    (fuel d : Nat) {g : FuncId} (h : goF (tabC P G fuel l) I d g [] ⟨.lf, .h⟩ (fun v _ => isT v) = true) (hne : g ≠ yNo := by decide) : Calls P g #[] w fun e w' => e = .returned (.bool true) ∧ RowKit.Below w.heap.size w w' := by
  have hr : Rel P (fun k => k < w.heap.size) w [] (fun _ => none) (⟨.lf, .h⟩ : S).h w := ⟨(fun b o k x e => by rw [PT.get_lf] at e; cases e), (fun b o hb => by cases hb), List.nodup_nil, (fun b b' o o' k x x' e => by rw [PT.get_lf] at e; cases e), fun b _ => rfl, (fun b k x e => by cases e), fun _ h => h, Kept.refl _ w⟩
  have := ((goF_spec hm (tabC_ok hl) tabC_yNo hI d _ _ hG).call g [] _ _ hne h [] _ w [] hr rfl).2
  refine Calls.mono this ?_
  rintro e w' ⟨X, rfl, v, s', R', h1, h2, h3, h4, h5⟩
  unfold isT at h1
  split at h1
  · rename_i x
    subst h1
    simp only [conc, Option.some.injEq] at h3
    subst h3
    exact ⟨rfl, h5.below⟩
  · cases h1
theorem CallOk.mono {P : Program} {B : Nat → Prop} {W : World} {g : FuncId} {vs : List AV} {s : S} {K K' : AV → S → Prop} (h : CallOk P B W g vs s K) (hk : ∀ v s, K v s → K' v s) : CallOk P B W g vs s K' :=
  fun D R w xs h1 h2 => ⟨(h D R w xs h1 h2).1, Calls.mono (h D R w xs h1 h2).2 fun _ _ ⟨X, he, v, s', R', a1, a2⟩ => ⟨X, he, v, s', R', hk _ _ a1, a2⟩⟩
end Go.Ev
